/- The contract of the document's Parse. -/
import Derived.Test.YtlhhcpbfjjhbfaaDoorBq
namespace Go.Proofs.YtlhhcpbfjjhbfaaDoor
open Go.RowKit
theorem atD_has {ds : List DV} {nm : List UInt8} {k : Int} (h : AtD ds nm k) : hasD ds nm = decide (0 ≤ k) ∧ -1 ≤ k := by
  unfold hasD
  rcases h with ⟨j, _, rfl, hf⟩ | ⟨rfl, hf⟩
  · rw [hf]; exact ⟨by simp, by omega⟩
  · rw [hf]; exact ⟨by simp, by omega⟩
theorem vals_ccl (fs : FL) : valsOf fs ccl = valsOf fs ccb := by unfold valsOf; rw [show lows ccl = lows ccb by decide]
theorem vals_pgl (fs : FL) : valsOf fs pgl = valsOf fs pgb := by unfold valsOf; rw [show lows pgl = lows pgb by decide]
theorem ten_poke {w w2 : World} {b g i : Nat} {W : World} (h : Ten w b w2 W) (hne : b ≠ g) (hg : w2.heap.size ≤ g) (hw : w.heap.size ≤ g) (x : Value) : Ten w b w2 (W.setCell ⟨g, i, none⟩ x) := by
  obtain ⟨⟨u0, u1, u2, u3, u4, u5, u6, u7, u8, u9, h1⟩, h2, h3, h4⟩ := h
  exact ⟨⟨u0, u1, u2, u3, u4, u5, u6, u7, u8, u9, cells_other h1 hne x⟩, h2.setCell hw x, h3, h4.setCell hg x⟩
set_option maxRecDepth 20000 in
set_option maxHeartbeats 8000000 in
theorem ctlR (v : Value) (fs : FL) (w : World) (hv : HoldsF w v fs) (hb : bulkF fs ≤ 1048576) :
    Calls Tryd.prog 26 #[v] w fun e w' => e = .returned (parOf fs) ∧ Below w.heap.size w w' := by
  have hl := bulkF_len fs
  have hfit : Fit fs := fun f hf => by have := bulkF_mem fs f hf; omega
  have hbv := bulk_vals fs ccb
  have cD := hide' (fun W (hw : Below w.heap.size w W) => refDirs v fs W (holdsF_mono hv hw) hfit (by omega) (by rw [vals_ccl]; omega))
  have cV := hide' (fun W (hw : Below w.heap.size w W) => valuesRef v fs ccl W (holdsF_mono hv hw) hfit (by decide) (by omega))
  have cH := hide' (fun W (hw : Below w.heap.size w W) => hasRef v fs pgl ncb W (holdsF_mono hv hw) hb (by decide))
  rw [vals_ccl] at cD cV
  rw [vals_pgl] at cH
  obtain ⟨ao, ca, _, _, hve, -⟩ := holdsF_parts hv
  rw [hve] at cD cV cH ⊢
  have PV : Hid (parOf fs = ctlV (dirsOf (valsOf fs ccb)) (decide (valsOf fs ccb = []) && decide (ncb ∈ toksOf (valsOf fs pgb)))) := rfl
  have hdm : Hid (∀ d ∈ dirsOf (valsOf fs ccb), d.2.1.length ≤ 4194304) := fun d hd => by
    have := dir_small _ d hd
    omega
  have hdl : Hid ((dirsOf (valsOf fs ccb)).length ≤ 1000000000000) := by
    have := dirs_len (valsOf fs ccb)
    unfold Hid
    omega
  clear hv hfit hve hbv
  generalize decide (ncb ∈ toksOf (valsOf fs pgb)) = dp at cH PV
  generalize valsOf fs ccb = vs at cD cV PV hdm hdl
  generalize parOf fs = pv at PV ⊢
  have T0 : Hid (∀ W, Below (w.alloc (.cells #[.bool false, .bool false, .bool false, .bool false, .bool false, .bool false, .int .i64 0, .int .i64 0, .int .i64 0, .int .i64 0] 40)).heap.size (w.alloc (.cells #[.bool false, .bool false, .bool false, .bool false, .bool false, .bool false, .int .i64 0, .int .i64 0, .int .i64 0, .int .i64 0] 40)) W → Ten w w.heap.size W W) := fun W hb =>
    ⟨⟨_, _, _, _, _, _, _, _, _, _, cells_below (cells_lit w #[.bool false, .bool false, .bool false, .bool false, .bool false, .bool false, .int .i64 0, .int .i64 0, .int .i64 0, .int .i64 0] 40) hb⟩, (below_alloc' w _).trans (hb.mono (below_alloc' w _).size), Nat.le_refl _, Below.refl _ _⟩
  go_enter Tryd.func26, Tryd.ntmps26
  go_wp2_with fail
  refine (cD.out _ (below_alloc' w _)).mono ?_
  rintro e w2 ⟨d, rfl, hod⟩
  have HD := hide' (holdsD_ownR hod)
  have T := hide' (T0.out w2 hod.2)
  have B2 := hide' (bt' (below_alloc' w (.cells #[.bool false, .bool false, .bool false, .bool false, .bool false, .bool false, .int .i64 0, .int .i64 0, .int .i64 0, .int .i64 0] 40)) hod.2)
  have NE2 : Hid (w.heap.size ≠ w2.heap.size) := by have := hod.2.size; unfold Hid; simp at this; omega
  obtain ⟨ad, cd, bd, hd, hcd⟩ := HD.out
  have CD := hide' hcd
  have CF := hide' (fun W (hb : Below w2.heap.size w2 W) nm => findR d (dirsOf vs) nm W (holdsD_mono HD.out hb) hdl.out)
  have CN := hide' (fun nm => numberR d (dirsOf vs) nm w2 HD.out hdl.out hdm.out)
  rw [hd] at CF CN ⊢
  clear hod HD hd cD T0 hcd
  unfold ctlV at PV
  obtain ⟨m, em⟩ : ∃ m, m = (dirsOf vs).length := ⟨_, rfl⟩
  have MM : Hid ((dirsOf vs).length = m) := em.symm
  rw [MM.out] at CF CN ⊢
  clear em
  have n6d : Hid (∃ n6, n6 = numD (dirsOf vs) mab) := ⟨_, rfl⟩
  obtain ⟨n6, e6⟩ := n6d.out
  obtain ⟨n7, e7⟩ : ∃ n7, n7 = numD (dirsOf vs) smb := ⟨_, rfl⟩
  obtain ⟨n8, e8⟩ : ∃ n8, n8 = numD (dirsOf vs) mfb := ⟨_, rfl⟩
  have c6 := hide' (CN.out mab)
  have c7 := hide' (CN.out smb)
  have c8 := hide' (CN.out mfb)
  rw [← e6] at c6 PV
  rw [← e7] at c7 PV
  rw [← e8] at c8 PV
  clear e6 e7 e8 CN n6d
  go_wp2_with fail
  refine c6.out.mono ?_
  rintro e w9 ⟨rfl, ew⟩
  rw [ew]
  clear ew w9
  go_wp2_with fail
  refine c7.out.mono ?_
  rintro e w9 ⟨rfl, ew⟩
  rw [ew]
  clear ew w9
  go_wp2_with fail
  refine c8.out.mono ?_
  rintro e w9 ⟨rfl, ew⟩
  rw [ew]
  clear ew w9
  go_wp2_with fail
  refine (CF.out _ (below_alloc' w2 _) nsb).mono ?_
  rintro e w9 ⟨k0, rfl, F0, ew⟩
  rw [ew]
  clear ew w9
  have H0 := hide' (atD_has F0.out).1
  go_wp2_with fail
  refine (CF.out _ (below_alloc' w2 _) ncb).mono ?_
  rintro e w9 ⟨k1, rfl, F1, ew⟩
  rw [ew]
  clear ew w9
  have H1 := hide' (atD_has F1.out).1
  go_wp2_with fail
  refine (CF.out _ (below_alloc' w2 _) pvb).mono ?_
  rintro e w9 ⟨k2, rfl, F2, ew⟩
  rw [ew]
  clear ew w9
  have H2 := hide' (atD_has F2.out).1
  go_wp2_with fail
  refine (CF.out _ (below_alloc' w2 _) pub).mono ?_
  rintro e w9 ⟨k3, rfl, F3, ew⟩
  rw [ew]
  clear ew w9
  have H3 := hide' (atD_has F3.out).1
  go_wp2_with fail
  refine (CF.out _ (below_alloc' w2 _) mrb).mono ?_
  rintro e w9 ⟨k4, rfl, F4, ew⟩
  rw [ew]
  clear ew w9
  have H4 := hide' (atD_has F4.out).1
  by_cases hk4 : 0 ≤ k4
  · have HM : Hid ((hasD (dirsOf vs) mrb || hasD (dirsOf vs) xrb) = true) := by unfold Hid; rw [H4.out, decide_eq_true hk4]; rfl
    clear H4 F4
    go_wp2_with fail
    refine (CF.out _ (below_alloc' w2 _) oib).mono ?_
    rintro e w9 ⟨k5, rfl, F5, ew⟩
    rw [ew]
    clear ew w9
    have H5 := hide' (atD_has F5.out).1
    go_wp2_with fail
    refine (CF.out _ (below_alloc' w2 _) msb).mono ?_
    rintro e w9 ⟨k9, rfl, F9, ew⟩
    rw [ew]
    clear ew w9
    have H9 := hide' (atD_has F9.out).1
    rcases F9.out with ⟨j, hj, rfl, hf⟩ | ⟨rfl, hf⟩
    · obtain ⟨had, hbd, hcell⟩ := CD.out (by omega)
      subst had
      obtain ⟨-, s1, s2⟩ := hcell j hj
      unfold S at s1
      have hjm : j < m := by rw [← MM.out]; exact hj
      have ned : w2.heap.size ≠ bd := by omega
      have ned' := ned.symm
      have hsz := hdm.out _ (List.getElem_mem hj)
      have cS := hide' (fun W => secondsRef ⟨((dirsOf vs)[j]'hj).2.1.toArray⟩ W (by rw [size_l]; omega))
      have HS0 : Hid (stlO (fndD (dirsOf vs) msb) = if ((dirsOf vs)[j]'hj).2.2 = true then secs ((dirsOf vs)[j]'hj).2.1 else 2147483648) := by unfold Hid; rw [hf]; rfl
      simp only at cS
      generalize ((dirsOf vs)[j]'hj).2.1 = p2 at s1 cS HS0 hsz
      generalize ((dirsOf vs)[j]'hj).2.2 = p3 at s2 HS0
      clear hcell hf F9 hj
      cases p3 with
      | false =>
        have HS : Hid (stlO (fndD (dirsOf vs) msb) = 2147483648) := by unfold Hid; rw [HS0.out]; rfl
        clear HS0 cS
        go_upto_region 14 with fail
        clear s1 s2
        have T1 := hide' (ten_below T.out (below_alloc' w2 (.cells #[.bool (decide (0 ≤ k0)), .bool (decide (0 ≤ k1)), .bool (decide (0 ≤ k2)), .bool (decide (0 ≤ k3)), .bool true, .bool (decide (0 ≤ k5)), .int .i64 n6, .int .i64 n7, .int .i64 n8, .int .i64 2147483648] 40)))
        have B3 := hide' (bt' B2.out (below_alloc' w2 (.cells #[.bool (decide (0 ≤ k0)), .bool (decide (0 ≤ k1)), .bool (decide (0 ≤ k2)), .bool (decide (0 ≤ k3)), .bool true, .bool (decide (0 ≤ k5)), .int .i64 n6, .int .i64 n7, .int .i64 n8, .int .i64 2147483648] 40)))
        have BK := hide' (cells_lit w2 #[.bool (decide (0 ≤ k0)), .bool (decide (0 ≤ k1)), .bool (decide (0 ≤ k2)), .bool (decide (0 ≤ k3)), .bool true, .bool (decide (0 ≤ k5)), .int .i64 n6, .int .i64 n7, .int .i64 n8, .int .i64 2147483648] 40)
        go_wp2_with fail
        refine (cV.out _ B3.out).mono ?_
        rintro e w5 ⟨u, rfl, ho⟩
        have T2 := hide' (ten_below T1.out ho.2)
        have BK2 := hide' (cells_below BK.out ho.2)
        have B5 := hide' (bt' B3.out ho.2)
        obtain ⟨au, cu, _, _, hu, -⟩ := holds_parts (holds_own ho)
        rw [hu]
        clear ho hu T1 BK B3
        by_cases hn : vs = []
        · have hn2 : vs.length = 0 := by rw [hn]; rfl
          rw [hn2]
          rw [decide_eq_true hn] at PV
          clear hn2
          cases dp with
          | false =>
            go_wp2_with fail
            refine (cH.out _ B5.out).mono ?_
            rintro e w6 ⟨rfl, b6⟩
            have T3 := hide' (ten_below T2.out b6)
            have BK3 := hide' (cells_below BK2.out b6)
            clear b6 T2 BK2 B5
            obtain ⟨⟨c0, c1, c2, c3, c4, c5, c6, c7, c8, c9⟩, -⟩ := cells10K BK3.out
            obtain ⟨⟨u0, u1, u2, u3, u4, u5, u6, u7, u8, u9, bk⟩, bel, hle, hb2⟩ := T3.out
            obtain ⟨⟨x0, x1, x2, x3, x4, x5, x6, x7, x8, x9⟩, f0, f1, f2, f3, f4, f5, f6, f7, f8, f9⟩ := cells10K bk
            have hlt := bk.2
            clear bk bel hb2
            go_wp2_with fail
            obtain ⟨⟨q0, q1, q2, q3, q4, q5, q6, q7, q8, q9⟩, qb⟩ := ten_store T3.out (.bool (decide (0 ≤ k0))) (.bool (decide (0 ≤ k1))) (.bool (decide (0 ≤ k2))) (.bool (decide (0 ≤ k3))) (.bool true) (.bool (decide (0 ≤ k5))) (.int .i64 n6) (.int .i64 n7) (.int .i64 n8) (.int .i64 2147483648) _ rfl
            exact bodyPost_ret (v := .agg #[.bool (decide (0 ≤ k0)), .bool (decide (0 ≤ k1)), .bool (decide (0 ≤ k2)), .bool (decide (0 ≤ k3)), .bool true, .bool (decide (0 ≤ k5)), .int .i64 n6, .int .i64 n7, .int .i64 n8, .int .i64 2147483648]) (by simp [results, Tryd.results26, go_sem, q0, q1, q2, q3, q4, q5, q6, q7, q8, q9]) rfl ⟨by rw [PV.out, H0.out, H1.out, H2.out, H3.out, HM.out, H5.out, HS.out]; simp, qb⟩
          | true =>
            go_wp2_with fail
            refine (cH.out _ B5.out).mono ?_
            rintro e w6 ⟨rfl, b6⟩
            have T3 := hide' (ten_below T2.out b6)
            have BK3 := hide' (cells_below BK2.out b6)
            clear b6 T2 BK2 B5
            obtain ⟨⟨c0, c1, c2, c3, c4, c5, c6, c7, c8, c9⟩, f0, f1, f2, f3, f4, f5, f6, f7, f8, f9⟩ := cells10K BK3.out
            go_upto_region 16 with fail
            have T4 := hide' (ten_poke (g := w2.heap.size) (i := 1) T3.out NE2.out (Nat.le_refl _) B2.out.size (.bool true))
            have BK4 := hide' (cells_set (j := 1) BK3.out (by simp) (.bool true))
            clear c0 c1 c2 c3 c4 c5 c6 c7 c8 c9 f0 f1 f2 f3 f4 f5 f6 f7 f8 f9 T3 BK3
            generalize w6.setCell ⟨w2.heap.size, 1, none⟩ (.bool true) = W7 at T4 BK4 ⊢
            obtain ⟨⟨c0, c1, c2, c3, c4, c5, c6, c7, c8, c9⟩, -⟩ := cells10K BK4.out
            obtain ⟨⟨u0, u1, u2, u3, u4, u5, u6, u7, u8, u9, bk⟩, bel, hle, hb2⟩ := T4.out
            obtain ⟨⟨x0, x1, x2, x3, x4, x5, x6, x7, x8, x9⟩, f0, f1, f2, f3, f4, f5, f6, f7, f8, f9⟩ := cells10K bk
            have hlt := bk.2
            clear bk bel hb2
            go_wp2_with fail
            obtain ⟨⟨q0, q1, q2, q3, q4, q5, q6, q7, q8, q9⟩, qb⟩ := ten_store T4.out (.bool (decide (0 ≤ k0))) (.bool true) (.bool (decide (0 ≤ k2))) (.bool (decide (0 ≤ k3))) (.bool true) (.bool (decide (0 ≤ k5))) (.int .i64 n6) (.int .i64 n7) (.int .i64 n8) (.int .i64 2147483648) _ rfl
            exact bodyPost_ret (v := .agg #[.bool (decide (0 ≤ k0)), .bool true, .bool (decide (0 ≤ k2)), .bool (decide (0 ≤ k3)), .bool true, .bool (decide (0 ≤ k5)), .int .i64 n6, .int .i64 n7, .int .i64 n8, .int .i64 2147483648]) (by simp [results, Tryd.results26, go_sem, q0, q1, q2, q3, q4, q5, q6, q7, q8, q9]) rfl ⟨by rw [PV.out, H0.out, H1.out, H2.out, H3.out, HM.out, H5.out, HS.out]; simp, qb⟩
        · have hn2 : ((vs.length : Int) == 0) = false := by
            have : vs.length ≠ 0 := fun h => hn (List.eq_nil_of_length_eq_zero h)
            simp; omega
          rw [decide_eq_false hn] at PV
          generalize vs.length = nv at hn2 ⊢
          obtain ⟨⟨c0, c1, c2, c3, c4, c5, c6, c7, c8, c9⟩, -⟩ := cells10K BK2.out
          obtain ⟨⟨u0, u1, u2, u3, u4, u5, u6, u7, u8, u9, bk⟩, bel, hle, hb2⟩ := T2.out
          obtain ⟨⟨x0, x1, x2, x3, x4, x5, x6, x7, x8, x9⟩, f0, f1, f2, f3, f4, f5, f6, f7, f8, f9⟩ := cells10K bk
          have hlt := bk.2
          clear bk bel hb2
          go_wp2_with fail
          obtain ⟨⟨q0, q1, q2, q3, q4, q5, q6, q7, q8, q9⟩, qb⟩ := ten_store T2.out (.bool (decide (0 ≤ k0))) (.bool (decide (0 ≤ k1))) (.bool (decide (0 ≤ k2))) (.bool (decide (0 ≤ k3))) (.bool true) (.bool (decide (0 ≤ k5))) (.int .i64 n6) (.int .i64 n7) (.int .i64 n8) (.int .i64 2147483648) _ rfl
          exact bodyPost_ret (v := .agg #[.bool (decide (0 ≤ k0)), .bool (decide (0 ≤ k1)), .bool (decide (0 ≤ k2)), .bool (decide (0 ≤ k3)), .bool true, .bool (decide (0 ≤ k5)), .int .i64 n6, .int .i64 n7, .int .i64 n8, .int .i64 2147483648]) (by simp [results, Tryd.results26, go_sem, q0, q1, q2, q3, q4, q5, q6, q7, q8, q9]) rfl ⟨by rw [PV.out, H0.out, H1.out, H2.out, H3.out, HM.out, H5.out, HS.out]; simp, qb⟩
      | true =>
        have HS : Hid (stlO (fndD (dirsOf vs) msb) = secs p2) := by unfold Hid; rw [HS0.out]; rfl
        clear HS0
        generalize secs p2 = n9 at cS HS
        go_wp2_with fail
        refine (cS.out _).mono ?_
        rintro e w9 ⟨rfl, ew⟩
        rw [ew]
        clear ew w9
        go_upto_region 14 with fail
        clear s1 s2
        have T1 := hide' (ten_below T.out (below_alloc' w2 (.cells #[.bool (decide (0 ≤ k0)), .bool (decide (0 ≤ k1)), .bool (decide (0 ≤ k2)), .bool (decide (0 ≤ k3)), .bool true, .bool (decide (0 ≤ k5)), .int .i64 n6, .int .i64 n7, .int .i64 n8, .int .i64 n9] 40)))
        have B3 := hide' (bt' B2.out (below_alloc' w2 (.cells #[.bool (decide (0 ≤ k0)), .bool (decide (0 ≤ k1)), .bool (decide (0 ≤ k2)), .bool (decide (0 ≤ k3)), .bool true, .bool (decide (0 ≤ k5)), .int .i64 n6, .int .i64 n7, .int .i64 n8, .int .i64 n9] 40)))
        have BK := hide' (cells_lit w2 #[.bool (decide (0 ≤ k0)), .bool (decide (0 ≤ k1)), .bool (decide (0 ≤ k2)), .bool (decide (0 ≤ k3)), .bool true, .bool (decide (0 ≤ k5)), .int .i64 n6, .int .i64 n7, .int .i64 n8, .int .i64 n9] 40)
        go_wp2_with fail
        refine (cV.out _ B3.out).mono ?_
        rintro e w5 ⟨u, rfl, ho⟩
        have T2 := hide' (ten_below T1.out ho.2)
        have BK2 := hide' (cells_below BK.out ho.2)
        have B5 := hide' (bt' B3.out ho.2)
        obtain ⟨au, cu, _, _, hu, -⟩ := holds_parts (holds_own ho)
        rw [hu]
        clear ho hu T1 BK B3
        by_cases hn : vs = []
        · have hn2 : vs.length = 0 := by rw [hn]; rfl
          rw [hn2]
          rw [decide_eq_true hn] at PV
          clear hn2
          cases dp with
          | false =>
            go_wp2_with fail
            refine (cH.out _ B5.out).mono ?_
            rintro e w6 ⟨rfl, b6⟩
            have T3 := hide' (ten_below T2.out b6)
            have BK3 := hide' (cells_below BK2.out b6)
            clear b6 T2 BK2 B5
            obtain ⟨⟨c0, c1, c2, c3, c4, c5, c6, c7, c8, c9⟩, -⟩ := cells10K BK3.out
            obtain ⟨⟨u0, u1, u2, u3, u4, u5, u6, u7, u8, u9, bk⟩, bel, hle, hb2⟩ := T3.out
            obtain ⟨⟨x0, x1, x2, x3, x4, x5, x6, x7, x8, x9⟩, f0, f1, f2, f3, f4, f5, f6, f7, f8, f9⟩ := cells10K bk
            have hlt := bk.2
            clear bk bel hb2
            go_wp2_with fail
            obtain ⟨⟨q0, q1, q2, q3, q4, q5, q6, q7, q8, q9⟩, qb⟩ := ten_store T3.out (.bool (decide (0 ≤ k0))) (.bool (decide (0 ≤ k1))) (.bool (decide (0 ≤ k2))) (.bool (decide (0 ≤ k3))) (.bool true) (.bool (decide (0 ≤ k5))) (.int .i64 n6) (.int .i64 n7) (.int .i64 n8) (.int .i64 n9) _ rfl
            exact bodyPost_ret (v := .agg #[.bool (decide (0 ≤ k0)), .bool (decide (0 ≤ k1)), .bool (decide (0 ≤ k2)), .bool (decide (0 ≤ k3)), .bool true, .bool (decide (0 ≤ k5)), .int .i64 n6, .int .i64 n7, .int .i64 n8, .int .i64 n9]) (by simp [results, Tryd.results26, go_sem, q0, q1, q2, q3, q4, q5, q6, q7, q8, q9]) rfl ⟨by rw [PV.out, H0.out, H1.out, H2.out, H3.out, HM.out, H5.out, HS.out]; simp, qb⟩
          | true =>
            go_wp2_with fail
            refine (cH.out _ B5.out).mono ?_
            rintro e w6 ⟨rfl, b6⟩
            have T3 := hide' (ten_below T2.out b6)
            have BK3 := hide' (cells_below BK2.out b6)
            clear b6 T2 BK2 B5
            obtain ⟨⟨c0, c1, c2, c3, c4, c5, c6, c7, c8, c9⟩, f0, f1, f2, f3, f4, f5, f6, f7, f8, f9⟩ := cells10K BK3.out
            go_upto_region 16 with fail
            have T4 := hide' (ten_poke (g := w2.heap.size) (i := 1) T3.out NE2.out (Nat.le_refl _) B2.out.size (.bool true))
            have BK4 := hide' (cells_set (j := 1) BK3.out (by simp) (.bool true))
            clear c0 c1 c2 c3 c4 c5 c6 c7 c8 c9 f0 f1 f2 f3 f4 f5 f6 f7 f8 f9 T3 BK3
            generalize w6.setCell ⟨w2.heap.size, 1, none⟩ (.bool true) = W7 at T4 BK4 ⊢
            obtain ⟨⟨c0, c1, c2, c3, c4, c5, c6, c7, c8, c9⟩, -⟩ := cells10K BK4.out
            obtain ⟨⟨u0, u1, u2, u3, u4, u5, u6, u7, u8, u9, bk⟩, bel, hle, hb2⟩ := T4.out
            obtain ⟨⟨x0, x1, x2, x3, x4, x5, x6, x7, x8, x9⟩, f0, f1, f2, f3, f4, f5, f6, f7, f8, f9⟩ := cells10K bk
            have hlt := bk.2
            clear bk bel hb2
            go_wp2_with fail
            obtain ⟨⟨q0, q1, q2, q3, q4, q5, q6, q7, q8, q9⟩, qb⟩ := ten_store T4.out (.bool (decide (0 ≤ k0))) (.bool true) (.bool (decide (0 ≤ k2))) (.bool (decide (0 ≤ k3))) (.bool true) (.bool (decide (0 ≤ k5))) (.int .i64 n6) (.int .i64 n7) (.int .i64 n8) (.int .i64 n9) _ rfl
            exact bodyPost_ret (v := .agg #[.bool (decide (0 ≤ k0)), .bool true, .bool (decide (0 ≤ k2)), .bool (decide (0 ≤ k3)), .bool true, .bool (decide (0 ≤ k5)), .int .i64 n6, .int .i64 n7, .int .i64 n8, .int .i64 n9]) (by simp [results, Tryd.results26, go_sem, q0, q1, q2, q3, q4, q5, q6, q7, q8, q9]) rfl ⟨by rw [PV.out, H0.out, H1.out, H2.out, H3.out, HM.out, H5.out, HS.out]; simp, qb⟩
        · have hn2 : ((vs.length : Int) == 0) = false := by
            have : vs.length ≠ 0 := fun h => hn (List.eq_nil_of_length_eq_zero h)
            simp; omega
          rw [decide_eq_false hn] at PV
          generalize vs.length = nv at hn2 ⊢
          obtain ⟨⟨c0, c1, c2, c3, c4, c5, c6, c7, c8, c9⟩, -⟩ := cells10K BK2.out
          obtain ⟨⟨u0, u1, u2, u3, u4, u5, u6, u7, u8, u9, bk⟩, bel, hle, hb2⟩ := T2.out
          obtain ⟨⟨x0, x1, x2, x3, x4, x5, x6, x7, x8, x9⟩, f0, f1, f2, f3, f4, f5, f6, f7, f8, f9⟩ := cells10K bk
          have hlt := bk.2
          clear bk bel hb2
          go_wp2_with fail
          obtain ⟨⟨q0, q1, q2, q3, q4, q5, q6, q7, q8, q9⟩, qb⟩ := ten_store T2.out (.bool (decide (0 ≤ k0))) (.bool (decide (0 ≤ k1))) (.bool (decide (0 ≤ k2))) (.bool (decide (0 ≤ k3))) (.bool true) (.bool (decide (0 ≤ k5))) (.int .i64 n6) (.int .i64 n7) (.int .i64 n8) (.int .i64 n9) _ rfl
          exact bodyPost_ret (v := .agg #[.bool (decide (0 ≤ k0)), .bool (decide (0 ≤ k1)), .bool (decide (0 ≤ k2)), .bool (decide (0 ≤ k3)), .bool true, .bool (decide (0 ≤ k5)), .int .i64 n6, .int .i64 n7, .int .i64 n8, .int .i64 n9]) (by simp [results, Tryd.results26, go_sem, q0, q1, q2, q3, q4, q5, q6, q7, q8, q9]) rfl ⟨by rw [PV.out, H0.out, H1.out, H2.out, H3.out, HM.out, H5.out, HS.out]; simp, qb⟩
    · have HS : Hid (stlO (fndD (dirsOf vs) msb) = -1) := by unfold Hid; rw [hf]; rfl
      clear hf F9
      go_upto_region 14 with fail
      have T1 := hide' (ten_below T.out (below_alloc' w2 (.cells #[.bool (decide (0 ≤ k0)), .bool (decide (0 ≤ k1)), .bool (decide (0 ≤ k2)), .bool (decide (0 ≤ k3)), .bool true, .bool (decide (0 ≤ k5)), .int .i64 n6, .int .i64 n7, .int .i64 n8, .int .i64 (-1)] 40)))
      have B3 := hide' (bt' B2.out (below_alloc' w2 (.cells #[.bool (decide (0 ≤ k0)), .bool (decide (0 ≤ k1)), .bool (decide (0 ≤ k2)), .bool (decide (0 ≤ k3)), .bool true, .bool (decide (0 ≤ k5)), .int .i64 n6, .int .i64 n7, .int .i64 n8, .int .i64 (-1)] 40)))
      have BK := hide' (cells_lit w2 #[.bool (decide (0 ≤ k0)), .bool (decide (0 ≤ k1)), .bool (decide (0 ≤ k2)), .bool (decide (0 ≤ k3)), .bool true, .bool (decide (0 ≤ k5)), .int .i64 n6, .int .i64 n7, .int .i64 n8, .int .i64 (-1)] 40)
      go_wp2_with fail
      refine (cV.out _ B3.out).mono ?_
      rintro e w5 ⟨u, rfl, ho⟩
      have T2 := hide' (ten_below T1.out ho.2)
      have BK2 := hide' (cells_below BK.out ho.2)
      have B5 := hide' (bt' B3.out ho.2)
      obtain ⟨au, cu, _, _, hu, -⟩ := holds_parts (holds_own ho)
      rw [hu]
      clear ho hu T1 BK B3
      by_cases hn : vs = []
      · have hn2 : vs.length = 0 := by rw [hn]; rfl
        rw [hn2]
        rw [decide_eq_true hn] at PV
        clear hn2
        cases dp with
        | false =>
          go_wp2_with fail
          refine (cH.out _ B5.out).mono ?_
          rintro e w6 ⟨rfl, b6⟩
          have T3 := hide' (ten_below T2.out b6)
          have BK3 := hide' (cells_below BK2.out b6)
          clear b6 T2 BK2 B5
          obtain ⟨⟨c0, c1, c2, c3, c4, c5, c6, c7, c8, c9⟩, -⟩ := cells10K BK3.out
          obtain ⟨⟨u0, u1, u2, u3, u4, u5, u6, u7, u8, u9, bk⟩, bel, hle, hb2⟩ := T3.out
          obtain ⟨⟨x0, x1, x2, x3, x4, x5, x6, x7, x8, x9⟩, f0, f1, f2, f3, f4, f5, f6, f7, f8, f9⟩ := cells10K bk
          have hlt := bk.2
          clear bk bel hb2
          go_wp2_with fail
          obtain ⟨⟨q0, q1, q2, q3, q4, q5, q6, q7, q8, q9⟩, qb⟩ := ten_store T3.out (.bool (decide (0 ≤ k0))) (.bool (decide (0 ≤ k1))) (.bool (decide (0 ≤ k2))) (.bool (decide (0 ≤ k3))) (.bool true) (.bool (decide (0 ≤ k5))) (.int .i64 n6) (.int .i64 n7) (.int .i64 n8) (.int .i64 (-1)) _ rfl
          exact bodyPost_ret (v := .agg #[.bool (decide (0 ≤ k0)), .bool (decide (0 ≤ k1)), .bool (decide (0 ≤ k2)), .bool (decide (0 ≤ k3)), .bool true, .bool (decide (0 ≤ k5)), .int .i64 n6, .int .i64 n7, .int .i64 n8, .int .i64 (-1)]) (by simp [results, Tryd.results26, go_sem, q0, q1, q2, q3, q4, q5, q6, q7, q8, q9]) rfl ⟨by rw [PV.out, H0.out, H1.out, H2.out, H3.out, HM.out, H5.out, HS.out]; simp, qb⟩
        | true =>
          go_wp2_with fail
          refine (cH.out _ B5.out).mono ?_
          rintro e w6 ⟨rfl, b6⟩
          have T3 := hide' (ten_below T2.out b6)
          have BK3 := hide' (cells_below BK2.out b6)
          clear b6 T2 BK2 B5
          obtain ⟨⟨c0, c1, c2, c3, c4, c5, c6, c7, c8, c9⟩, f0, f1, f2, f3, f4, f5, f6, f7, f8, f9⟩ := cells10K BK3.out
          go_upto_region 16 with fail
          have T4 := hide' (ten_poke (g := w2.heap.size) (i := 1) T3.out NE2.out (Nat.le_refl _) B2.out.size (.bool true))
          have BK4 := hide' (cells_set (j := 1) BK3.out (by simp) (.bool true))
          clear c0 c1 c2 c3 c4 c5 c6 c7 c8 c9 f0 f1 f2 f3 f4 f5 f6 f7 f8 f9 T3 BK3
          generalize w6.setCell ⟨w2.heap.size, 1, none⟩ (.bool true) = W7 at T4 BK4 ⊢
          obtain ⟨⟨c0, c1, c2, c3, c4, c5, c6, c7, c8, c9⟩, -⟩ := cells10K BK4.out
          obtain ⟨⟨u0, u1, u2, u3, u4, u5, u6, u7, u8, u9, bk⟩, bel, hle, hb2⟩ := T4.out
          obtain ⟨⟨x0, x1, x2, x3, x4, x5, x6, x7, x8, x9⟩, f0, f1, f2, f3, f4, f5, f6, f7, f8, f9⟩ := cells10K bk
          have hlt := bk.2
          clear bk bel hb2
          go_wp2_with fail
          obtain ⟨⟨q0, q1, q2, q3, q4, q5, q6, q7, q8, q9⟩, qb⟩ := ten_store T4.out (.bool (decide (0 ≤ k0))) (.bool true) (.bool (decide (0 ≤ k2))) (.bool (decide (0 ≤ k3))) (.bool true) (.bool (decide (0 ≤ k5))) (.int .i64 n6) (.int .i64 n7) (.int .i64 n8) (.int .i64 (-1)) _ rfl
          exact bodyPost_ret (v := .agg #[.bool (decide (0 ≤ k0)), .bool true, .bool (decide (0 ≤ k2)), .bool (decide (0 ≤ k3)), .bool true, .bool (decide (0 ≤ k5)), .int .i64 n6, .int .i64 n7, .int .i64 n8, .int .i64 (-1)]) (by simp [results, Tryd.results26, go_sem, q0, q1, q2, q3, q4, q5, q6, q7, q8, q9]) rfl ⟨by rw [PV.out, H0.out, H1.out, H2.out, H3.out, HM.out, H5.out, HS.out]; simp, qb⟩
      · have hn2 : ((vs.length : Int) == 0) = false := by
          have : vs.length ≠ 0 := fun h => hn (List.eq_nil_of_length_eq_zero h)
          simp; omega
        rw [decide_eq_false hn] at PV
        generalize vs.length = nv at hn2 ⊢
        obtain ⟨⟨c0, c1, c2, c3, c4, c5, c6, c7, c8, c9⟩, -⟩ := cells10K BK2.out
        obtain ⟨⟨u0, u1, u2, u3, u4, u5, u6, u7, u8, u9, bk⟩, bel, hle, hb2⟩ := T2.out
        obtain ⟨⟨x0, x1, x2, x3, x4, x5, x6, x7, x8, x9⟩, f0, f1, f2, f3, f4, f5, f6, f7, f8, f9⟩ := cells10K bk
        have hlt := bk.2
        clear bk bel hb2
        go_wp2_with fail
        obtain ⟨⟨q0, q1, q2, q3, q4, q5, q6, q7, q8, q9⟩, qb⟩ := ten_store T2.out (.bool (decide (0 ≤ k0))) (.bool (decide (0 ≤ k1))) (.bool (decide (0 ≤ k2))) (.bool (decide (0 ≤ k3))) (.bool true) (.bool (decide (0 ≤ k5))) (.int .i64 n6) (.int .i64 n7) (.int .i64 n8) (.int .i64 (-1)) _ rfl
        exact bodyPost_ret (v := .agg #[.bool (decide (0 ≤ k0)), .bool (decide (0 ≤ k1)), .bool (decide (0 ≤ k2)), .bool (decide (0 ≤ k3)), .bool true, .bool (decide (0 ≤ k5)), .int .i64 n6, .int .i64 n7, .int .i64 n8, .int .i64 (-1)]) (by simp [results, Tryd.results26, go_sem, q0, q1, q2, q3, q4, q5, q6, q7, q8, q9]) rfl ⟨by rw [PV.out, H0.out, H1.out, H2.out, H3.out, HM.out, H5.out, HS.out]; simp, qb⟩
  · go_wp2_with fail
    refine (CF.out _ (below_alloc' w2 _) xrb).mono ?_
    rintro e w9 ⟨kx, rfl, Fx, ew⟩
    rw [ew]
    clear ew w9
    have Hx := hide' (atD_has Fx.out).1
    have HM : Hid ((hasD (dirsOf vs) mrb || hasD (dirsOf vs) xrb) = (decide (0 ≤ k4) || decide (0 ≤ kx))) := by unfold Hid; rw [H4.out, Hx.out]
    clear H4 F4
    go_wp2_with fail
    refine (CF.out _ (below_alloc' w2 _) oib).mono ?_
    rintro e w9 ⟨k5, rfl, F5, ew⟩
    rw [ew]
    clear ew w9
    have H5 := hide' (atD_has F5.out).1
    go_wp2_with fail
    refine (CF.out _ (below_alloc' w2 _) msb).mono ?_
    rintro e w9 ⟨k9, rfl, F9, ew⟩
    rw [ew]
    clear ew w9
    have H9 := hide' (atD_has F9.out).1
    rcases F9.out with ⟨j, hj, rfl, hf⟩ | ⟨rfl, hf⟩
    · obtain ⟨had, hbd, hcell⟩ := CD.out (by omega)
      subst had
      obtain ⟨-, s1, s2⟩ := hcell j hj
      unfold S at s1
      have hjm : j < m := by rw [← MM.out]; exact hj
      have ned : w2.heap.size ≠ bd := by omega
      have ned' := ned.symm
      have hsz := hdm.out _ (List.getElem_mem hj)
      have cS := hide' (fun W => secondsRef ⟨((dirsOf vs)[j]'hj).2.1.toArray⟩ W (by rw [size_l]; omega))
      have HS0 : Hid (stlO (fndD (dirsOf vs) msb) = if ((dirsOf vs)[j]'hj).2.2 = true then secs ((dirsOf vs)[j]'hj).2.1 else 2147483648) := by unfold Hid; rw [hf]; rfl
      simp only at cS
      generalize ((dirsOf vs)[j]'hj).2.1 = p2 at s1 cS HS0 hsz
      generalize ((dirsOf vs)[j]'hj).2.2 = p3 at s2 HS0
      clear hcell hf F9 hj
      cases p3 with
      | false =>
        have HS : Hid (stlO (fndD (dirsOf vs) msb) = 2147483648) := by unfold Hid; rw [HS0.out]; rfl
        clear HS0 cS
        go_upto_region 14 with fail
        clear s1 s2
        have T1 := hide' (ten_below T.out (below_alloc' w2 (.cells #[.bool (decide (0 ≤ k0)), .bool (decide (0 ≤ k1)), .bool (decide (0 ≤ k2)), .bool (decide (0 ≤ k3)), .bool (decide (0 ≤ k4) || decide (0 ≤ kx)), .bool (decide (0 ≤ k5)), .int .i64 n6, .int .i64 n7, .int .i64 n8, .int .i64 2147483648] 40)))
        have B3 := hide' (bt' B2.out (below_alloc' w2 (.cells #[.bool (decide (0 ≤ k0)), .bool (decide (0 ≤ k1)), .bool (decide (0 ≤ k2)), .bool (decide (0 ≤ k3)), .bool (decide (0 ≤ k4) || decide (0 ≤ kx)), .bool (decide (0 ≤ k5)), .int .i64 n6, .int .i64 n7, .int .i64 n8, .int .i64 2147483648] 40)))
        have BK := hide' (cells_lit w2 #[.bool (decide (0 ≤ k0)), .bool (decide (0 ≤ k1)), .bool (decide (0 ≤ k2)), .bool (decide (0 ≤ k3)), .bool (decide (0 ≤ k4) || decide (0 ≤ kx)), .bool (decide (0 ≤ k5)), .int .i64 n6, .int .i64 n7, .int .i64 n8, .int .i64 2147483648] 40)
        go_wp2_with fail
        refine (cV.out _ B3.out).mono ?_
        rintro e w5 ⟨u, rfl, ho⟩
        have T2 := hide' (ten_below T1.out ho.2)
        have BK2 := hide' (cells_below BK.out ho.2)
        have B5 := hide' (bt' B3.out ho.2)
        obtain ⟨au, cu, _, _, hu, -⟩ := holds_parts (holds_own ho)
        rw [hu]
        clear ho hu T1 BK B3
        by_cases hn : vs = []
        · have hn2 : vs.length = 0 := by rw [hn]; rfl
          rw [hn2]
          rw [decide_eq_true hn] at PV
          clear hn2
          cases dp with
          | false =>
            go_wp2_with fail
            refine (cH.out _ B5.out).mono ?_
            rintro e w6 ⟨rfl, b6⟩
            have T3 := hide' (ten_below T2.out b6)
            have BK3 := hide' (cells_below BK2.out b6)
            clear b6 T2 BK2 B5
            obtain ⟨⟨c0, c1, c2, c3, c4, c5, c6, c7, c8, c9⟩, -⟩ := cells10K BK3.out
            obtain ⟨⟨u0, u1, u2, u3, u4, u5, u6, u7, u8, u9, bk⟩, bel, hle, hb2⟩ := T3.out
            obtain ⟨⟨x0, x1, x2, x3, x4, x5, x6, x7, x8, x9⟩, f0, f1, f2, f3, f4, f5, f6, f7, f8, f9⟩ := cells10K bk
            have hlt := bk.2
            clear bk bel hb2
            go_wp2_with fail
            obtain ⟨⟨q0, q1, q2, q3, q4, q5, q6, q7, q8, q9⟩, qb⟩ := ten_store T3.out (.bool (decide (0 ≤ k0))) (.bool (decide (0 ≤ k1))) (.bool (decide (0 ≤ k2))) (.bool (decide (0 ≤ k3))) (.bool (decide (0 ≤ k4) || decide (0 ≤ kx))) (.bool (decide (0 ≤ k5))) (.int .i64 n6) (.int .i64 n7) (.int .i64 n8) (.int .i64 2147483648) _ rfl
            exact bodyPost_ret (v := .agg #[.bool (decide (0 ≤ k0)), .bool (decide (0 ≤ k1)), .bool (decide (0 ≤ k2)), .bool (decide (0 ≤ k3)), .bool (decide (0 ≤ k4) || decide (0 ≤ kx)), .bool (decide (0 ≤ k5)), .int .i64 n6, .int .i64 n7, .int .i64 n8, .int .i64 2147483648]) (by simp [results, Tryd.results26, go_sem, q0, q1, q2, q3, q4, q5, q6, q7, q8, q9]) rfl ⟨by rw [PV.out, H0.out, H1.out, H2.out, H3.out, HM.out, H5.out, HS.out]; simp, qb⟩
          | true =>
            go_wp2_with fail
            refine (cH.out _ B5.out).mono ?_
            rintro e w6 ⟨rfl, b6⟩
            have T3 := hide' (ten_below T2.out b6)
            have BK3 := hide' (cells_below BK2.out b6)
            clear b6 T2 BK2 B5
            obtain ⟨⟨c0, c1, c2, c3, c4, c5, c6, c7, c8, c9⟩, f0, f1, f2, f3, f4, f5, f6, f7, f8, f9⟩ := cells10K BK3.out
            go_upto_region 16 with fail
            have T4 := hide' (ten_poke (g := w2.heap.size) (i := 1) T3.out NE2.out (Nat.le_refl _) B2.out.size (.bool true))
            have BK4 := hide' (cells_set (j := 1) BK3.out (by simp) (.bool true))
            clear c0 c1 c2 c3 c4 c5 c6 c7 c8 c9 f0 f1 f2 f3 f4 f5 f6 f7 f8 f9 T3 BK3
            generalize w6.setCell ⟨w2.heap.size, 1, none⟩ (.bool true) = W7 at T4 BK4 ⊢
            obtain ⟨⟨c0, c1, c2, c3, c4, c5, c6, c7, c8, c9⟩, -⟩ := cells10K BK4.out
            obtain ⟨⟨u0, u1, u2, u3, u4, u5, u6, u7, u8, u9, bk⟩, bel, hle, hb2⟩ := T4.out
            obtain ⟨⟨x0, x1, x2, x3, x4, x5, x6, x7, x8, x9⟩, f0, f1, f2, f3, f4, f5, f6, f7, f8, f9⟩ := cells10K bk
            have hlt := bk.2
            clear bk bel hb2
            go_wp2_with fail
            obtain ⟨⟨q0, q1, q2, q3, q4, q5, q6, q7, q8, q9⟩, qb⟩ := ten_store T4.out (.bool (decide (0 ≤ k0))) (.bool true) (.bool (decide (0 ≤ k2))) (.bool (decide (0 ≤ k3))) (.bool (decide (0 ≤ k4) || decide (0 ≤ kx))) (.bool (decide (0 ≤ k5))) (.int .i64 n6) (.int .i64 n7) (.int .i64 n8) (.int .i64 2147483648) _ rfl
            exact bodyPost_ret (v := .agg #[.bool (decide (0 ≤ k0)), .bool true, .bool (decide (0 ≤ k2)), .bool (decide (0 ≤ k3)), .bool (decide (0 ≤ k4) || decide (0 ≤ kx)), .bool (decide (0 ≤ k5)), .int .i64 n6, .int .i64 n7, .int .i64 n8, .int .i64 2147483648]) (by simp [results, Tryd.results26, go_sem, q0, q1, q2, q3, q4, q5, q6, q7, q8, q9]) rfl ⟨by rw [PV.out, H0.out, H1.out, H2.out, H3.out, HM.out, H5.out, HS.out]; simp, qb⟩
        · have hn2 : ((vs.length : Int) == 0) = false := by
            have : vs.length ≠ 0 := fun h => hn (List.eq_nil_of_length_eq_zero h)
            simp; omega
          rw [decide_eq_false hn] at PV
          generalize vs.length = nv at hn2 ⊢
          obtain ⟨⟨c0, c1, c2, c3, c4, c5, c6, c7, c8, c9⟩, -⟩ := cells10K BK2.out
          obtain ⟨⟨u0, u1, u2, u3, u4, u5, u6, u7, u8, u9, bk⟩, bel, hle, hb2⟩ := T2.out
          obtain ⟨⟨x0, x1, x2, x3, x4, x5, x6, x7, x8, x9⟩, f0, f1, f2, f3, f4, f5, f6, f7, f8, f9⟩ := cells10K bk
          have hlt := bk.2
          clear bk bel hb2
          go_wp2_with fail
          obtain ⟨⟨q0, q1, q2, q3, q4, q5, q6, q7, q8, q9⟩, qb⟩ := ten_store T2.out (.bool (decide (0 ≤ k0))) (.bool (decide (0 ≤ k1))) (.bool (decide (0 ≤ k2))) (.bool (decide (0 ≤ k3))) (.bool (decide (0 ≤ k4) || decide (0 ≤ kx))) (.bool (decide (0 ≤ k5))) (.int .i64 n6) (.int .i64 n7) (.int .i64 n8) (.int .i64 2147483648) _ rfl
          exact bodyPost_ret (v := .agg #[.bool (decide (0 ≤ k0)), .bool (decide (0 ≤ k1)), .bool (decide (0 ≤ k2)), .bool (decide (0 ≤ k3)), .bool (decide (0 ≤ k4) || decide (0 ≤ kx)), .bool (decide (0 ≤ k5)), .int .i64 n6, .int .i64 n7, .int .i64 n8, .int .i64 2147483648]) (by simp [results, Tryd.results26, go_sem, q0, q1, q2, q3, q4, q5, q6, q7, q8, q9]) rfl ⟨by rw [PV.out, H0.out, H1.out, H2.out, H3.out, HM.out, H5.out, HS.out]; simp, qb⟩
      | true =>
        have HS : Hid (stlO (fndD (dirsOf vs) msb) = secs p2) := by unfold Hid; rw [HS0.out]; rfl
        clear HS0
        generalize secs p2 = n9 at cS HS
        go_wp2_with fail
        refine (cS.out _).mono ?_
        rintro e w9 ⟨rfl, ew⟩
        rw [ew]
        clear ew w9
        go_upto_region 14 with fail
        clear s1 s2
        have T1 := hide' (ten_below T.out (below_alloc' w2 (.cells #[.bool (decide (0 ≤ k0)), .bool (decide (0 ≤ k1)), .bool (decide (0 ≤ k2)), .bool (decide (0 ≤ k3)), .bool (decide (0 ≤ k4) || decide (0 ≤ kx)), .bool (decide (0 ≤ k5)), .int .i64 n6, .int .i64 n7, .int .i64 n8, .int .i64 n9] 40)))
        have B3 := hide' (bt' B2.out (below_alloc' w2 (.cells #[.bool (decide (0 ≤ k0)), .bool (decide (0 ≤ k1)), .bool (decide (0 ≤ k2)), .bool (decide (0 ≤ k3)), .bool (decide (0 ≤ k4) || decide (0 ≤ kx)), .bool (decide (0 ≤ k5)), .int .i64 n6, .int .i64 n7, .int .i64 n8, .int .i64 n9] 40)))
        have BK := hide' (cells_lit w2 #[.bool (decide (0 ≤ k0)), .bool (decide (0 ≤ k1)), .bool (decide (0 ≤ k2)), .bool (decide (0 ≤ k3)), .bool (decide (0 ≤ k4) || decide (0 ≤ kx)), .bool (decide (0 ≤ k5)), .int .i64 n6, .int .i64 n7, .int .i64 n8, .int .i64 n9] 40)
        go_wp2_with fail
        refine (cV.out _ B3.out).mono ?_
        rintro e w5 ⟨u, rfl, ho⟩
        have T2 := hide' (ten_below T1.out ho.2)
        have BK2 := hide' (cells_below BK.out ho.2)
        have B5 := hide' (bt' B3.out ho.2)
        obtain ⟨au, cu, _, _, hu, -⟩ := holds_parts (holds_own ho)
        rw [hu]
        clear ho hu T1 BK B3
        by_cases hn : vs = []
        · have hn2 : vs.length = 0 := by rw [hn]; rfl
          rw [hn2]
          rw [decide_eq_true hn] at PV
          clear hn2
          cases dp with
          | false =>
            go_wp2_with fail
            refine (cH.out _ B5.out).mono ?_
            rintro e w6 ⟨rfl, b6⟩
            have T3 := hide' (ten_below T2.out b6)
            have BK3 := hide' (cells_below BK2.out b6)
            clear b6 T2 BK2 B5
            obtain ⟨⟨c0, c1, c2, c3, c4, c5, c6, c7, c8, c9⟩, -⟩ := cells10K BK3.out
            obtain ⟨⟨u0, u1, u2, u3, u4, u5, u6, u7, u8, u9, bk⟩, bel, hle, hb2⟩ := T3.out
            obtain ⟨⟨x0, x1, x2, x3, x4, x5, x6, x7, x8, x9⟩, f0, f1, f2, f3, f4, f5, f6, f7, f8, f9⟩ := cells10K bk
            have hlt := bk.2
            clear bk bel hb2
            go_wp2_with fail
            obtain ⟨⟨q0, q1, q2, q3, q4, q5, q6, q7, q8, q9⟩, qb⟩ := ten_store T3.out (.bool (decide (0 ≤ k0))) (.bool (decide (0 ≤ k1))) (.bool (decide (0 ≤ k2))) (.bool (decide (0 ≤ k3))) (.bool (decide (0 ≤ k4) || decide (0 ≤ kx))) (.bool (decide (0 ≤ k5))) (.int .i64 n6) (.int .i64 n7) (.int .i64 n8) (.int .i64 n9) _ rfl
            exact bodyPost_ret (v := .agg #[.bool (decide (0 ≤ k0)), .bool (decide (0 ≤ k1)), .bool (decide (0 ≤ k2)), .bool (decide (0 ≤ k3)), .bool (decide (0 ≤ k4) || decide (0 ≤ kx)), .bool (decide (0 ≤ k5)), .int .i64 n6, .int .i64 n7, .int .i64 n8, .int .i64 n9]) (by simp [results, Tryd.results26, go_sem, q0, q1, q2, q3, q4, q5, q6, q7, q8, q9]) rfl ⟨by rw [PV.out, H0.out, H1.out, H2.out, H3.out, HM.out, H5.out, HS.out]; simp, qb⟩
          | true =>
            go_wp2_with fail
            refine (cH.out _ B5.out).mono ?_
            rintro e w6 ⟨rfl, b6⟩
            have T3 := hide' (ten_below T2.out b6)
            have BK3 := hide' (cells_below BK2.out b6)
            clear b6 T2 BK2 B5
            obtain ⟨⟨c0, c1, c2, c3, c4, c5, c6, c7, c8, c9⟩, f0, f1, f2, f3, f4, f5, f6, f7, f8, f9⟩ := cells10K BK3.out
            go_upto_region 16 with fail
            have T4 := hide' (ten_poke (g := w2.heap.size) (i := 1) T3.out NE2.out (Nat.le_refl _) B2.out.size (.bool true))
            have BK4 := hide' (cells_set (j := 1) BK3.out (by simp) (.bool true))
            clear c0 c1 c2 c3 c4 c5 c6 c7 c8 c9 f0 f1 f2 f3 f4 f5 f6 f7 f8 f9 T3 BK3
            generalize w6.setCell ⟨w2.heap.size, 1, none⟩ (.bool true) = W7 at T4 BK4 ⊢
            obtain ⟨⟨c0, c1, c2, c3, c4, c5, c6, c7, c8, c9⟩, -⟩ := cells10K BK4.out
            obtain ⟨⟨u0, u1, u2, u3, u4, u5, u6, u7, u8, u9, bk⟩, bel, hle, hb2⟩ := T4.out
            obtain ⟨⟨x0, x1, x2, x3, x4, x5, x6, x7, x8, x9⟩, f0, f1, f2, f3, f4, f5, f6, f7, f8, f9⟩ := cells10K bk
            have hlt := bk.2
            clear bk bel hb2
            go_wp2_with fail
            obtain ⟨⟨q0, q1, q2, q3, q4, q5, q6, q7, q8, q9⟩, qb⟩ := ten_store T4.out (.bool (decide (0 ≤ k0))) (.bool true) (.bool (decide (0 ≤ k2))) (.bool (decide (0 ≤ k3))) (.bool (decide (0 ≤ k4) || decide (0 ≤ kx))) (.bool (decide (0 ≤ k5))) (.int .i64 n6) (.int .i64 n7) (.int .i64 n8) (.int .i64 n9) _ rfl
            exact bodyPost_ret (v := .agg #[.bool (decide (0 ≤ k0)), .bool true, .bool (decide (0 ≤ k2)), .bool (decide (0 ≤ k3)), .bool (decide (0 ≤ k4) || decide (0 ≤ kx)), .bool (decide (0 ≤ k5)), .int .i64 n6, .int .i64 n7, .int .i64 n8, .int .i64 n9]) (by simp [results, Tryd.results26, go_sem, q0, q1, q2, q3, q4, q5, q6, q7, q8, q9]) rfl ⟨by rw [PV.out, H0.out, H1.out, H2.out, H3.out, HM.out, H5.out, HS.out]; simp, qb⟩
        · have hn2 : ((vs.length : Int) == 0) = false := by
            have : vs.length ≠ 0 := fun h => hn (List.eq_nil_of_length_eq_zero h)
            simp; omega
          rw [decide_eq_false hn] at PV
          generalize vs.length = nv at hn2 ⊢
          obtain ⟨⟨c0, c1, c2, c3, c4, c5, c6, c7, c8, c9⟩, -⟩ := cells10K BK2.out
          obtain ⟨⟨u0, u1, u2, u3, u4, u5, u6, u7, u8, u9, bk⟩, bel, hle, hb2⟩ := T2.out
          obtain ⟨⟨x0, x1, x2, x3, x4, x5, x6, x7, x8, x9⟩, f0, f1, f2, f3, f4, f5, f6, f7, f8, f9⟩ := cells10K bk
          have hlt := bk.2
          clear bk bel hb2
          go_wp2_with fail
          obtain ⟨⟨q0, q1, q2, q3, q4, q5, q6, q7, q8, q9⟩, qb⟩ := ten_store T2.out (.bool (decide (0 ≤ k0))) (.bool (decide (0 ≤ k1))) (.bool (decide (0 ≤ k2))) (.bool (decide (0 ≤ k3))) (.bool (decide (0 ≤ k4) || decide (0 ≤ kx))) (.bool (decide (0 ≤ k5))) (.int .i64 n6) (.int .i64 n7) (.int .i64 n8) (.int .i64 n9) _ rfl
          exact bodyPost_ret (v := .agg #[.bool (decide (0 ≤ k0)), .bool (decide (0 ≤ k1)), .bool (decide (0 ≤ k2)), .bool (decide (0 ≤ k3)), .bool (decide (0 ≤ k4) || decide (0 ≤ kx)), .bool (decide (0 ≤ k5)), .int .i64 n6, .int .i64 n7, .int .i64 n8, .int .i64 n9]) (by simp [results, Tryd.results26, go_sem, q0, q1, q2, q3, q4, q5, q6, q7, q8, q9]) rfl ⟨by rw [PV.out, H0.out, H1.out, H2.out, H3.out, HM.out, H5.out, HS.out]; simp, qb⟩
    · have HS : Hid (stlO (fndD (dirsOf vs) msb) = -1) := by unfold Hid; rw [hf]; rfl
      clear hf F9
      go_upto_region 14 with fail
      have T1 := hide' (ten_below T.out (below_alloc' w2 (.cells #[.bool (decide (0 ≤ k0)), .bool (decide (0 ≤ k1)), .bool (decide (0 ≤ k2)), .bool (decide (0 ≤ k3)), .bool (decide (0 ≤ k4) || decide (0 ≤ kx)), .bool (decide (0 ≤ k5)), .int .i64 n6, .int .i64 n7, .int .i64 n8, .int .i64 (-1)] 40)))
      have B3 := hide' (bt' B2.out (below_alloc' w2 (.cells #[.bool (decide (0 ≤ k0)), .bool (decide (0 ≤ k1)), .bool (decide (0 ≤ k2)), .bool (decide (0 ≤ k3)), .bool (decide (0 ≤ k4) || decide (0 ≤ kx)), .bool (decide (0 ≤ k5)), .int .i64 n6, .int .i64 n7, .int .i64 n8, .int .i64 (-1)] 40)))
      have BK := hide' (cells_lit w2 #[.bool (decide (0 ≤ k0)), .bool (decide (0 ≤ k1)), .bool (decide (0 ≤ k2)), .bool (decide (0 ≤ k3)), .bool (decide (0 ≤ k4) || decide (0 ≤ kx)), .bool (decide (0 ≤ k5)), .int .i64 n6, .int .i64 n7, .int .i64 n8, .int .i64 (-1)] 40)
      go_wp2_with fail
      refine (cV.out _ B3.out).mono ?_
      rintro e w5 ⟨u, rfl, ho⟩
      have T2 := hide' (ten_below T1.out ho.2)
      have BK2 := hide' (cells_below BK.out ho.2)
      have B5 := hide' (bt' B3.out ho.2)
      obtain ⟨au, cu, _, _, hu, -⟩ := holds_parts (holds_own ho)
      rw [hu]
      clear ho hu T1 BK B3
      by_cases hn : vs = []
      · have hn2 : vs.length = 0 := by rw [hn]; rfl
        rw [hn2]
        rw [decide_eq_true hn] at PV
        clear hn2
        cases dp with
        | false =>
          go_wp2_with fail
          refine (cH.out _ B5.out).mono ?_
          rintro e w6 ⟨rfl, b6⟩
          have T3 := hide' (ten_below T2.out b6)
          have BK3 := hide' (cells_below BK2.out b6)
          clear b6 T2 BK2 B5
          obtain ⟨⟨c0, c1, c2, c3, c4, c5, c6, c7, c8, c9⟩, -⟩ := cells10K BK3.out
          obtain ⟨⟨u0, u1, u2, u3, u4, u5, u6, u7, u8, u9, bk⟩, bel, hle, hb2⟩ := T3.out
          obtain ⟨⟨x0, x1, x2, x3, x4, x5, x6, x7, x8, x9⟩, f0, f1, f2, f3, f4, f5, f6, f7, f8, f9⟩ := cells10K bk
          have hlt := bk.2
          clear bk bel hb2
          go_wp2_with fail
          obtain ⟨⟨q0, q1, q2, q3, q4, q5, q6, q7, q8, q9⟩, qb⟩ := ten_store T3.out (.bool (decide (0 ≤ k0))) (.bool (decide (0 ≤ k1))) (.bool (decide (0 ≤ k2))) (.bool (decide (0 ≤ k3))) (.bool (decide (0 ≤ k4) || decide (0 ≤ kx))) (.bool (decide (0 ≤ k5))) (.int .i64 n6) (.int .i64 n7) (.int .i64 n8) (.int .i64 (-1)) _ rfl
          exact bodyPost_ret (v := .agg #[.bool (decide (0 ≤ k0)), .bool (decide (0 ≤ k1)), .bool (decide (0 ≤ k2)), .bool (decide (0 ≤ k3)), .bool (decide (0 ≤ k4) || decide (0 ≤ kx)), .bool (decide (0 ≤ k5)), .int .i64 n6, .int .i64 n7, .int .i64 n8, .int .i64 (-1)]) (by simp [results, Tryd.results26, go_sem, q0, q1, q2, q3, q4, q5, q6, q7, q8, q9]) rfl ⟨by rw [PV.out, H0.out, H1.out, H2.out, H3.out, HM.out, H5.out, HS.out]; simp, qb⟩
        | true =>
          go_wp2_with fail
          refine (cH.out _ B5.out).mono ?_
          rintro e w6 ⟨rfl, b6⟩
          have T3 := hide' (ten_below T2.out b6)
          have BK3 := hide' (cells_below BK2.out b6)
          clear b6 T2 BK2 B5
          obtain ⟨⟨c0, c1, c2, c3, c4, c5, c6, c7, c8, c9⟩, f0, f1, f2, f3, f4, f5, f6, f7, f8, f9⟩ := cells10K BK3.out
          go_upto_region 16 with fail
          have T4 := hide' (ten_poke (g := w2.heap.size) (i := 1) T3.out NE2.out (Nat.le_refl _) B2.out.size (.bool true))
          have BK4 := hide' (cells_set (j := 1) BK3.out (by simp) (.bool true))
          clear c0 c1 c2 c3 c4 c5 c6 c7 c8 c9 f0 f1 f2 f3 f4 f5 f6 f7 f8 f9 T3 BK3
          generalize w6.setCell ⟨w2.heap.size, 1, none⟩ (.bool true) = W7 at T4 BK4 ⊢
          obtain ⟨⟨c0, c1, c2, c3, c4, c5, c6, c7, c8, c9⟩, -⟩ := cells10K BK4.out
          obtain ⟨⟨u0, u1, u2, u3, u4, u5, u6, u7, u8, u9, bk⟩, bel, hle, hb2⟩ := T4.out
          obtain ⟨⟨x0, x1, x2, x3, x4, x5, x6, x7, x8, x9⟩, f0, f1, f2, f3, f4, f5, f6, f7, f8, f9⟩ := cells10K bk
          have hlt := bk.2
          clear bk bel hb2
          go_wp2_with fail
          obtain ⟨⟨q0, q1, q2, q3, q4, q5, q6, q7, q8, q9⟩, qb⟩ := ten_store T4.out (.bool (decide (0 ≤ k0))) (.bool true) (.bool (decide (0 ≤ k2))) (.bool (decide (0 ≤ k3))) (.bool (decide (0 ≤ k4) || decide (0 ≤ kx))) (.bool (decide (0 ≤ k5))) (.int .i64 n6) (.int .i64 n7) (.int .i64 n8) (.int .i64 (-1)) _ rfl
          exact bodyPost_ret (v := .agg #[.bool (decide (0 ≤ k0)), .bool true, .bool (decide (0 ≤ k2)), .bool (decide (0 ≤ k3)), .bool (decide (0 ≤ k4) || decide (0 ≤ kx)), .bool (decide (0 ≤ k5)), .int .i64 n6, .int .i64 n7, .int .i64 n8, .int .i64 (-1)]) (by simp [results, Tryd.results26, go_sem, q0, q1, q2, q3, q4, q5, q6, q7, q8, q9]) rfl ⟨by rw [PV.out, H0.out, H1.out, H2.out, H3.out, HM.out, H5.out, HS.out]; simp, qb⟩
      · have hn2 : ((vs.length : Int) == 0) = false := by
          have : vs.length ≠ 0 := fun h => hn (List.eq_nil_of_length_eq_zero h)
          simp; omega
        rw [decide_eq_false hn] at PV
        generalize vs.length = nv at hn2 ⊢
        obtain ⟨⟨c0, c1, c2, c3, c4, c5, c6, c7, c8, c9⟩, -⟩ := cells10K BK2.out
        obtain ⟨⟨u0, u1, u2, u3, u4, u5, u6, u7, u8, u9, bk⟩, bel, hle, hb2⟩ := T2.out
        obtain ⟨⟨x0, x1, x2, x3, x4, x5, x6, x7, x8, x9⟩, f0, f1, f2, f3, f4, f5, f6, f7, f8, f9⟩ := cells10K bk
        have hlt := bk.2
        clear bk bel hb2
        go_wp2_with fail
        obtain ⟨⟨q0, q1, q2, q3, q4, q5, q6, q7, q8, q9⟩, qb⟩ := ten_store T2.out (.bool (decide (0 ≤ k0))) (.bool (decide (0 ≤ k1))) (.bool (decide (0 ≤ k2))) (.bool (decide (0 ≤ k3))) (.bool (decide (0 ≤ k4) || decide (0 ≤ kx))) (.bool (decide (0 ≤ k5))) (.int .i64 n6) (.int .i64 n7) (.int .i64 n8) (.int .i64 (-1)) _ rfl
        exact bodyPost_ret (v := .agg #[.bool (decide (0 ≤ k0)), .bool (decide (0 ≤ k1)), .bool (decide (0 ≤ k2)), .bool (decide (0 ≤ k3)), .bool (decide (0 ≤ k4) || decide (0 ≤ kx)), .bool (decide (0 ≤ k5)), .int .i64 n6, .int .i64 n7, .int .i64 n8, .int .i64 (-1)]) (by simp [results, Tryd.results26, go_sem, q0, q1, q2, q3, q4, q5, q6, q7, q8, q9]) rfl ⟨by rw [PV.out, H0.out, H1.out, H2.out, H3.out, HM.out, H5.out, HS.out]; simp, qb⟩
end Go.Proofs.YtlhhcpbfjjhbfaaDoor
