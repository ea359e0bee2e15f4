/- The walk of HeadGrows. -/
import Derived.Test.YtbbaajlabpjnlaaGreatDoorHdJ
import Derived.Test.YtbbaajlabpjnlaaGreatDoorHdG
import Derived.Test.YtbbaajlabpjnlaaGreatDoorHdR
import Derived.Test.YtbbaajlabpjnlaaGreatDoorHdS
namespace Go.Proofs.YtbbaajlabpjnlaaGreatDoor
open Go.RowKit
namespace headGrows
theorem fs_len (b : List UInt8) : (reqOf b).1.fs.length ≤ 100 := by
  rcases Nat.eq_zero_or_pos (reqOf b).2.1 with h | h
  · rw [(req_nothing b (.inr h)).2]; simp
  · exact (req_host b h).2.2.2.2.2.2.2
theorem rs_len (b : List UInt8) : (respOf b).1.fs.length ≤ 100 ∧ (respOf b).2.1 ≤ 8192 := by
  by_cases h0 : (endOf b 0).1 = 0
  · rw [resp_none b h0]; exact ⟨by simp [Rs.zero], by simp⟩
  · obtain ⟨i, hi, he, hc, hl⟩ := end_facts b _ h0
    rw [resp_some b (0 + i + 4) (by omega) he]
    unfold respG
    split
    · exact ⟨by simp [Rs.zero], by simp⟩
    · split
      · exact ⟨by simp [Rs.zero], by simp⟩
      · exact ⟨parse_len _, hc⟩
theorem n_len (b : List UInt8) : (reqOf b).2.1 ≤ 8192 ∧ (reqOf b).2.1 ≤ b.length := by
  rcases Nat.eq_zero_or_pos (reqOf b).2.1 with h | h
  · omega
  · exact ⟨(req_host b h).1, (req_host b h).2.1⟩
set_option maxRecDepth 20000 in
set_option maxHeartbeats 8000000 in
theorem walk (v1 v2 : Value) (bs ms : List UInt8) (w : World) (hv1 : HoldsB w v1 bs) (hv2 : HoldsB w v2 ms) (hl : bs.length + ms.length ≤ 1048576) (E : Env w) :
    Calls Tryz.prog 6 #[v1, v2] w fun e w' => e = .returned (.bool true) ∧ Below w.heap.size w w' := by
  have HV1 := hide' hv1
  have HV2 := hide' hv2
  have EV := hide' E
  have c0 := hide' (aliveHC w E)
  have hal : (bs ++ ms).length ≤ 1048576 := by rw [List.length_append]; exact hl
  have cC := hide' (fun W (hb : Below w.heap.size w W) => copyB v1 bs W (holdsB_mono HV1.out hb) (by omega))
  have cD := hide' (fun W (u : Value) (h : HoldsB W u (bs ++ ms)) => copyB u (bs ++ ms) W h (by omega))
  have cR := hide' (fun W (u : Value) (hb : HoldsB W u bs) (hE : Env W) => reqC u bs W hb hE (by omega))
  have cA := hide' (fun W (u : Value) (hb : HoldsB W u (bs ++ ms)) (hE : Env W) => reqC u (bs ++ ms) W hb hE (by omega))
  have nl := n_len bs
  have na := n_len (bs ++ ms)
  have cT := hide' (fun W (u : Value) (hb : HoldsB W u (bs.take (reqOf bs).2.1)) (hE : Env W) => reqC u (bs.take (reqOf bs).2.1) W hb hE (by rw [List.length_take]; omega))
  have hpre := holdsB_take HV1.out (reqOf bs).2.1 nl.2
  have cP := hide' (fun W (u : Value) (h : HoldsB W u (bs.take (reqOf bs).2.1)) => copyB u (bs.take (reqOf bs).2.1) W h (by rw [List.length_take]; omega))
  have cS := hide' (fun W (u : Value) (hb : HoldsB W u bs) (hE : Env W) => respC u bs W hb hE (by omega))
  have cU := hide' (fun W (u : Value) (hb : HoldsB W u (bs ++ ms)) (hE : Env W) => respC u (bs ++ ms) W hb hE (by omega))
  have fl := fs_len bs
  have sl := rs_len bs
  have sa := rs_len (bs ++ ms)
  have GR := hide' (req_grow bs ms)
  have GS := hide' (resp_grow bs ms)
  have OW := hide' (req_own bs)
  have NO := hide' (req_nothing bs)
  unfold reqV rqV at cR cA cT
  unfold respV rsV at cS cU
  generalize reqOf (bs.take (reqOf bs).2.1) = RT at cT OW
  generalize reqOf bs = R at cR cT cP fl GR OW NO nl hpre
  generalize reqOf (bs ++ ms) = RA at cA GR na
  generalize respOf bs = Q at cS sl GS
  generalize respOf (bs ++ ms) = QA at cU GS sa
  obtain ⟨⟨qm, qt, qk, fs⟩, N, ee⟩ := R
  obtain ⟨⟨tm', tt, tk, tfs⟩, TN, te⟩ := RT
  obtain ⟨⟨am, at', ak, afs⟩, M, ff⟩ := RA
  obtain ⟨⟨ss, sr, sk, sfs⟩, K, ge⟩ := Q
  obtain ⟨⟨us, ur, uk, ufs⟩, L, hf⟩ := QA
  simp only at cR cA cT cP cS cU fl sl sa GR GS OW NO nl na hpre
  obtain ⟨sl1, sl2⟩ := sl
  obtain ⟨nl1, nl2⟩ := nl
  obtain ⟨na1, na2⟩ := na
  obtain ⟨sa1, sa2⟩ := sa
  obtain ⟨x1, k1, e1, _⟩ := holdsB_parts hv1
  subst e1
  obtain ⟨x2, k2, e2, _⟩ := holdsB_parts hv2
  subst e2
  obtain ⟨pv, hpr, hph⟩ := hpre
  have HPH := hide' hph
  have hbl : bs.length ≤ 1048576 := by omega
  have hml : ms.length ≤ 1048576 := by omega
  generalize hn : bs.length = n at cC hbl nl2 hpr ⊢
  generalize hm : ms.length = m at hml ⊢
  have HN := hide' hn
  have HM := hide' hm
  have HL := hide' hl
  clear hv1 hv2 E hal hph hl hn hm na2
  rw [HN.out] at HV1
  rw [HM.out] at HV2
  go_enter Tryz.func6, Tryz.ntmps6
  go_wp2_with fail
  refine c0.out.mono ?_
  rintro e w1 ⟨rfl, q1⟩
  have B1 := hide' q1
  clear q1 c0
  go_wp2_with fail
  refine (cC.out _ B1.out).mono ?_
  rintro e w2 ⟨u2, rfl, ho2⟩
  have O2 := hide' ho2
  have H2 := hide' (holdsB_mono HV2.out (bt' B1.out ho2.2))
  clear ho2
  go_wp2_with (at_builtin; refine appAllB rfl (.tmp 18) (.tmp 19) rfl w1 _ bs rfl O2.out _ ms rfl H2.out (by have := HL.out; omega) ?_; intro v3 w3 ho3)
  have B3 := hide' (bt' B1.out ho3.2)
  have A3 := hide' (holdsB_own ho3)
  clear ho3 O2 H2
  refine (cC.out _ B3.out).mono ?_
  rintro e w4 ⟨u4, rfl, ho4⟩
  have B4 := hide' (bt' B3.out ho4.2)
  have A4 := hide' (holdsB_mono A3.out ho4.2)
  have H4 := hide' (holdsB_own ho4)
  clear ho4 A3
  go_wp2_with fail
  refine (cR.out _ _ H4.out (env_below EV.out B4.out)).mono ?_
  rintro e w5 ⟨lv5, rfl, ho5⟩
  have B5 := hide' (bt' B4.out ho5.2)
  have A5 := hide' (holdsB_mono A4.out ho5.2)
  have F5 := hide' (holdsF_own ho5)
  obtain ⟨la, lc, lb, lo, hlv, _⟩ := holdsF_parts F5.out
  subst hlv
  clear ho5 H4 A4
  have b6 := below_alloc' w5 (.cells #[.string ⟨qm.toArray⟩, .string ⟨qt.toArray⟩, .int .i64 qk, .slice la fs.length lc] 34)
  have B6 := hide' (bt' B5.out b6)
  have A6 := hide' (holdsB_mono A5.out b6)
  have F6 := hide' (holdsF_mono F5.out b6)
  have Q6 := hide' (quad_lit w5 (.string ⟨qm.toArray⟩) (.string ⟨qt.toArray⟩) (.int .i64 qk) (.slice la fs.length lc) 34)
  clear b6 A5 F5
  go_wp2_with fail
  refine (cD.out _ _ A6.out).mono ?_
  rintro e w7 ⟨u7, rfl, ho7⟩
  have B7 := hide' (bt' B6.out ho7.2)
  have A7 := hide' (holdsB_mono A6.out ho7.2)
  have F7 := hide' (holdsF_mono F6.out ho7.2)
  have Q7 := hide' (quad_below Q6.out ho7.2)
  have H7 := hide' (holdsB_own ho7)
  clear ho7 A6 F6 Q6
  go_wp2_with fail
  refine (cA.out _ _ H7.out (env_below EV.out B7.out)).mono ?_
  rintro e w8 ⟨lv8, rfl, ho8⟩
  have B8 := hide' (bt' B7.out ho8.2)
  have A8 := hide' (holdsB_mono A7.out ho8.2)
  have F8 := hide' (holdsF_mono F7.out ho8.2)
  have Q8 := hide' (quad_below Q7.out ho8.2)
  have G8 := hide' (holdsF_own ho8)
  obtain ⟨ma, mc, mb, mo, hmv, _⟩ := holdsF_parts G8.out
  subst hmv
  clear ho8 A7 F7 Q7 H7
  have b9 := below_alloc' w8 (.cells #[.string ⟨am.toArray⟩, .string ⟨at'.toArray⟩, .int .i64 ak, .slice ma afs.length mc] 34)
  have B9 := hide' (bt' B8.out b9)
  have A9 := hide' (holdsB_mono A8.out b9)
  have F9 := hide' (holdsF_mono F8.out b9)
  have G9 := hide' (holdsF_mono G8.out b9)
  have Q9 := hide' (quad_below Q8.out b9)
  have P9 := hide' (quad_lit w8 (.string ⟨am.toArray⟩) (.string ⟨at'.toArray⟩) (.int .i64 ak) (.slice ma afs.length mc) 34)
  clear b9 A8 F8 G8 Q8
  obtain ⟨i0, i1, i2, i3, _⟩ := Q9.out
  obtain ⟨j0, j1, j2, j3, _⟩ := P9.out
  by_cases told : ee ≠ 0 ∨ 0 < N
  · have eq := GR.out told
    simp only [Prod.mk.injEq, Rq.mk.injEq] at eq
    obtain ⟨⟨rfl, rfl, rfl, rfl⟩, rfl, rfl⟩ := eq
    by_cases hN : 0 < M
    · have he0 : ff = 0 := by
        by_cases g : ff = 0
        · exact g
        · have := (NO.out (.inl g)).1; omega
      subst he0
      have OE := OW.out hN
      simp only [Prod.mk.injEq, Rq.mk.injEq] at OE
      obtain ⟨⟨rfl, rfl, rfl, rfl⟩, rfl, rfl⟩ := OE
      have tN : decide ((0 : Int) < (TN : Int)) = true := by simp; omega
      have hN' : 0 < TN := hN
      clear told
      go_wp2_with fail
      refine (sameRq _ _ _ tfs _ _ _ F9.out G9.out (by omega)).mono ?_
      rintro e w10 ⟨rfl, b10⟩
      have B10 := hide' (bt' B9.out b10)
      have A10 := hide' (holdsB_mono A9.out b10)
      clear b10 i0 i1 i2 i3 j0 j1 j2 j3 F9 G9 Q9 P9
      go_wp2_with fail
      refine (cP.out _ _ (holdsB_mono HPH.out B10.out)).mono ?_
      rintro e w18 ⟨u18, rfl, ho18⟩
      have B18 := hide' (bt' B10.out ho18.2)
      have A18 := hide' (holdsB_mono A10.out ho18.2)
      have H18 := hide' (holdsB_own ho18)
      clear ho18
      go_wp2_with fail
      refine (cT.out _ _ H18.out (env_below EV.out B18.out)).mono ?_
      rintro e w19 ⟨lv19, rfl, ho19⟩
      have B19 := hide' (bt' B18.out ho19.2)
      have A19 := hide' (holdsB_mono A18.out ho19.2)
      clear ho19 H18
      go_wp2_with fail
      refine (cC.out _ B19.out).mono ?_
      rintro e w11 ⟨u11, rfl, ho11⟩
      have B11 := hide' (bt' B19.out ho11.2)
      have A11 := hide' (holdsB_mono A19.out ho11.2)
      have H11 := hide' (holdsB_own ho11)
      clear ho11
      go_wp2_with fail
      refine (cS.out _ _ H11.out (env_below EV.out B11.out)).mono ?_
      rintro e w12 ⟨lv12, rfl, ho12⟩
      have B12 := hide' (bt' B11.out ho12.2)
      have A12 := hide' (holdsB_mono A11.out ho12.2)
      have F12 := hide' (holdsF_own ho12)
      obtain ⟨xa, xc, xb, xo, hxv, _⟩ := holdsF_parts F12.out
      subst hxv
      clear ho12 H11 A11
      have b13 := below_alloc' w12 (.cells #[.int .i64 ss, .string ⟨sr.toArray⟩, .int .i64 sk, .slice xa sfs.length xc] 25)
      have B13 := hide' (bt' B12.out b13)
      have A13 := hide' (holdsB_mono A12.out b13)
      have F13 := hide' (holdsF_mono F12.out b13)
      have Q13 := hide' (quad_lit w12 (.int .i64 ss) (.string ⟨sr.toArray⟩) (.int .i64 sk) (.slice xa sfs.length xc) 25)
      clear b13 A12 F12
      go_wp2_with fail
      refine (cD.out _ _ A13.out).mono ?_
      rintro e w14 ⟨u14, rfl, ho14⟩
      have B14 := hide' (bt' B13.out ho14.2)
      have F14 := hide' (holdsF_mono F13.out ho14.2)
      have Q14 := hide' (quad_below Q13.out ho14.2)
      have H14 := hide' (holdsB_own ho14)
      clear ho14 A13 F13 Q13
      go_wp2_with fail
      refine (cU.out _ _ H14.out (env_below EV.out B14.out)).mono ?_
      rintro e w15 ⟨lv15, rfl, ho15⟩
      have B15 := hide' (bt' B14.out ho15.2)
      have F15 := hide' (holdsF_mono F14.out ho15.2)
      have Q15 := hide' (quad_below Q14.out ho15.2)
      have G15 := hide' (holdsF_own ho15)
      obtain ⟨ya, yc, yb, yo, hyv, _⟩ := holdsF_parts G15.out
      subst hyv
      clear ho15 F14 Q14 H14
      have b16 := below_alloc' w15 (.cells #[.int .i64 us, .string ⟨ur.toArray⟩, .int .i64 uk, .slice ya ufs.length yc] 25)
      have B16 := hide' (bt' B15.out b16)
      have F16 := hide' (holdsF_mono F15.out b16)
      have G16 := hide' (holdsF_mono G15.out b16)
      have Q16 := hide' (quad_below Q15.out b16)
      have P16 := hide' (quad_lit w15 (.int .i64 us) (.string ⟨ur.toArray⟩) (.int .i64 uk) (.slice ya ufs.length yc) 25)
      clear b16 F15 G15 Q15
      obtain ⟨m0, m1, m2, m3, _⟩ := Q16.out
      obtain ⟨n0, n1, n2, n3, _⟩ := P16.out
      by_cases told2 : ge ≠ 0 ∨ 0 < K
      · have eq2 := GS.out told2
        simp only [Prod.mk.injEq, Rs.mk.injEq] at eq2
        obtain ⟨⟨rfl, rfl, rfl, rfl⟩, rfl, rfl⟩ := eq2
        have key : (hf == 0) = false ∨ ((hf == 0) = true ∧ ((L : Int) == 0) = false) := by
          by_cases g : hf = 0
          · right; subst g; exact ⟨rfl, by simp; omega⟩
          · left; simpa using g
        clear told2
        rcases key with t1 | ⟨t1, t2⟩
        all_goals
          go_wp2_with fail
          refine (sameRs _ _ _ ufs _ _ _ F16.out G16.out (by omega)).mono ?_
          rintro e w17 ⟨rfl, b17⟩
          have B17 := hide' (bt' B16.out b17)
          clear b17
          go_wp2_with fail
          go_ret
          exact ⟨rfl, B17.out⟩
      · have g1 : ge = 0 := by
          by_cases g : ge = 0
          · exact g
          · exact absurd (.inl g) told2
        have g2 : K = 0 := by
          rcases Nat.eq_zero_or_pos K with g | g
          · exact g
          · exact absurd (.inr g) told2
        subst g1 g2
        clear told2
        go_wp2_with fail
        go_ret
        exact ⟨rfl, B16.out⟩
    · have hn0 : M = 0 := by omega
      subst hn0
      have tE : (ff != 0) = true := by
        rcases told with g | g
        · simpa using g
        · omega
      clear told
      go_wp2_with fail
      refine (sameRq _ _ _ _ _ _ _ F9.out G9.out (by omega)).mono ?_
      rintro e w10 ⟨rfl, b10⟩
      have B10 := hide' (bt' B9.out b10)
      have A10 := hide' (holdsB_mono A9.out b10)
      clear b10 i0 i1 i2 i3 j0 j1 j2 j3 F9 G9 Q9 P9
      go_wp2_with fail
      refine (cC.out _ B10.out).mono ?_
      rintro e w11 ⟨u11, rfl, ho11⟩
      have B11 := hide' (bt' B10.out ho11.2)
      have A11 := hide' (holdsB_mono A10.out ho11.2)
      have H11 := hide' (holdsB_own ho11)
      clear ho11
      go_wp2_with fail
      refine (cS.out _ _ H11.out (env_below EV.out B11.out)).mono ?_
      rintro e w12 ⟨lv12, rfl, ho12⟩
      have B12 := hide' (bt' B11.out ho12.2)
      have A12 := hide' (holdsB_mono A11.out ho12.2)
      have F12 := hide' (holdsF_own ho12)
      obtain ⟨xa, xc, xb, xo, hxv, _⟩ := holdsF_parts F12.out
      subst hxv
      clear ho12 H11 A11
      have b13 := below_alloc' w12 (.cells #[.int .i64 ss, .string ⟨sr.toArray⟩, .int .i64 sk, .slice xa sfs.length xc] 25)
      have B13 := hide' (bt' B12.out b13)
      have A13 := hide' (holdsB_mono A12.out b13)
      have F13 := hide' (holdsF_mono F12.out b13)
      have Q13 := hide' (quad_lit w12 (.int .i64 ss) (.string ⟨sr.toArray⟩) (.int .i64 sk) (.slice xa sfs.length xc) 25)
      clear b13 A12 F12
      go_wp2_with fail
      refine (cD.out _ _ A13.out).mono ?_
      rintro e w14 ⟨u14, rfl, ho14⟩
      have B14 := hide' (bt' B13.out ho14.2)
      have F14 := hide' (holdsF_mono F13.out ho14.2)
      have Q14 := hide' (quad_below Q13.out ho14.2)
      have H14 := hide' (holdsB_own ho14)
      clear ho14 A13 F13 Q13
      go_wp2_with fail
      refine (cU.out _ _ H14.out (env_below EV.out B14.out)).mono ?_
      rintro e w15 ⟨lv15, rfl, ho15⟩
      have B15 := hide' (bt' B14.out ho15.2)
      have F15 := hide' (holdsF_mono F14.out ho15.2)
      have Q15 := hide' (quad_below Q14.out ho15.2)
      have G15 := hide' (holdsF_own ho15)
      obtain ⟨ya, yc, yb, yo, hyv, _⟩ := holdsF_parts G15.out
      subst hyv
      clear ho15 F14 Q14 H14
      have b16 := below_alloc' w15 (.cells #[.int .i64 us, .string ⟨ur.toArray⟩, .int .i64 uk, .slice ya ufs.length yc] 25)
      have B16 := hide' (bt' B15.out b16)
      have F16 := hide' (holdsF_mono F15.out b16)
      have G16 := hide' (holdsF_mono G15.out b16)
      have Q16 := hide' (quad_below Q15.out b16)
      have P16 := hide' (quad_lit w15 (.int .i64 us) (.string ⟨ur.toArray⟩) (.int .i64 uk) (.slice ya ufs.length yc) 25)
      clear b16 F15 G15 Q15
      obtain ⟨m0, m1, m2, m3, _⟩ := Q16.out
      obtain ⟨n0, n1, n2, n3, _⟩ := P16.out
      by_cases told2 : ge ≠ 0 ∨ 0 < K
      · have eq2 := GS.out told2
        simp only [Prod.mk.injEq, Rs.mk.injEq] at eq2
        obtain ⟨⟨rfl, rfl, rfl, rfl⟩, rfl, rfl⟩ := eq2
        have key : (hf == 0) = false ∨ ((hf == 0) = true ∧ ((L : Int) == 0) = false) := by
          by_cases g : hf = 0
          · right; subst g; exact ⟨rfl, by simp; omega⟩
          · left; simpa using g
        clear told2
        rcases key with t1 | ⟨t1, t2⟩
        all_goals
          go_wp2_with fail
          refine (sameRs _ _ _ ufs _ _ _ F16.out G16.out (by omega)).mono ?_
          rintro e w17 ⟨rfl, b17⟩
          have B17 := hide' (bt' B16.out b17)
          clear b17
          go_wp2_with fail
          go_ret
          exact ⟨rfl, B17.out⟩
      · have g1 : ge = 0 := by
          by_cases g : ge = 0
          · exact g
          · exact absurd (.inl g) told2
        have g2 : K = 0 := by
          rcases Nat.eq_zero_or_pos K with g | g
          · exact g
          · exact absurd (.inr g) told2
        subst g1 g2
        clear told2
        go_wp2_with fail
        go_ret
        exact ⟨rfl, B16.out⟩
  · have g1 : ee = 0 := by
      by_cases g : ee = 0
      · exact g
      · exact absurd (.inl g) told
    have g2 : N = 0 := by
      rcases Nat.eq_zero_or_pos N with g | g
      · exact g
      · exact absurd (.inr g) told
    subst g1 g2
    clear told i0 i1 i2 i3 j0 j1 j2 j3
    go_wp2_with fail
    refine (cC.out _ B9.out).mono ?_
    rintro e w11 ⟨u11, rfl, ho11⟩
    have B11 := hide' (bt' B9.out ho11.2)
    have A11 := hide' (holdsB_mono A9.out ho11.2)
    have H11 := hide' (holdsB_own ho11)
    clear ho11
    go_wp2_with fail
    refine (cS.out _ _ H11.out (env_below EV.out B11.out)).mono ?_
    rintro e w12 ⟨lv12, rfl, ho12⟩
    have B12 := hide' (bt' B11.out ho12.2)
    have A12 := hide' (holdsB_mono A11.out ho12.2)
    have F12 := hide' (holdsF_own ho12)
    obtain ⟨xa, xc, xb, xo, hxv, _⟩ := holdsF_parts F12.out
    subst hxv
    clear ho12 H11 A11
    have b13 := below_alloc' w12 (.cells #[.int .i64 ss, .string ⟨sr.toArray⟩, .int .i64 sk, .slice xa sfs.length xc] 25)
    have B13 := hide' (bt' B12.out b13)
    have A13 := hide' (holdsB_mono A12.out b13)
    have F13 := hide' (holdsF_mono F12.out b13)
    have Q13 := hide' (quad_lit w12 (.int .i64 ss) (.string ⟨sr.toArray⟩) (.int .i64 sk) (.slice xa sfs.length xc) 25)
    clear b13 A12 F12
    go_wp2_with fail
    refine (cD.out _ _ A13.out).mono ?_
    rintro e w14 ⟨u14, rfl, ho14⟩
    have B14 := hide' (bt' B13.out ho14.2)
    have F14 := hide' (holdsF_mono F13.out ho14.2)
    have Q14 := hide' (quad_below Q13.out ho14.2)
    have H14 := hide' (holdsB_own ho14)
    clear ho14 A13 F13 Q13
    go_wp2_with fail
    refine (cU.out _ _ H14.out (env_below EV.out B14.out)).mono ?_
    rintro e w15 ⟨lv15, rfl, ho15⟩
    have B15 := hide' (bt' B14.out ho15.2)
    have F15 := hide' (holdsF_mono F14.out ho15.2)
    have Q15 := hide' (quad_below Q14.out ho15.2)
    have G15 := hide' (holdsF_own ho15)
    obtain ⟨ya, yc, yb, yo, hyv, _⟩ := holdsF_parts G15.out
    subst hyv
    clear ho15 F14 Q14 H14
    have b16 := below_alloc' w15 (.cells #[.int .i64 us, .string ⟨ur.toArray⟩, .int .i64 uk, .slice ya ufs.length yc] 25)
    have B16 := hide' (bt' B15.out b16)
    have F16 := hide' (holdsF_mono F15.out b16)
    have G16 := hide' (holdsF_mono G15.out b16)
    have Q16 := hide' (quad_below Q15.out b16)
    have P16 := hide' (quad_lit w15 (.int .i64 us) (.string ⟨ur.toArray⟩) (.int .i64 uk) (.slice ya ufs.length yc) 25)
    clear b16 F15 G15 Q15
    obtain ⟨m0, m1, m2, m3, _⟩ := Q16.out
    obtain ⟨n0, n1, n2, n3, _⟩ := P16.out
    by_cases told2 : ge ≠ 0 ∨ 0 < K
    · have eq2 := GS.out told2
      simp only [Prod.mk.injEq, Rs.mk.injEq] at eq2
      obtain ⟨⟨rfl, rfl, rfl, rfl⟩, rfl, rfl⟩ := eq2
      have key : (hf == 0) = false ∨ ((hf == 0) = true ∧ ((L : Int) == 0) = false) := by
        by_cases g : hf = 0
        · right; subst g; exact ⟨rfl, by simp; omega⟩
        · left; simpa using g
      clear told2
      rcases key with t1 | ⟨t1, t2⟩
      all_goals
        go_wp2_with fail
        refine (sameRs _ _ _ ufs _ _ _ F16.out G16.out (by omega)).mono ?_
        rintro e w17 ⟨rfl, b17⟩
        have B17 := hide' (bt' B16.out b17)
        clear b17
        go_wp2_with fail
        go_ret
        exact ⟨rfl, B17.out⟩
    · have g1 : ge = 0 := by
        by_cases g : ge = 0
        · exact g
        · exact absurd (.inl g) told2
      have g2 : K = 0 := by
        rcases Nat.eq_zero_or_pos K with g | g
        · exact g
        · exact absurd (.inr g) told2
      subst g1 g2
      clear told2
      go_wp2_with fail
      go_ret
      exact ⟨rfl, B16.out⟩
end headGrows
end Go.Proofs.YtbbaajlabpjnlaaGreatDoor
