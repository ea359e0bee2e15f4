/- The contracts of pragma and Parse. -/
import Derived.Test.YtlhhcpbfjjhbfabDoorBp
namespace Go.Proofs.YtlhhcpbfjjhbfabDoor
open Go.RowKit
/-- a block of ten cells, whatever they hold, above w; and what w2 had stays -/
def Ten (w : World) (b : Nat) (w2 W : World) : Prop := (∃ u0 u1 u2 u3 u4 u5 u6 u7 u8 u9, Blk b W [u0, u1, u2, u3, u4, u5, u6, u7, u8, u9]) ∧ Below w.heap.size w W ∧ w.heap.size ≤ b ∧ Below w2.heap.size w2 W
theorem ten_below {w w2 : World} {b : Nat} {W W' : World} (h : Ten w b w2 W) (hb : Below W.heap.size W W') : Ten w b w2 W' := by
  obtain ⟨⟨u0, u1, u2, u3, u4, u5, u6, u7, u8, u9, h1⟩, h2, h3, h4⟩ := h
  exact ⟨⟨u0, u1, u2, u3, u4, u5, u6, u7, u8, u9, cells_below h1 hb⟩, h2.trans (hb.mono h2.size), h3, h4.trans (hb.mono h4.size)⟩
theorem cells10K {b : Nat} {W : World} {v0 v1 v2 v3 v4 v5 v6 v7 v8 v9 : Value} (h : Blk b W [v0, v1, v2, v3, v4, v5, v6, v7, v8, v9]) : (W.cell? ⟨b, 0, none⟩ = some v0 ∧ W.cell? ⟨b, 1, none⟩ = some v1 ∧ W.cell? ⟨b, 2, none⟩ = some v2 ∧ W.cell? ⟨b, 3, none⟩ = some v3 ∧ W.cell? ⟨b, 4, none⟩ = some v4 ∧ W.cell? ⟨b, 5, none⟩ = some v5 ∧ W.cell? ⟨b, 6, none⟩ = some v6 ∧ W.cell? ⟨b, 7, none⟩ = some v7 ∧ W.cell? ⟨b, 8, none⟩ = some v8 ∧ W.cell? ⟨b, 9, none⟩ = some v9) ∧ (W.frozen? ⟨b, 0, none⟩ = false ∧ W.frozen? ⟨b, 1, none⟩ = false ∧ W.frozen? ⟨b, 2, none⟩ = false ∧ W.frozen? ⟨b, 3, none⟩ = false ∧ W.frozen? ⟨b, 4, none⟩ = false ∧ W.frozen? ⟨b, 5, none⟩ = false ∧ W.frozen? ⟨b, 6, none⟩ = false ∧ W.frozen? ⟨b, 7, none⟩ = false ∧ W.frozen? ⟨b, 8, none⟩ = false ∧ W.frozen? ⟨b, 9, none⟩ = false) :=
  ⟨⟨(h.1 0 (by simp)).1, (h.1 1 (by simp)).1, (h.1 2 (by simp)).1, (h.1 3 (by simp)).1, (h.1 4 (by simp)).1, (h.1 5 (by simp)).1, (h.1 6 (by simp)).1, (h.1 7 (by simp)).1, (h.1 8 (by simp)).1, (h.1 9 (by simp)).1⟩, ⟨(h.1 0 (by simp)).2, (h.1 1 (by simp)).2, (h.1 2 (by simp)).2, (h.1 3 (by simp)).2, (h.1 4 (by simp)).2, (h.1 5 (by simp)).2, (h.1 6 (by simp)).2, (h.1 7 (by simp)).2, (h.1 8 (by simp)).2, (h.1 9 (by simp)).2⟩⟩
theorem ten_store {w w2 : World} {b : Nat} {W : World} (h : Ten w b w2 W) (v0 v1 v2 v3 v4 v5 v6 v7 v8 v9 : Value) (X : World) (hX : X = ((((((((((W.setCell ⟨b, 0, none⟩ v0).setCell ⟨b, 1, none⟩ v1).setCell ⟨b, 2, none⟩ v2).setCell ⟨b, 3, none⟩ v3).setCell ⟨b, 4, none⟩ v4).setCell ⟨b, 5, none⟩ v5).setCell ⟨b, 6, none⟩ v6).setCell ⟨b, 7, none⟩ v7).setCell ⟨b, 8, none⟩ v8).setCell ⟨b, 9, none⟩ v9)) :
    (X.cell? ⟨b, 0, none⟩ = some v0 ∧ X.cell? ⟨b, 1, none⟩ = some v1 ∧ X.cell? ⟨b, 2, none⟩ = some v2 ∧ X.cell? ⟨b, 3, none⟩ = some v3 ∧ X.cell? ⟨b, 4, none⟩ = some v4 ∧ X.cell? ⟨b, 5, none⟩ = some v5 ∧ X.cell? ⟨b, 6, none⟩ = some v6 ∧ X.cell? ⟨b, 7, none⟩ = some v7 ∧ X.cell? ⟨b, 8, none⟩ = some v8 ∧ X.cell? ⟨b, 9, none⟩ = some v9) ∧ Below w.heap.size w X := by
  obtain ⟨⟨u0, u1, u2, u3, u4, u5, u6, u7, u8, u9, h1⟩, h2, h3, h4⟩ := h
  have g1 := cells_put h1 [v0, v1, v2, v3, v4, v5, v6, v7, v8, v9] rfl
  have g2 := put_below h3 [v0, v1, v2, v3, v4, v5, v6, v7, v8, v9] 0 W h2
  have e : putFrom b 0 W [v0, v1, v2, v3, v4, v5, v6, v7, v8, v9] = X := by rw [hX]; rfl
  rw [e] at g1 g2
  exact ⟨(cells10K g1).1, g2⟩
theorem unqI_small : ∀ (n : Nat) (L o : List UInt8), L.length ≤ n → unqI L = some o → o.length ≤ L.length := by
  intro n
  induction n with
  | zero =>
    intro L o h he
    obtain rfl : L = [] := List.eq_nil_of_length_eq_zero (by omega)
    simp [unqI] at he; subst he; simp
  | succ n ih =>
    intro L o h he
    match L, h, he with
    | [], _, he => simp [unqI] at he; subst he; simp
    | x :: r, h, he =>
      have hr : r.length ≤ n := by simp at h; omega
      by_cases h92 : (x.toNat : Int) = 92
      · cases r with
        | nil => rw [unqI_end _ h92] at he; cases he
        | cons d r =>
          cases hd : txt d with
          | false => rw [unqI_escbad _ _ _ h92 hd] at he; cases he
          | true =>
            rw [unqI_esc _ _ _ h92 hd] at he
            cases hu : unqI r with
            | none => rw [hu] at he; cases he
            | some o' =>
              rw [hu] at he
              simp at he
              subst he
              have := ih r o' (by simp at hr; omega) hu
              simp
              omega
      · by_cases h34 : (x.toNat : Int) = 34
        · rw [unqI_quote _ _ h34] at he; cases he
        · cases hd : txt x with
          | false => rw [unqI_bad _ _ h92 h34 hd] at he; cases he
          | true =>
            rw [unqI_plain _ _ h92 h34 hd] at he
            cases hu : unqI r with
            | none => rw [hu] at he; cases he
            | some o' =>
              rw [hu] at he
              simp at he
              subst he
              have := ih r o' hr hu
              simp
              omega
theorem unq_small (l : List UInt8) : (unqS ⟨l.toArray⟩).1.length ≤ l.length := by
  unfold unqS
  split
  · rename_i hf
    unfold unqR
    cases h : unqI (inner ⟨l.toArray⟩) with
    | none => simp
    | some o =>
      have := unqI_small _ _ _ (Nat.le_refl _) h
      have h2 : (inner ⟨l.toArray⟩).length ≤ l.length := by show ((l.drop 1).take (l.length - 2)).length ≤ _; rw [List.length_take, List.length_drop]; omega
      show o.length ≤ _
      omega
  · simp
theorem arg_small (a : List UInt8) : (argOf a).length ≤ a.length := by
  unfold argOf
  split
  · exact unq_small a
  · exact Nat.le_refl _
theorem dir_small (vs : List (List UInt8)) (d : DV) (h : d ∈ dirsOf vs) : d.2.1.length ≤ bulkT vs := by
  unfold dirsOf at h
  obtain ⟨el, h1, rfl⟩ := List.mem_map.1 h
  obtain ⟨v, h2, h3⟩ := List.mem_flatMap.1 h1
  have a := listOf_mem v el h3
  have b := bulkT_mem vs v h2
  unfold dirOf
  show (if eqPos el < el.length then argOf (el.drop (eqPos el + 1)) else []).length ≤ _
  split
  · have := arg_small (el.drop (eqPos el + 1))
    rw [List.length_drop] at this
    omega
  · simp
set_option maxHeartbeats 1000000 in
theorem pragmaC (v : Value) (fs : FL) (w : World) (hv : HoldsF w v fs) (hb : bulkF fs ≤ 1048576) :
    Calls Tryd.prog 24 #[v] w fun e w' => e = .returned (.bool (decide (ncb ∈ toksOf (valsOf fs pgb)))) ∧ Below w.heap.size w w' := by
  have cT := hide' (tokensTok v fs pgb w hv hb (by decide))
  have hl : (toksOf (valsOf fs pgb)).length ≤ 1048576 := by
    have h1 := toks_len (valsOf fs pgb)
    have h2 := bulk_vals fs pgb
    omega
  obtain ⟨ao, ca, b1, o1, rfl, _⟩ := holdsF_parts hv
  generalize toksOf (valsOf fs pgb) = ts at cT hl ⊢
  clear hv
  go_enter Tryd.func24, Tryd.ntmps24
  go_wp2_with fail
  refine cT.out.mono ?_
  rintro e w1 ⟨u, rfl, ho⟩
  have cC := hide' (containsS u ts ncb w1 (holds_own ho) (by omega))
  have B1 := hide' ho.2
  obtain ⟨a2, c2, b2, o2, hu, _⟩ := holds_parts (holds_own ho)
  rw [hu] at cC ⊢
  clear ho cT hu
  obtain ⟨d, ed⟩ : ∃ d, d = decide (ncb ∈ ts) := ⟨_, rfl⟩
  have DQ : Hid (decide (ncb ∈ ts) = d) := ed.symm
  rw [DQ.out] at cC
  clear ed
  go_wp2_with fail
  refine cC.out.mono ?_
  rintro e w9 ⟨rfl, ew⟩
  rw [ew]
  clear ew w9
  go_wp2_with fail
  go_ret
  exact ⟨by rw [DQ.out]; rfl, B1.out⟩
/-- what Parse answers of the values and of Pragma -/
def parOf (fs : FL) : Value := ctlV (dirsOf (valsOf fs ccb)) (decide (valsOf fs ccb = []) && decide (ncb ∈ toksOf (valsOf fs pgb)))
set_option maxHeartbeats 4000000 in
theorem ctlC (v : Value) (fs : FL) (w : World) (hv : HoldsF w v fs) (hfit : Fit fs) (hl : fs.length * 16 ≤ 140737488355328) (hb : bulkT (valsOf fs ccb) ≤ 4194000) (hp : valsOf fs ccb = [] → bulkF fs ≤ 1048576) :
    Calls Tryd.prog 8 #[v] w fun e w' => e = .returned (parOf fs) ∧ Below w.heap.size w w' := by
  have cV := hide' (fun W (hb : Below w.heap.size w W) => valuesTok v fs ccb W (holdsF_mono hv hb) hfit (by decide) hl)
  have CP := hide' (fun (h : valsOf fs ccb = []) W (hb : Below w.heap.size w W) => pragmaC v fs W (holdsF_mono hv hb) (hp h))
  obtain ⟨ao, ca, b1, o1, hve, _⟩ := holdsF_parts hv
  rw [hve] at cV CP ⊢
  have PV : Hid (parOf fs = ctlV (dirsOf (valsOf fs ccb)) (decide (valsOf fs ccb = []) && decide (ncb ∈ toksOf (valsOf fs pgb)))) := rfl
  clear hv hfit hp hve
  have hdm : Hid (∀ d ∈ dirsOf (valsOf fs ccb), d.2.1.length ≤ 4194304) := fun d hd => by
    have := dir_small _ d hd
    omega
  have hdl : Hid ((dirsOf (valsOf fs ccb)).length ≤ 1000000000000) := by
    have := dirs_len (valsOf fs ccb)
    unfold Hid
    omega
  generalize decide (ncb ∈ toksOf (valsOf fs pgb)) = dp at CP PV
  generalize valsOf fs ccb = vs at cV CP PV hb hdm hdl
  generalize parOf fs = pv at PV ⊢
  have T0 : Hid (∀ W, Below (w.alloc (.cells #[.bool false, .bool false, .bool false, .bool false, .bool false, .bool false, .int .i64 0, .int .i64 0, .int .i64 0, .int .i64 0] 31)).heap.size (w.alloc (.cells #[.bool false, .bool false, .bool false, .bool false, .bool false, .bool false, .int .i64 0, .int .i64 0, .int .i64 0, .int .i64 0] 31)) W → Ten w w.heap.size W W) := fun W hb =>
    ⟨⟨_, _, _, _, _, _, _, _, _, _, cells_below (cells_lit w #[.bool false, .bool false, .bool false, .bool false, .bool false, .bool false, .int .i64 0, .int .i64 0, .int .i64 0, .int .i64 0] 31) hb⟩, (below_alloc' w _).trans (hb.mono (below_alloc' w _).size), Nat.le_refl _, Below.refl _ _⟩
  go_enter Tryd.func8, Tryd.ntmps8
  go_wp2_with fail
  refine (cV.out _ (below_alloc' w _)).mono ?_
  rintro e w1 ⟨u, rfl, ho⟩
  have cD := hide' (directivesC u vs w1 (holds_own ho) hb)
  obtain ⟨a2, c2, b2', o2, hu, _⟩ := holds_parts (holds_own ho)
  have B1 := hide' ho.2
  rw [hu] at cD ⊢
  clear ho hu cV
  obtain ⟨n, en⟩ : ∃ n, n = vs.length := ⟨_, rfl⟩
  have NN : Hid (vs.length = n) := en.symm
  rw [NN.out] at cD ⊢
  clear en
  go_wp2_with fail
  refine cD.out.mono ?_
  rintro e w2 ⟨d, rfl, hod⟩
  have HD := hide' (holdsD_ownC hod)
  have T := hide' (T0.out w2 (B1.out.trans (hod.2.mono B1.out.size)))
  have B2 := hide' ((below_alloc' w _).trans ((B1.out.trans (hod.2.mono B1.out.size)).mono (below_alloc' w (.cells #[.bool false, .bool false, .bool false, .bool false, .bool false, .bool false, .int .i64 0, .int .i64 0, .int .i64 0, .int .i64 0] 31)).size))
  obtain ⟨a3, c3, b3', hd, _⟩ := HD.out
  have CT := hide' (fun W (hb : Below w2.heap.size w2 W) nm => toldC d (dirsOf vs) nm W (holdsD_mono HD.out hb) hdl.out)
  have CL := hide' (fun W (hb : Below w2.heap.size w2 W) nm => limitC d (dirsOf vs) nm W (holdsD_mono HD.out hb) hdl.out hdm.out)
  have CM := hide' (fun W (hb : Below w2.heap.size w2 W) => maxStaleC d (dirsOf vs) W (holdsD_mono HD.out hb) hdl.out hdm.out)
  rw [hd] at CT CL CM ⊢
  clear hod HD hd cD T0 B1 hdm hdl hb
  have hdn : Hid (vs = [] → hasD (dirsOf vs) ncb = false) := fun h => by rw [h]; rfl
  unfold ctlV at PV
  replace CT := hide' (fun W hb => And.intro (CT.out W hb nsb) (And.intro (CT.out W hb ncb) (And.intro (CT.out W hb pvb) (And.intro (CT.out W hb pub) (And.intro (CT.out W hb mrb) (And.intro (CT.out W hb xrb) (CT.out W hb oib)))))))
  replace CL := hide' (fun W hb => And.intro (CL.out W hb mab) (And.intro (CL.out W hb smb) (CL.out W hb mfb)))
  generalize hasD (dirsOf vs) nsb = b0 at CT PV
  generalize hasD (dirsOf vs) ncb = b1 at CT PV hdn
  generalize hasD (dirsOf vs) pvb = b2 at CT PV
  generalize hasD (dirsOf vs) pub = b3 at CT PV
  generalize hasD (dirsOf vs) mrb = b4 at CT PV
  generalize hasD (dirsOf vs) xrb = x4 at CT PV
  generalize hasD (dirsOf vs) oib = b5 at CT PV
  generalize numD (dirsOf vs) mab = n6 at CL PV
  generalize numD (dirsOf vs) smb = n7 at CL PV
  generalize numD (dirsOf vs) mfb = n8 at CL PV
  generalize stlO (fndD (dirsOf vs) msb) = n9 at CM PV
  generalize (dirsOf vs).length = m at CT CL CM ⊢
  go_wp2_with fail
  refine (CT.out _ T.out.2.2.2).1.mono ?_
  rintro e w9 ⟨rfl, h9⟩
  replace T := hide' (ten_below T.out h9)
  clear h9
  go_wp2_with fail
  refine (CT.out _ T.out.2.2.2).2.1.mono ?_
  rintro e w9 ⟨rfl, h9⟩
  replace T := hide' (ten_below T.out h9)
  clear h9
  cases b1 with
  | true =>
    replace PV : Hid (pv = .agg #[.bool b0, .bool true, .bool b2, .bool b3, .bool (b4 || x4), .bool b5, .int .i64 n6, .int .i64 n7, .int .i64 n8, .int .i64 n9]) := by unfold Hid; rw [PV.out]; simp
    obtain ⟨nc, enc⟩ : ∃ nc, nc = true := ⟨_, rfl⟩
    rw [← enc] at PV
    go_wp2_with fail
    refine (CT.out _ T.out.2.2.2).2.2.1.mono ?_
    rintro e w9 ⟨rfl, h9⟩
    replace T := hide' (ten_below T.out h9)
    clear h9
    go_wp2_with fail
    refine (CT.out _ T.out.2.2.2).2.2.2.1.mono ?_
    rintro e w9 ⟨rfl, h9⟩
    replace T := hide' (ten_below T.out h9)
    clear h9
    go_wp2_with fail
    refine (CT.out _ T.out.2.2.2).2.2.2.2.1.mono ?_
    rintro e w9 ⟨rfl, h9⟩
    replace T := hide' (ten_below T.out h9)
    clear h9
    cases b4 with
    | true =>
      go_wp2_with fail
      refine (CT.out _ T.out.2.2.2).2.2.2.2.2.2.mono ?_
      rintro e w9 ⟨rfl, h9⟩
      replace T := hide' (ten_below T.out h9)
      clear h9
      go_wp2_with fail
      refine (CL.out _ T.out.2.2.2).1.mono ?_
      rintro e w9 ⟨rfl, h9⟩
      replace T := hide' (ten_below T.out h9)
      clear h9
      go_wp2_with fail
      refine (CL.out _ T.out.2.2.2).2.1.mono ?_
      rintro e w9 ⟨rfl, h9⟩
      replace T := hide' (ten_below T.out h9)
      clear h9
      go_wp2_with fail
      refine (CL.out _ T.out.2.2.2).2.2.mono ?_
      rintro e w9 ⟨rfl, h9⟩
      replace T := hide' (ten_below T.out h9)
      clear h9
      go_wp2_with fail
      refine (CM.out _ T.out.2.2.2).mono ?_
      rintro e w9 ⟨rfl, h9⟩
      replace T := hide' (ten_below T.out h9)
      clear h9
      obtain ⟨⟨u0, u1, u2, u3, u4, u5, u6, u7, u8, u9, bk⟩, bel, hle, hb2⟩ := T.out
      obtain ⟨⟨c0, c1, c2, c3, c4, c5, c6, c7, c8, c9⟩, f0, f1, f2, f3, f4, f5, f6, f7, f8, f9⟩ := cells10K bk
      have hlt := bk.2
      clear bk bel hb2
      go_wp2_with fail
      obtain ⟨⟨q0, q1, q2, q3, q4, q5, q6, q7, q8, q9⟩, qb⟩ := ten_store T.out (.bool b0) (.bool true) (.bool b2) (.bool b3) (.bool true) (.bool b5) (.int .i64 n6) (.int .i64 n7) (.int .i64 n8) (.int .i64 n9) _ rfl
      exact bodyPost_ret (v := .agg #[.bool b0, .bool true, .bool b2, .bool b3, .bool true, .bool b5, .int .i64 n6, .int .i64 n7, .int .i64 n8, .int .i64 n9]) (by simp [results, Tryd.results8, go_sem, q0, q1, q2, q3, q4, q5, q6, q7, q8, q9]) rfl ⟨by rw [PV.out, enc]; first | rfl | simp, qb⟩
    | false =>
      go_wp2_with fail
      refine (CT.out _ T.out.2.2.2).2.2.2.2.2.1.mono ?_
      rintro e w9 ⟨rfl, h9⟩
      replace T := hide' (ten_below T.out h9)
      clear h9
      go_wp2_with fail
      refine (CT.out _ T.out.2.2.2).2.2.2.2.2.2.mono ?_
      rintro e w9 ⟨rfl, h9⟩
      replace T := hide' (ten_below T.out h9)
      clear h9
      go_wp2_with fail
      refine (CL.out _ T.out.2.2.2).1.mono ?_
      rintro e w9 ⟨rfl, h9⟩
      replace T := hide' (ten_below T.out h9)
      clear h9
      go_wp2_with fail
      refine (CL.out _ T.out.2.2.2).2.1.mono ?_
      rintro e w9 ⟨rfl, h9⟩
      replace T := hide' (ten_below T.out h9)
      clear h9
      go_wp2_with fail
      refine (CL.out _ T.out.2.2.2).2.2.mono ?_
      rintro e w9 ⟨rfl, h9⟩
      replace T := hide' (ten_below T.out h9)
      clear h9
      go_wp2_with fail
      refine (CM.out _ T.out.2.2.2).mono ?_
      rintro e w9 ⟨rfl, h9⟩
      replace T := hide' (ten_below T.out h9)
      clear h9
      obtain ⟨⟨u0, u1, u2, u3, u4, u5, u6, u7, u8, u9, bk⟩, bel, hle, hb2⟩ := T.out
      obtain ⟨⟨c0, c1, c2, c3, c4, c5, c6, c7, c8, c9⟩, f0, f1, f2, f3, f4, f5, f6, f7, f8, f9⟩ := cells10K bk
      have hlt := bk.2
      clear bk bel hb2
      go_wp2_with fail
      obtain ⟨⟨q0, q1, q2, q3, q4, q5, q6, q7, q8, q9⟩, qb⟩ := ten_store T.out (.bool b0) (.bool true) (.bool b2) (.bool b3) (.bool x4) (.bool b5) (.int .i64 n6) (.int .i64 n7) (.int .i64 n8) (.int .i64 n9) _ rfl
      exact bodyPost_ret (v := .agg #[.bool b0, .bool true, .bool b2, .bool b3, .bool x4, .bool b5, .int .i64 n6, .int .i64 n7, .int .i64 n8, .int .i64 n9]) (by simp [results, Tryd.results8, go_sem, q0, q1, q2, q3, q4, q5, q6, q7, q8, q9]) rfl ⟨by rw [PV.out, enc]; first | rfl | simp, qb⟩
  | false =>
    by_cases hn : n = 0
    · subst hn
      have ev : vs = [] := List.eq_nil_of_length_eq_zero NN.out
      have cP := hide' (CP.out ev)
      replace PV : Hid (pv = .agg #[.bool b0, .bool dp, .bool b2, .bool b3, .bool (b4 || x4), .bool b5, .int .i64 n6, .int .i64 n7, .int .i64 n8, .int .i64 n9]) := by unfold Hid; rw [PV.out, decide_eq_true ev]; simp
      clear CP ev hdn
      go_wp2_with fail
      refine (cP.out _ (B2.out.trans (T.out.2.2.2.mono B2.out.size))).mono ?_
      rintro e w9 ⟨rfl, h9⟩
      replace T := hide' (ten_below T.out h9)
      clear h9
      go_wp2_with fail
      refine (CT.out _ T.out.2.2.2).2.2.1.mono ?_
      rintro e w9 ⟨rfl, h9⟩
      replace T := hide' (ten_below T.out h9)
      clear h9
      go_wp2_with fail
      refine (CT.out _ T.out.2.2.2).2.2.2.1.mono ?_
      rintro e w9 ⟨rfl, h9⟩
      replace T := hide' (ten_below T.out h9)
      clear h9
      go_wp2_with fail
      refine (CT.out _ T.out.2.2.2).2.2.2.2.1.mono ?_
      rintro e w9 ⟨rfl, h9⟩
      replace T := hide' (ten_below T.out h9)
      clear h9
      cases b4 with
      | true =>
        go_wp2_with fail
        refine (CT.out _ T.out.2.2.2).2.2.2.2.2.2.mono ?_
        rintro e w9 ⟨rfl, h9⟩
        replace T := hide' (ten_below T.out h9)
        clear h9
        go_wp2_with fail
        refine (CL.out _ T.out.2.2.2).1.mono ?_
        rintro e w9 ⟨rfl, h9⟩
        replace T := hide' (ten_below T.out h9)
        clear h9
        go_wp2_with fail
        refine (CL.out _ T.out.2.2.2).2.1.mono ?_
        rintro e w9 ⟨rfl, h9⟩
        replace T := hide' (ten_below T.out h9)
        clear h9
        go_wp2_with fail
        refine (CL.out _ T.out.2.2.2).2.2.mono ?_
        rintro e w9 ⟨rfl, h9⟩
        replace T := hide' (ten_below T.out h9)
        clear h9
        go_wp2_with fail
        refine (CM.out _ T.out.2.2.2).mono ?_
        rintro e w9 ⟨rfl, h9⟩
        replace T := hide' (ten_below T.out h9)
        clear h9
        obtain ⟨⟨u0, u1, u2, u3, u4, u5, u6, u7, u8, u9, bk⟩, bel, hle, hb2⟩ := T.out
        obtain ⟨⟨c0, c1, c2, c3, c4, c5, c6, c7, c8, c9⟩, f0, f1, f2, f3, f4, f5, f6, f7, f8, f9⟩ := cells10K bk
        have hlt := bk.2
        clear bk bel hb2
        go_wp2_with fail
        obtain ⟨⟨q0, q1, q2, q3, q4, q5, q6, q7, q8, q9⟩, qb⟩ := ten_store T.out (.bool b0) (.bool dp) (.bool b2) (.bool b3) (.bool true) (.bool b5) (.int .i64 n6) (.int .i64 n7) (.int .i64 n8) (.int .i64 n9) _ rfl
        exact bodyPost_ret (v := .agg #[.bool b0, .bool dp, .bool b2, .bool b3, .bool true, .bool b5, .int .i64 n6, .int .i64 n7, .int .i64 n8, .int .i64 n9]) (by simp [results, Tryd.results8, go_sem, q0, q1, q2, q3, q4, q5, q6, q7, q8, q9]) rfl ⟨by rw [PV.out]; first | rfl | simp, qb⟩
      | false =>
        go_wp2_with fail
        refine (CT.out _ T.out.2.2.2).2.2.2.2.2.1.mono ?_
        rintro e w9 ⟨rfl, h9⟩
        replace T := hide' (ten_below T.out h9)
        clear h9
        go_wp2_with fail
        refine (CT.out _ T.out.2.2.2).2.2.2.2.2.2.mono ?_
        rintro e w9 ⟨rfl, h9⟩
        replace T := hide' (ten_below T.out h9)
        clear h9
        go_wp2_with fail
        refine (CL.out _ T.out.2.2.2).1.mono ?_
        rintro e w9 ⟨rfl, h9⟩
        replace T := hide' (ten_below T.out h9)
        clear h9
        go_wp2_with fail
        refine (CL.out _ T.out.2.2.2).2.1.mono ?_
        rintro e w9 ⟨rfl, h9⟩
        replace T := hide' (ten_below T.out h9)
        clear h9
        go_wp2_with fail
        refine (CL.out _ T.out.2.2.2).2.2.mono ?_
        rintro e w9 ⟨rfl, h9⟩
        replace T := hide' (ten_below T.out h9)
        clear h9
        go_wp2_with fail
        refine (CM.out _ T.out.2.2.2).mono ?_
        rintro e w9 ⟨rfl, h9⟩
        replace T := hide' (ten_below T.out h9)
        clear h9
        obtain ⟨⟨u0, u1, u2, u3, u4, u5, u6, u7, u8, u9, bk⟩, bel, hle, hb2⟩ := T.out
        obtain ⟨⟨c0, c1, c2, c3, c4, c5, c6, c7, c8, c9⟩, f0, f1, f2, f3, f4, f5, f6, f7, f8, f9⟩ := cells10K bk
        have hlt := bk.2
        clear bk bel hb2
        go_wp2_with fail
        obtain ⟨⟨q0, q1, q2, q3, q4, q5, q6, q7, q8, q9⟩, qb⟩ := ten_store T.out (.bool b0) (.bool dp) (.bool b2) (.bool b3) (.bool x4) (.bool b5) (.int .i64 n6) (.int .i64 n7) (.int .i64 n8) (.int .i64 n9) _ rfl
        exact bodyPost_ret (v := .agg #[.bool b0, .bool dp, .bool b2, .bool b3, .bool x4, .bool b5, .int .i64 n6, .int .i64 n7, .int .i64 n8, .int .i64 n9]) (by simp [results, Tryd.results8, go_sem, q0, q1, q2, q3, q4, q5, q6, q7, q8, q9]) rfl ⟨by rw [PV.out]; first | rfl | simp, qb⟩
    · have ev : ¬ vs = [] := fun h => hn (by rw [← NN.out, h]; rfl)
      have hn2 : ((n : Int) == 0) = false := by simp; omega
      replace PV : Hid (pv = .agg #[.bool b0, .bool false, .bool b2, .bool b3, .bool (b4 || x4), .bool b5, .int .i64 n6, .int .i64 n7, .int .i64 n8, .int .i64 n9]) := by unfold Hid; rw [PV.out, decide_eq_false ev]; simp
      clear CP ev hdn hn
      go_wp2_with fail
      refine (CT.out _ T.out.2.2.2).2.2.1.mono ?_
      rintro e w9 ⟨rfl, h9⟩
      replace T := hide' (ten_below T.out h9)
      clear h9
      go_wp2_with fail
      refine (CT.out _ T.out.2.2.2).2.2.2.1.mono ?_
      rintro e w9 ⟨rfl, h9⟩
      replace T := hide' (ten_below T.out h9)
      clear h9
      go_wp2_with fail
      refine (CT.out _ T.out.2.2.2).2.2.2.2.1.mono ?_
      rintro e w9 ⟨rfl, h9⟩
      replace T := hide' (ten_below T.out h9)
      clear h9
      cases b4 with
      | true =>
        go_wp2_with fail
        refine (CT.out _ T.out.2.2.2).2.2.2.2.2.2.mono ?_
        rintro e w9 ⟨rfl, h9⟩
        replace T := hide' (ten_below T.out h9)
        clear h9
        go_wp2_with fail
        refine (CL.out _ T.out.2.2.2).1.mono ?_
        rintro e w9 ⟨rfl, h9⟩
        replace T := hide' (ten_below T.out h9)
        clear h9
        go_wp2_with fail
        refine (CL.out _ T.out.2.2.2).2.1.mono ?_
        rintro e w9 ⟨rfl, h9⟩
        replace T := hide' (ten_below T.out h9)
        clear h9
        go_wp2_with fail
        refine (CL.out _ T.out.2.2.2).2.2.mono ?_
        rintro e w9 ⟨rfl, h9⟩
        replace T := hide' (ten_below T.out h9)
        clear h9
        go_wp2_with fail
        refine (CM.out _ T.out.2.2.2).mono ?_
        rintro e w9 ⟨rfl, h9⟩
        replace T := hide' (ten_below T.out h9)
        clear h9
        obtain ⟨⟨u0, u1, u2, u3, u4, u5, u6, u7, u8, u9, bk⟩, bel, hle, hb2⟩ := T.out
        obtain ⟨⟨c0, c1, c2, c3, c4, c5, c6, c7, c8, c9⟩, f0, f1, f2, f3, f4, f5, f6, f7, f8, f9⟩ := cells10K bk
        have hlt := bk.2
        clear bk bel hb2
        go_wp2_with fail
        obtain ⟨⟨q0, q1, q2, q3, q4, q5, q6, q7, q8, q9⟩, qb⟩ := ten_store T.out (.bool b0) (.bool false) (.bool b2) (.bool b3) (.bool true) (.bool b5) (.int .i64 n6) (.int .i64 n7) (.int .i64 n8) (.int .i64 n9) _ rfl
        exact bodyPost_ret (v := .agg #[.bool b0, .bool false, .bool b2, .bool b3, .bool true, .bool b5, .int .i64 n6, .int .i64 n7, .int .i64 n8, .int .i64 n9]) (by simp [results, Tryd.results8, go_sem, q0, q1, q2, q3, q4, q5, q6, q7, q8, q9]) rfl ⟨by rw [PV.out]; first | rfl | simp, qb⟩
      | false =>
        go_wp2_with fail
        refine (CT.out _ T.out.2.2.2).2.2.2.2.2.1.mono ?_
        rintro e w9 ⟨rfl, h9⟩
        replace T := hide' (ten_below T.out h9)
        clear h9
        go_wp2_with fail
        refine (CT.out _ T.out.2.2.2).2.2.2.2.2.2.mono ?_
        rintro e w9 ⟨rfl, h9⟩
        replace T := hide' (ten_below T.out h9)
        clear h9
        go_wp2_with fail
        refine (CL.out _ T.out.2.2.2).1.mono ?_
        rintro e w9 ⟨rfl, h9⟩
        replace T := hide' (ten_below T.out h9)
        clear h9
        go_wp2_with fail
        refine (CL.out _ T.out.2.2.2).2.1.mono ?_
        rintro e w9 ⟨rfl, h9⟩
        replace T := hide' (ten_below T.out h9)
        clear h9
        go_wp2_with fail
        refine (CL.out _ T.out.2.2.2).2.2.mono ?_
        rintro e w9 ⟨rfl, h9⟩
        replace T := hide' (ten_below T.out h9)
        clear h9
        go_wp2_with fail
        refine (CM.out _ T.out.2.2.2).mono ?_
        rintro e w9 ⟨rfl, h9⟩
        replace T := hide' (ten_below T.out h9)
        clear h9
        obtain ⟨⟨u0, u1, u2, u3, u4, u5, u6, u7, u8, u9, bk⟩, bel, hle, hb2⟩ := T.out
        obtain ⟨⟨c0, c1, c2, c3, c4, c5, c6, c7, c8, c9⟩, f0, f1, f2, f3, f4, f5, f6, f7, f8, f9⟩ := cells10K bk
        have hlt := bk.2
        clear bk bel hb2
        go_wp2_with fail
        obtain ⟨⟨q0, q1, q2, q3, q4, q5, q6, q7, q8, q9⟩, qb⟩ := ten_store T.out (.bool b0) (.bool false) (.bool b2) (.bool b3) (.bool x4) (.bool b5) (.int .i64 n6) (.int .i64 n7) (.int .i64 n8) (.int .i64 n9) _ rfl
        exact bodyPost_ret (v := .agg #[.bool b0, .bool false, .bool b2, .bool b3, .bool x4, .bool b5, .int .i64 n6, .int .i64 n7, .int .i64 n8, .int .i64 n9]) (by simp [results, Tryd.results8, go_sem, q0, q1, q2, q3, q4, q5, q6, q7, q8, q9]) rfl ⟨by rw [PV.out]; first | rfl | simp, qb⟩
end Go.Proofs.YtlhhcpbfjjhbfabDoor
