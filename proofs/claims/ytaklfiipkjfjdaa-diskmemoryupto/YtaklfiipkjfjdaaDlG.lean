/- The contract of rising: are the files' names good and in their order? -/
import Derived.Test.YtaklfiipkjfjdaaDlF
namespace Go.Proofs.Ytaklfiipkjfjdaa
open Go.RowKit Go.Maps
theorem chain_snoc : ∀ (l : List Nm) (a b : Nm), chainOk (l ++ [a, b]) = (chainOk (l ++ [a]) && lessN a b) := by
  intro l
  induction l with
  | nil => intro a b; show (lessN a b && true) = (true && lessN a b); simp
  | cons x r ih =>
    intro a b
    cases r with
    | nil =>
      show (lessN x a && (lessN a b && true)) = ((lessN x a && true) && lessN a b)
      simp
    | cons y t =>
      have h := ih a b
      show (lessN x y && chainOk ((y :: t) ++ [a, b])) = ((lessN x y && chainOk ((y :: t) ++ [a])) && lessN a b)
      rw [h, Bool.and_assoc]
theorem take_two (fs : FilL) (i : Nat) (h : i + 1 < fs.length) : fs.take (i + 1 + 1) = fs.take i ++ [fs[i], fs[i + 1]] := by
  rw [List.take_succ_eq_append_getElem h, List.take_succ_eq_append_getElem (show i < fs.length by omega), List.append_assoc]
  rfl
theorem ok_first (fs : FilL) (h : 0 < fs.length) : filesOk (fs.take (0 + 1)) = goodN (fs[0]).1 := by
  rw [List.take_succ_eq_append_getElem h]
  simp [filesOk, chainOk]
theorem ok_next (fs : FilL) (i : Nat) (h : i + 1 < fs.length) : filesOk (fs.take (i + 1 + 1)) = (filesOk (fs.take (i + 1)) && (goodN (fs[i + 1]).1 && lessN (fs[i]).1 (fs[i + 1]).1)) := by
  rw [take_two fs i h]
  have e : fs.take (i + 1) = fs.take i ++ [fs[i]] := List.take_succ_eq_append_getElem (by omega)
  rw [e]
  unfold filesOk
  rw [List.map_append, List.map_append, List.all_append, List.all_append]
  have hc := chain_snoc ((fs.take i).map (fun f => f.1)) (fs[i]).1 (fs[i + 1]).1
  simp only [List.map_cons, List.map_nil, List.all_cons, List.all_nil, Bool.and_true] at hc ⊢
  rw [hc]
  cases (fs.take i).all (fun f => goodN f.1) <;> cases goodN (fs[i]).1 <;> cases goodN (fs[i + 1]).1 <;> cases chainOk ((fs.take i).map (fun f => f.1) ++ [(fs[i]).1]) <;> cases lessN (fs[i]).1 (fs[i + 1]).1 <;> rfl
theorem ok_mono (fs : FilL) (j : Nat) (h : filesOk fs = true) : filesOk (fs.take j) = true := by
  induction j with
  | zero => rfl
  | succ j ih =>
    rcases Nat.lt_or_ge j fs.length with hj | hj
    · unfold filesOk at h ⊢
      rw [Bool.and_eq_true] at h ⊢
      refine ⟨List.all_eq_true.2 (fun f hf => List.all_eq_true.1 h.1 f (List.mem_of_mem_take hf)), ?_⟩
      have := chain_pair _ h.2
      rw [List.map_take]
      exact pair_chain _ (this.sublist (List.take_sublist _ _))
    · rw [List.take_of_length_le (by omega)]; exact h
theorem ok_bad (fs : FilL) (j : Nat) (h : filesOk (fs.take j) = false) : filesOk fs = false := by
  cases e : filesOk fs with
  | false => rfl
  | true => rw [ok_mono fs j e] at h; cases h
/-- 'b <= a' in the words of the comparison that the language makes -/
theorem le_less (a b : Nm) : (Op.bytesLess b a || b == a) = !(lessN a b) := by
  rcases less_total a b with h | h | h
  · rw [h]
    have := less_irrefl b
    rw [this]
    simp
  · have h2 := less_asymm a b h
    have h3 : (b == a) = false := by
      cases e : b == a with
      | false => rfl
      | true => rw [beq_iff_eq] at e; rw [e, less_irrefl] at h; cases h
    rw [h, h3]
    show (lessN b a || false) = false
    rw [h2]; rfl
  · have h2 := less_asymm b a h
    rw [h2]
    show (lessN b a || _) = true
    rw [h]; rfl
theorem goodNameL (l : Nm) (w : World) (hs : l.length ≤ 140737488351232) : Calls Try.prog 41 #[.string ⟨l.toArray⟩] w fun e w' => e = .returned (.bool (goodN l)) ∧ w' = w := by
  have := goodNameC ⟨l.toArray⟩ w (by rw [size_l]; exact hs)
  simpa using this
set_option maxRecDepth 20000 in
set_option maxHeartbeats 4000000 in
theorem risingF (v : Value) (fs : FilL) (w : World) (hv : HoldsFi w v fs) (hl : ∀ f ∈ fs, f.1.length ≤ 140737488351232) (hn : fs.length ≤ 1000000000) :
    Calls Try.prog 26 #[v] w fun e w' => e = .returned (.bool (filesOk fs)) ∧ Below w.heap.size w w' := by
  obtain ⟨ao, ca, rfl, h0, hcp, hca⟩ := hv
  by_cases hz : fs = []
  · subst hz
    clear hca hl hn
    go_enter Try.func26, Try.ntmps26
    go_wp2_with fail
    go_rounds 1
    go_ret
    exact ⟨rfl, Below.refl _ _⟩
  · obtain ⟨b1, o1, rfl, hlt1, c1⟩ := hca hz
    have C1 : Hid _ := c1
    obtain ⟨n, hN⟩ : ∃ n, n = fs.length := ⟨_, rfl⟩
    have N1 : Hid (fs.length = n) := hN.symm
    have ln : n ≤ 1000000000 := by omega
    rw [N1.out]
    clear hca c1 hz hn hN h0 hcp
    go_enter Try.func26, Try.ntmps26
    go_wp2_with fail
    go_loopw [3, 4, 7] (fun _ _ i wr => ∃ j : Nat, j ≤ n ∧ i = .int .i64 j ∧ Hid (filesOk (fs.take j) = true) ∧ Hid (Below w.heap.size w wr)) (fun _ _ i _ => n - (intOf i).toNat)
    case atStart => exact ⟨0, by omega, rfl, rfl, Below.refl _ _⟩
    case round =>
      obtain ⟨j, hj, rfl, hE, HB⟩ := hrel
      by_cases hlt : j < n
      · have G : Hid (j < fs.length) := by unfold Hid; rw [N1.out]; exact hlt
        obtain ⟨x1, u, x2, x3⟩ := C1.out j G.out
        obtain ⟨ua, uc, hu, _⟩ := x3
        subst hu
        rw [← HB.out.cell (p := ⟨b1, o1 + j * 2, none⟩) hlt1] at x1
        rw [← HB.out.cell (p := ⟨b1, o1 + j * 2 + 1, none⟩) hlt1] at x2
        have hb1 : b1 < wr.heap.size := Nat.lt_of_lt_of_le hlt1 HB.out.size
        have hb1n : ¬ wr.heap.size = b1 := by omega
        unfold S at x1
        have cg : ∀ wx, Calls Try.prog 41 #[.string ⟨((fs[j]'G.out).1).toArray⟩] wx fun e w' => e = .returned (.bool (goodN (fs[j]'G.out).1)) ∧ w' = wx := fun wx => goodNameL _ wx (hl _ (List.getElem_mem _))
        have BA : Hid (Below w.heap.size w (wr.alloc (.cells #[.string ⟨((fs[j]'G.out).1).toArray⟩, .slice ua (fs[j]'G.out).2.length uc] 43))) := HB.out.trans ((below_alloc' wr _).mono HB.out.size)
        cases hg : goodN (fs[j]'G.out).1 with
        | false =>
          have F : Hid (filesOk fs = false) := by
            refine ok_bad fs (j + 1) ?_
            cases j with
            | zero => rw [ok_first fs G.out]; exact hg
            | succ i => rw [ok_next fs i G.out, hg]; simp
          rw [hg] at cg
          generalize (fs[j]'G.out).2.length = L2 at x2 BA
          generalize (⟨((fs[j]'G.out).1).toArray⟩ : ByteArray) = y at x1 cg BA
          have CG := hide' cg
          clear cg hg
          go_wp2_with fail
          go_quiet (first | (go_at_call 41; refine Calls.quiet_of_same (CG.out _)))
          go_wp2_with fail
          go_ret
          rw [F.out]
          exact ⟨rfl, BA.out.trans (below_drawn (Below.refl _ _) _)⟩
        | true =>
          rcases Nat.eq_zero_or_pos j with hj0 | hj0
          · have A : Hid (filesOk (fs.take (j + 1)) = true) := by
              unfold Hid
              have G' := G.out
              subst hj0
              rw [ok_first fs G']; exact hg
            have q0 : decide (0 < j) = false := by rw [hj0]; rfl
            rw [hg] at cg
            generalize (fs[j]'G.out).2.length = L2 at x2 BA
            generalize (⟨((fs[j]'G.out).1).toArray⟩ : ByteArray) = y at x1 cg BA
            have CG := hide' cg
            clear cg hg hj0
            go_wp2_with fail
            go_quiet (first | (go_at_call 41; refine Calls.quiet_of_same (CG.out _)))
            go_wp2_with fail
            go_roundw
            case rel => exact ⟨j + 1, by omega, by go_num, A, BA.out.trans (below_drawn (Below.refl _ _) _)⟩
            case measure => simp [intOf]; omega
          · obtain ⟨i, hij⟩ : ∃ i, j = i + 1 := ⟨j - 1, by omega⟩
            have hi : i < fs.length := by have := G.out; omega
            have x0 := (C1.out i hi).1
            rw [← HB.out.cell (p := ⟨b1, o1 + i * 2, none⟩) hlt1] at x0
            unfold S at x0
            have hle : (Op.bytesLess (⟨((fs[j]'G.out).1).toArray⟩ : ByteArray).toList (⟨((fs[i]'hi).1).toArray⟩ : ByteArray).toList || (⟨((fs[j]'G.out).1).toArray⟩ : ByteArray).toList == (⟨((fs[i]'hi).1).toArray⟩ : ByteArray).toList) = !(lessN (fs[i]'hi).1 (fs[j]'G.out).1) := by
              rw [Lib.toList_data, Lib.toList_data]
              exact le_less (fs[i]'hi).1 (fs[j]'G.out).1
            have ON : filesOk (fs.take (j + 1)) = (filesOk (fs.take j) && (goodN (fs[j]'G.out).1 && lessN (fs[i]'hi).1 (fs[j]'G.out).1)) := by
              have G' := G.out
              subst hij
              exact ok_next fs i G'
            rw [hE.out, hg, Bool.true_and, Bool.true_and] at ON
            have qj : (0 : Int) < (j : Int) := by omega
            have qw : IntKind.i64.wrap ((j : Int) - 1) = (i : Int) := by rw [wrap_small _ (by omega) (by omega)]; omega
            have qi0 : (0 : Int) ≤ (i : Int) := by omega
            have qin : (i : Int) < (n : Int) := by have := N1.out; omega
            rw [hg] at cg
            cases hc : lessN (fs[i]'hi).1 (fs[j]'G.out).1 with
            | true =>
              rw [hc] at ON hle
              have A := hide' ON
              generalize (fs[j]'G.out).2.length = L2 at x2 BA
              generalize (⟨((fs[j]'G.out).1).toArray⟩ : ByteArray) = y at x1 cg BA hle
              generalize (⟨((fs[i]'hi).1).toArray⟩ : ByteArray) = y0 at x0 hle
              have hr : ∀ W, Sem.run Try.prog (binOp .leq 9 (.string y) (.string y0)) W = .ok (.bool false) W := fun W => by
                show Result.ok (Value.bool (Op.bytesLess y.toList y0.toList || y.toList == y0.toList)) W = _
                rw [hle]; rfl
              clear hle
              have CG := hide' cg
              clear cg hg hij ON hc hi
              go_wp2_with fail
              go_quiet (first | (go_at_call 41; refine Calls.quiet_of_same (CG.out _)))
              go_wp2_with fail
              go_roundw
              case rel => exact ⟨j + 1, by omega, by go_num, A, BA.out.trans (below_drawn (Below.refl _ _) _)⟩
              case measure => simp [intOf]; omega
            | false =>
              rw [hc] at ON hle
              have F : Hid (filesOk fs = false) := ok_bad fs (j + 1) ON
              generalize (fs[j]'G.out).2.length = L2 at x2 BA
              generalize (⟨((fs[j]'G.out).1).toArray⟩ : ByteArray) = y at x1 cg BA hle
              generalize (⟨((fs[i]'hi).1).toArray⟩ : ByteArray) = y0 at x0 hle
              have hr : ∀ W, Sem.run Try.prog (binOp .leq 9 (.string y) (.string y0)) W = .ok (.bool true) W := fun W => by
                show Result.ok (Value.bool (Op.bytesLess y.toList y0.toList || y.toList == y0.toList)) W = _
                rw [hle]; rfl
              clear hle
              have CG := hide' cg
              clear cg hg hij ON hc hi
              go_wp2_with fail
              go_quiet (first | (go_at_call 41; refine Calls.quiet_of_same (CG.out _)))
              go_wp2_with fail
              go_ret
              rw [F.out]
              exact ⟨rfl, BA.out.trans (below_drawn (Below.refl _ _) _)⟩
      · have F : Hid (filesOk fs = true) := by
          have := hE.out
          rwa [List.take_of_length_le (by rw [N1.out]; omega)] at this
        go_wp2_with fail
        go_ret
        rw [F.out]
        exact ⟨rfl, HB.out⟩
end Go.Proofs.Ytaklfiipkjfjdaa
