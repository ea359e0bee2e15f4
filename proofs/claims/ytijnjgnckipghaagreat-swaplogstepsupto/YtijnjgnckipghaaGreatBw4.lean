/- A whole list of bytes appended; the contracts of CopyBytes and SameBytes. The contract of bytes.Clone. -/
import Derived.Test.YtijnjgnckipghaaGreatBw1
import Derived.Laws.AppendOwnNone
import Derived.WideShapes
import Derived.Lib.SliceRun
namespace Go.Proofs.YtijnjgnckipghaaGreat
open Go.RowKit
/-- a whole list of bytes appended -/
theorem appAllB {ops : Array Oper} {rest : List Oper} {o : Oper} {a : Act} {Q : Exit → Act → World → Prop} {wr : World} (hgd : o.guard = none) (s z : Operand)
    (ho : o.op = .call { callee := .builtin .append, args := #[s, z], argTypes := #[67, 67] }) (w0 : World) (v : Value) (ps : List UInt8) (hs : a.eval s = v) (hown : Own w0 v ps wr)
    (u : Value) (qs : List UInt8) (hz : a.eval z = u) (hu : HoldsB wr u qs) (hlen : ps.length + qs.length ≤ 140737488355328)
    (h : ∀ v' w', Own w0 v' (ps ++ qs) w' → wpList Tryz.prog ops Q rest (a.put o.dst v') w') : wpList Tryz.prog ops Q (o :: rest) a wr := by
  obtain ⟨i0, hi, hz0, hz1, hz2⟩ := info_parts Tryz.info5
  have hsz := hown.2.size
  obtain ⟨ao, cap, rfl, h0, hcp, hc⟩ := hu
  have key : ∀ (ad : Addr), ao = some ad → (∀ j x, (qs.map B)[j]? = some x → wr.cell? (ad.add j) = some x) → wpList Tryz.prog ops Q (o :: rest) a wr := by
    intro ad e hnews
    subst e
    refine wpList_append_own _ hgd s z 67 ho w0.heap.size 5 i0 (.int .u8 0) 1 1 Tryz.underlying67 hi hz0 hz1 hz2 rfl (by decide) v ps.length (ps.map B) hs hown.1 ad qs.length cap (qs.map B) hz (by simp) hnews ?_ (by unfold maxLen; omega) (by omega) hsz ?_
    · intro u hu; obtain ⟨x, _, rfl⟩ := List.mem_map.1 hu; rfl
    · intro v' w' h1 h2 _
      refine h v' w' ⟨by rw [List.map_append, List.length_append]; exact h1, ?_⟩
      refine Below.grown hown.2 h2 (by omega) ?_
      intro k hk
      exact (hown.1.lt k hk).1
  by_cases hq : qs = []
  · subst hq
    cases ao with
    | none =>
      obtain rfl := h0 rfl
      refine wpList_append_own_none hgd s z 67 ho w0.heap.size 5 i0 1 Tryz.underlying67 hi v ps.length (ps.map B) hs hown.1 hz ?_
      exact h v wr (by rw [List.append_nil]; exact hown)
    | some ad => exact key ad rfl (fun j x hj => by simp at hj)
  · obtain ⟨b, off, rfl, hlt, hcell⟩ := hc hq
    refine key ⟨b, off, none⟩ rfl (fun j x hj => ?_)
    have e : (⟨b, off, none⟩ : Addr).add j = ⟨b, off + j, none⟩ := Go.WideShapes.add_plain _ _ _
    rw [e]
    obtain ⟨hj1, hj2⟩ := List.getElem?_eq_some_iff.1 hj
    rw [List.length_map] at hj1
    rw [hcell j hj1, ← hj2]
    simp
theorem own_mono {w0 w w' : World} {v : Value} {ps : List UInt8} (h : Own w0 v ps w) (hb : Below w.heap.size w w') : Own w0 v ps w' := by
  have hz := h.2.size
  refine ⟨?_, h.2.trans (hb.mono hz)⟩
  obtain ⟨hl, h1 | ⟨g, cap, cur, rfl, hg, hh, hr⟩⟩ := h.1
  · exact ⟨hl, .inl h1⟩
  · have hlt : g < w.heap.size := by
      rcases Nat.lt_or_ge g w.heap.size with h | h
      · exact h
      · rw [Array.getElem?_eq_none (by omega)] at hh; cases hh
    exact ⟨hl, .inr ⟨g, cap, cur, rfl, hg, by rw [hb.block g hlt]; exact hh, hr⟩⟩
theorem own_base {w w1 w2 : World} {v : Value} {ps : List UInt8} (h : Own w1 v ps w2) (hb : Below w.heap.size w w1) : Own w v ps w2 := by
  have hz := hb.size
  refine ⟨?_, hb.trans (h.2.mono hz)⟩
  obtain ⟨hl, h1 | ⟨g, cap, cur, hv, hg, hr⟩⟩ := h.1
  · exact ⟨hl, .inl h1⟩
  · exact ⟨hl, .inr ⟨g, cap, cur, hv, by omega, hr⟩⟩
set_option maxHeartbeats 400000 in
theorem copyB (v : Value) (bs : List UInt8) (w : World) (hv : HoldsB w v bs) (hl : bs.length ≤ 140737488355328) :
    Calls Tryz.prog 23 #[v] w fun e w' => ∃ u, e = .returned u ∧ Own w u bs w' := by
  have HV := hide' (holdsB_mono hv (below_alloc' w (.cells #[] 5)))
  clear hv
  go_enter Tryz.func23, Tryz.ntmps23
  go_wp2_with (at_builtin; refine appAllB rfl (.tmp 5) (.tmp 6) rfl w _ [] rfl (own_empty w) v bs rfl HV.out (by simpa using hl) ?_; intro v2 w2 hown2)
  go_ret
  exact ⟨v2, rfl, hown2⟩
set_option maxRecDepth 20000 in
set_option maxHeartbeats 1000000 in
theorem sameB (va vb : Value) (xs ys : List UInt8) (w : World) (ha : HoldsB w va xs) (hb : HoldsB w vb ys) (la : xs.length ≤ 1000000000000000) (lb : ys.length ≤ 1000000000000000) :
    Calls Tryz.prog 69 #[va, vb] w fun e w' => e = .returned (.bool (decide (xs = ys))) ∧ ∃ n, w' = w.drewN n := by
  obtain ⟨ao, ca, rfl, _, _, hca⟩ := ha
  obtain ⟨bo, cb, rfl, _, _, hcb⟩ := hb
  by_cases hl : xs.length = ys.length
  · by_cases hz : xs.length = 0
    · have e1 : xs = [] := List.eq_nil_of_length_eq_zero hz
      have e2 : ys = [] := List.eq_nil_of_length_eq_zero (by omega)
      subst e1 e2
      clear hca hcb hl hz la lb
      go_enter Tryz.func69, Tryz.ntmps69
      go_wp2
      go_rounds 1
      go_ret
      exact ⟨rfl, 0, rfl⟩
    · obtain ⟨b1, o1, rfl, hlt1, c1⟩ := hca (fun e => hz (by rw [e]; rfl))
      obtain ⟨b2, o2, rfl, hlt2, c2⟩ := hcb (fun e => hz (by rw [hl, e]; rfl))
      have C1 : Hid _ := c1
      have C2 : Hid _ := c2
      obtain ⟨n, hn⟩ : ∃ n, n = xs.length := ⟨_, rfl⟩
      have N1 : Hid (xs.length = n) := hn.symm
      have N2 : Hid (ys.length = n) := by unfold Hid; omega
      have ln : n ≤ 1000000000000000 := by omega
      rw [N1.out, N2.out]
      clear hca hcb c1 c2 hl hz la lb hn
      go_enter Tryz.func69, Tryz.ntmps69
      go_wp2
      go_loopw [5] (fun i wr => ∃ k : Nat, k ≤ n ∧ i = .int .i64 k ∧ Hid (xs.take k = ys.take k) ∧ ∃ m, Hid (wr = w.drewN m)) (fun i _ => n - (intOf i).toNat)
      case atStart => exact ⟨0, by omega, rfl, rfl, 0, rfl⟩
      case round =>
        obtain ⟨k, hk, rfl, hE, m, hw⟩ := hrel
        have hw' := hw.out
        subst hw'
        by_cases hlt : k < n
        · have x1 := C1.out k (by rw [N1.out]; exact hlt)
          have x2 := C2.out k (by rw [N2.out]; exact hlt)
          unfold B at x1 x2
          have G1 : Hid (k < xs.length) := by unfold Hid; rw [N1.out]; exact hlt
          have G2 : Hid (k < ys.length) := by unfold Hid; rw [N2.out]; exact hlt
          by_cases he : xs[k]'G1.out = ys[k]'G2.out
          · have E : Hid (xs.take (k + 1) = ys.take (k + 1)) := by
              unfold Hid; rw [List.take_succ_eq_append_getElem G1.out, List.take_succ_eq_append_getElem G2.out, hE.out, he]
            rw [he] at x1
            generalize (ys[k]'G2.out).toNat = y at x1 x2
            clear he
            go_wp2
            go_quiet (fail)
            go_wp2
            go_roundw
            case rel => exact ⟨k + 1, by omega, by go_num, E, _, rfl⟩
            case measure => simp [intOf]; omega
          · have F : Hid (decide (xs = ys) = false) := by
              unfold Hid; rw [decide_eq_false_iff_not]; intro e; subst e; exact he rfl
            have hne : (((xs[k]'G1.out).toNat : Int) != ((ys[k]'G2.out).toNat : Int)) = true := by
              simp
              intro e
              exact he (UInt8.toNat_inj.1 (by omega))
            have hne2 : ((xs[k]'G1.out).toNat != (ys[k]'G2.out).toNat) = true := by
              simp
              intro e
              exact he (UInt8.toNat_inj.1 e)
            generalize (xs[k]'G1.out).toNat = x at x1 hne hne2
            generalize (ys[k]'G2.out).toNat = y at x2 hne hne2
            clear he
            go_wp2
            go_quiet (fail)
            go_wp2
            go_ret
            rw [F.out]
            exact ⟨rfl, _, World.drewN_drewN _ _ _⟩
        · have F : Hid (decide (xs = ys) = true) := by
            unfold Hid; rw [decide_eq_true_iff]
            have := hE.out
            rwa [List.take_of_length_le (by rw [N1.out]; omega), List.take_of_length_le (by rw [N2.out]; omega)] at this
          go_wp2
          go_ret
          rw [F.out]
          exact ⟨rfl, m, rfl⟩
  · have F : Hid (decide (xs = ys) = false) := by
      unfold Hid; rw [decide_eq_false_iff_not]; intro e; subst e; exact hl rfl
    have hl' : ((xs.length : Int) != (ys.length : Int)) = true := by simp; omega
    clear hca hcb hl
    generalize xs.length = n1 at la hl' ⊢
    generalize ys.length = n2 at lb hl' ⊢
    go_enter Tryz.func69, Tryz.ntmps69
    go_wp2
    go_ret
    rw [F.out]
    exact ⟨rfl, 0, rfl⟩
theorem sameBe (va vb : Value) (xs : List UInt8) (w : World) (ha : HoldsB w va xs) (hb : HoldsB w vb xs) (la : xs.length ≤ 1000000000000000) :
    Calls Tryz.prog 69 #[va, vb] w fun e w' => e = .returned (.bool true) ∧ Below w.heap.size w w' := by
  refine (sameB va vb xs xs w ha hb la la).mono ?_
  rintro e w' ⟨rfl, n, rfl⟩
  exact ⟨by simp, below_drewN _ _⟩
end Go.Proofs.YtijnjgnckipghaaGreat
namespace Go.Proofs.YtijnjgnckipghaaGreat
open Go.RowKit
set_option maxHeartbeats 400000 in
theorem bcloneC (v : Value) (bs : List UInt8) (w : World) (hv : HoldsB w v bs) (hl : bs.length ≤ 140737488355328) :
    Calls Tryz.prog 54 #[v] w fun e w' => ∃ u, e = .returned u ∧ Own w u bs w' := by
  have HV := hide' (holdsB_mono hv (below_alloc' w (.cells #[] 5)))
  have q1 : ∀ (w : World) (a : Option Addr) (n c n' c' : Nat), (binOp .eql 67 (.slice a n c) (.slice none n' c')).run Tryz.prog w = .ok (.bool a.isNone) w := fun w a n c n' c' => Lib.run_eql_slice_nil w _ _ a n c n' c' Tryz.underlying67
  obtain ⟨ao, cap, rfl, h0, hcp, hc⟩ := hv
  cases ao with
  | none =>
    have hb : bs = [] := by
      apply Classical.byContradiction
      intro h
      obtain ⟨b, off, e, _⟩ := hc h
      cases e
    subst hb
    clear HV hc
    go_enter Tryz.func54, Tryz.ntmps54
    go_wp2_with fail
    go_ret
    exact ⟨.slice none 0 0, rfl, own_nil _ _ (Below.refl _ _)⟩
  | some ad =>
    clear hc h0
    go_enter Tryz.func54, Tryz.ntmps54
    go_wp2_with (at_builtin; refine appAllB rfl (.tmp 5) (.tmp 6) rfl w _ [] rfl (own_empty w) _ bs rfl HV.out (by simpa using hl) ?_; intro v2 w2 hown2)
    go_ret
    exact ⟨v2, rfl, hown2⟩
end Go.Proofs.YtijnjgnckipghaaGreat
