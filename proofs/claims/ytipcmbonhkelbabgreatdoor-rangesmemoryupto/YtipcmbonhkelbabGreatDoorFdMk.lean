/- What a call that writes into rows of its caller's leaves as it was: the contract of Marked. -/
import Derived.Test.YtipcmbonhkelbabGreatDoorFarT
import Derived.Test.YtipcmbonhkelbabGreatDoorBm
import Derived.Maps.AppendAt
namespace Go.Proofs.YtipcmbonhkelbabGreatDoor
open Go.RowKit
/-- v is a row of n fields that can be written -/
def RowF (base : Nat) (v : Value) (n : Nat) (w : World) : Prop := ∃ xs, w.ownsRow base 42 2 v n xs
theorem rowF_own {w0 w : World} {v : Value} {ps : FL} (h : OwnF w0 v ps w) : RowF w0.heap.size v ps.length w := ⟨_, h.1⟩
theorem rowF_form {base n : Nat} {v : Value} {w : World} (h : RowF base v n w) : ∃ ao cap, v = .slice ao n cap ∧ (0 < n → ∃ g, ao = some ⟨g, 0, none⟩) := by
  obtain ⟨xs, _, ⟨rfl, rfl⟩ | ⟨g, cap, cur, rfl, _⟩⟩ := h
  · exact ⟨none, 0, rfl, fun h => absurd h (by decide)⟩
  · exact ⟨some ⟨g, 0, none⟩, cap, rfl, fun _ => ⟨g, rfl⟩⟩
theorem rowF_cell {base g n cap j : Nat} {w : World} (h : RowF base (.slice (some ⟨g, 0, none⟩) n cap) n w) (hj : j < n * 2) : (∃ v, w.cell? ⟨g, j, none⟩ = some v) ∧ w.frozen? ⟨g, j, none⟩ = false := by
  obtain ⟨xs, h⟩ := h
  have h1 := h.cellAt j hj
  have h2 : xs.length = n * 2 := h.1
  exact ⟨⟨xs[j]'(by omega), by rw [h1, List.getElem?_eq_getElem (by omega)]⟩, h.frozenAt j⟩
theorem rowF_store {base g n cap : Nat} {w : World} (h : RowF base (.slice (some ⟨g, 0, none⟩) n cap) n w) (j : Nat) (v : Value) : RowF base (.slice (some ⟨g, 0, none⟩) n cap) n (w.setCell ⟨g, j, none⟩ v) ∧ Far (fun k => k = g) w (w.setCell ⟨g, j, none⟩ v) := by
  obtain ⟨xs, h⟩ := h
  refine ⟨⟨_, (h.stored j v).1⟩, ?_⟩
  have f := far_grown (h.stored j v).2
  exact ⟨f.1, f.2.1, f.2.2.1, f.2.2.2.1, fun k hk hn => f.2.2.2.2 k hk (fun e => hn (by simpa using e.symm))⟩
/-- one field appended to a row, whatever it holds -/
theorem appRow {ops : Array Oper} {rest : List Oper} {o : Oper} {a : Act} {Q : Exit → Act → World → Prop} {wr : World} {x y : ByteArray} {H : Nat} (hgd : o.guard = none) (s z : Operand)
    (ho : o.op = .call { callee := .builtin .append, args := #[s, z], argTypes := #[22, 22] }) (base : Nat) (v : Value) (n : Nat) (hs : a.eval s = v) (hown : RowF base v n wr) (hbase : base ≤ wr.heap.size)
    (hz : a.eval z = .slice (some ⟨H, 0, none⟩) 1 1) (hH : wr.heap.size = H) (hlen : (n + 1) * 32 ≤ 140737488355328)
    (h : ∀ v' w', RowF base v' (n + 1) w' → Far (fun k => v.ownBlock = some k) wr w' → (∀ k, v'.ownBlock = some k → v.ownBlock = some k ∨ wr.heap.size ≤ k) → wpList Tryz.prog ops Q rest (a.put o.dst v') w') : wpList Tryz.prog ops Q (o :: rest) a (wr.alloc (.cells #[.string x, .string y] 42)) := by
  subst hH
  obtain ⟨xs, hown⟩ := hown
  obtain ⟨i0, hi, hz0, hz1, hz2⟩ := info_parts Tryz.info42
  refine wpList_append_own_at _ hgd s z 22 ho base 42 i0 (.agg #[.string ⟨#[]⟩, .string ⟨#[]⟩]) 2 32 Tryz.underlying22 hi hz0 hz1 hz2 rfl (by decide) v n xs hs (hown.alloc _) ⟨wr.heap.size, 0, none⟩ 1 1 [.string x, .string y] hz rfl ?_ ?_ ?_ ?_ ?_ ?_
  · intro j u hj
    match j, hj with
    | 0, hj => simp at hj; subst hj; simp [Addr.add]
    | 1, hj => simp at hj; subst hj; simp [Addr.add]
  · intro u hu; simp at hu; rcases hu with rfl | rfl <;> rfl
  · unfold maxLen; omega
  · omega
  · simp; omega
  · intro v' w' h1 h2 _ h4
    refine h v' w' ⟨_, h1⟩ ?_ ?_
    · have f := far_trans (S := fun k => v.ownBlock = some k) (T := fun k => v.ownBlock = some k) (a := wr) (b := wr.alloc (.cells #[.string x, .string y] 42)) (c := w') ?_ (far_grown h2) (fun _ _ e => e)
      · exact f
      · have g := far_alloc wr (.cells #[.string x, .string y] 42)
        exact ⟨g.1, g.2.1, g.2.2.1, g.2.2.2.1, fun k hk _ => g.2.2.2.2 k hk (fun e => e)⟩
    · intro k hk
      rcases h4 with h4 | h4
      · left; rw [← h4]; exact hk
      · right
        rw [h4] at hk
        simp only [Option.some.injEq] at hk
        have : (wr.alloc (.cells #[.string x, .string y] 42)).heap.size = wr.heap.size + 1 := by simp
        omega
set_option maxRecDepth 20000 in
set_option maxHeartbeats 2000000 in
theorem markedC (v : Value) (n base : Nat) (w : World) (hr : RowF base v n w) (hb : base ≤ w.heap.size) (hl : n ≤ 4000000) :
    Calls Tryz.prog 12 #[v] w fun e w' => e = .returned (.bool true) ∧ Far (fun k => v.ownBlock = some k) w w' := by
  obtain ⟨ao, cap, rfl, hao⟩ := rowF_form hr
  have R0 := hide' hr
  clear hr
  go_enter Tryz.func12, Tryz.ntmps12
  go_wp2_with fail
  go_loopw [3] (fun i wr => ∃ k : Nat, k ≤ n ∧ i = .int .i64 k ∧ Hid (RowF base (.slice ao n cap) n wr) ∧ Hid (Far (fun k => (Value.slice ao n cap).ownBlock = some k) w wr)) (fun i _ => n - (intOf i).toNat)
  case atStart => exact ⟨0, by omega, rfl, R0, far_refl _ _⟩
  case round =>
    obtain ⟨k, hk, rfl, R, F⟩ := hrel
    by_cases hlt : k < n
    · obtain ⟨g, rfl⟩ := hao (by omega)
      obtain ⟨⟨v0, ck⟩, fk⟩ := rowF_cell R.out (j := k * 2) (by omega)
      obtain ⟨s1, s2⟩ := rowF_store R.out (k * 2) (.string ⟨#[109, 97, 114, 107]⟩)
      have S1 := hide' s1
      have S2 := hide' (far_trans F.out s2 (fun j _ e => by rw [e]; rfl))
      clear s1 s2
      go_wp2_with fail
      go_roundw
      case rel => exact ⟨k + 1, by omega, by go_num, S1, S2⟩
      case measure => simp [intOf]; omega
    · go_wp2_with fail
      clear hlt hk R0 hao
      go_loopw [0, 4] (fun s i wr => ∃ (k : Nat) (u : Value), u = s ∧ k ≤ 9 ∧ i = .int .i64 k ∧ Hid (RowF base u (n + k) wr) ∧ Hid (Far (fun k => (Value.slice ao n cap).ownBlock = some k) w wr) ∧ Hid (∀ j, u.ownBlock = some j → (Value.slice ao n cap).ownBlock = some j ∨ w.heap.size ≤ j)) (fun _ i _ => 9 - (intOf i).toNat)
      case atStart => exact ⟨0, _, rfl, by omega, rfl, R, F, fun j e => Or.inl e⟩
      case round =>
        clear R F
        obtain ⟨k, u, rfl, hk, rfl, R, F, O⟩ := hrel
        by_cases hlt : k < 9
        · have hbw : Hid (base ≤ wr.heap.size) := by have := F.out.2.2.2.1; unfold Hid; omega
          go_wp2_with (at_builtin; refine appRow rfl (.tmp 19) (.tmp 21) rfl base _ (n + k) rfl R.out hbw.out rfl rfl (by omega) ?_; intro v2 w2 r2 f2 o2)
          have F2 := hide' (far_trans F.out f2 (fun j hj e => (O.out j e).elim id (fun h => absurd hj (Nat.not_lt.2 h))))
          have O2 : Hid (∀ j, v2.ownBlock = some j → (Value.slice ao n cap).ownBlock = some j ∨ w.heap.size ≤ j) := fun j e => by
            rcases o2 j e with h | h
            · exact O.out j h
            · right; have := F.out.2.2.2.1; omega
          have R2 := hide' r2
          clear r2 f2 o2
          go_roundw
          case rel => exact ⟨k + 1, _, rfl, by omega, by go_num, R2, F2, O2⟩
          case measure => simp [intOf]; omega
        · obtain rfl : k = 9 := by omega
          obtain ⟨ao2, cap2, rfl, _⟩ := rowF_form R.out
          go_wp2_with fail
          go_ret
          refine ⟨?_, F.out⟩
          simp
          omega
end Go.Proofs.YtipcmbonhkelbabGreatDoor
