/- A slice whose elements are these bytes. A whole list of bytes appended; the contracts of CopyBytes and SameBytes. Worlds that are alike but for some blocks. What a call that writes into rows of its caller's leaves as it was: the contract of Marked. Rows of fields that no later call need lie behind: what a call that writes into other rows leaves. -/
import Derived.Test.YtikokjclhpgocabDoorOwnB
import Derived.Test.YtikokjclhpgocabDoorBk
import Derived.Laws.AppendOwnNone
import Derived.WideShapes
import Derived.Maps.AppendAt
import Derived.Test.YtikokjclhpgocabDoorBm
namespace Go.Proofs.YtikokjclhpgocabDoor
open Go.RowKit
/-- v is a slice whose elements are the bytes bs -/
def HoldsB (w : World) (v : Value) (bs : List UInt8) : Prop :=
  ∃ ao cap, v = .slice ao bs.length cap ∧ (ao = none → cap = 0) ∧ bs.length ≤ cap ∧ (bs ≠ [] → ∃ b off, ao = some ⟨b, off, none⟩ ∧ b < w.heap.size ∧ ∀ j (h : j < bs.length), w.cell? ⟨b, off + j, none⟩ = some (B bs[j]))
theorem holdsB_own {w0 w : World} {v : Value} {bs : List UInt8} (h : Own w0 v bs w) : HoldsB w v bs := by
  obtain ⟨hl, h1 | ⟨g, cap, cur, rfl, hg, hh, hr⟩⟩ := h.1
  · obtain ⟨rfl, hn⟩ := h1
    obtain rfl : bs = [] := List.eq_nil_of_length_eq_zero hn
    exact ⟨none, 0, rfl, fun _ => rfl, Nat.le_refl _, fun h => absurd rfl h⟩
  · refine ⟨_, cap, rfl, fun e => (by cases e), hr.1, fun _ => ⟨g, 0, rfl, (h.1.lt g rfl).2, fun j hj => ?_⟩⟩
    rw [Nat.zero_add, h.1.cellAt j (by omega)]
    simp [hj]
theorem holdsB_mono {w w' : World} {v : Value} {bs : List UInt8} (h : HoldsB w v bs) (hb : Below w.heap.size w w') : HoldsB w' v bs := by
  obtain ⟨ao, cap, rfl, h0, hcp, hc⟩ := h
  refine ⟨ao, cap, rfl, h0, hcp, fun hne => ?_⟩
  obtain ⟨b, off, rfl, hlt, hcell⟩ := hc hne
  have := hb.size
  exact ⟨b, off, rfl, by omega, fun j hj => by rw [hb.cell (p := ⟨b, off + j, none⟩) hlt]; exact hcell j hj⟩
theorem holdsB_pre {w : World} {ao : Option Addr} {cap : Nat} {bs : List UInt8} (h : HoldsB w (.slice ao bs.length cap) bs) (i : Nat) (hi : i ≤ bs.length) : HoldsB w (.slice ao i cap) (bs.take i) := by
  obtain ⟨ao', cap', e, h0, hcp, hc⟩ := h
  simp only [Value.slice.injEq] at e
  obtain ⟨rfl, _, rfl⟩ := e
  have hl : (bs.take i).length = i := by rw [List.length_take]; omega
  refine ⟨ao, cap, by rw [hl], h0, by omega, fun hne => ?_⟩
  obtain ⟨b, off, rfl, hlt, hcell⟩ := hc (fun e => hne (by rw [e]; simp))
  exact ⟨b, off, rfl, hlt, fun j hj => by rw [hcell j (by omega)]; simp⟩
theorem holdsB_parts {w : World} {v : Value} {bs : List UInt8} (h : HoldsB w v bs) : ∃ (ao : Option Addr) (cap : Nat), v = .slice ao bs.length cap ∧ bs.length ≤ cap := by
  obtain ⟨ao, cap, e, _, hc, _⟩ := h
  exact ⟨ao, cap, e, hc⟩
end Go.Proofs.YtikokjclhpgocabDoor
namespace Go.Proofs.YtikokjclhpgocabDoor
open Go.RowKit
/-- a whole list of bytes appended -/
theorem appAllB {ops : Array Oper} {rest : List Oper} {o : Oper} {a : Act} {Q : Exit → Act → World → Prop} {wr : World} (hgd : o.guard = none) (s z : Operand)
    (ho : o.op = .call { callee := .builtin .append, args := #[s, z], argTypes := #[65, 65] }) (w0 : World) (v : Value) (ps : List UInt8) (hs : a.eval s = v) (hown : Own w0 v ps wr)
    (u : Value) (qs : List UInt8) (hz : a.eval z = u) (hu : HoldsB wr u qs) (hlen : ps.length + qs.length ≤ 140737488355328)
    (h : ∀ v' w', Own w0 v' (ps ++ qs) w' → wpList Tryd.prog ops Q rest (a.put o.dst v') w') : wpList Tryd.prog ops Q (o :: rest) a wr := by
  obtain ⟨i0, hi, hz0, hz1, hz2⟩ := info_parts Tryd.info5
  have hsz := hown.2.size
  obtain ⟨ao, cap, rfl, h0, hcp, hc⟩ := hu
  have key : ∀ (ad : Addr), ao = some ad → (∀ j x, (qs.map B)[j]? = some x → wr.cell? (ad.add j) = some x) → wpList Tryd.prog ops Q (o :: rest) a wr := by
    intro ad e hnews
    subst e
    refine wpList_append_own _ hgd s z 65 ho w0.heap.size 5 i0 (.int .u8 0) 1 1 Tryd.underlying65 hi hz0 hz1 hz2 rfl (by decide) v ps.length (ps.map B) hs hown.1 ad qs.length cap (qs.map B) hz (by simp) hnews ?_ (by unfold maxLen; omega) (by omega) hsz ?_
    · intro u hu; obtain ⟨x, _, rfl⟩ := List.mem_map.1 hu; rfl
    · intro v' w' h1 h2 _
      refine h v' w' ⟨by rw [List.map_append, List.length_append]; exact h1, ?_⟩
      refine Below.grown hown.2 h2 (by omega) ?_
      intro k hk
      exact (hown.1.lt k hk).1
  by_cases hq : qs = []
  · subst hq
    cases ao with
    | none =>
      obtain rfl := h0 rfl
      refine wpList_append_own_none hgd s z 65 ho w0.heap.size 5 i0 1 Tryd.underlying65 hi v ps.length (ps.map B) hs hown.1 hz ?_
      exact h v wr (by rw [List.append_nil]; exact hown)
    | some ad => exact key ad rfl (fun j x hj => by simp at hj)
  · obtain ⟨b, off, rfl, hlt, hcell⟩ := hc hq
    refine key ⟨b, off, none⟩ rfl (fun j x hj => ?_)
    have e : (⟨b, off, none⟩ : Addr).add j = ⟨b, off + j, none⟩ := Go.WideShapes.add_plain _ _ _
    rw [e]
    obtain ⟨hj1, hj2⟩ := List.getElem?_eq_some_iff.1 hj
    rw [List.length_map] at hj1
    rw [hcell j hj1, ← hj2]
    simp
theorem own_mono {w0 w w' : World} {v : Value} {ps : List UInt8} (h : Own w0 v ps w) (hb : Below w.heap.size w w') : Own w0 v ps w' := by
  have hz := h.2.size
  refine ⟨?_, h.2.trans (hb.mono hz)⟩
  obtain ⟨hl, h1 | ⟨g, cap, cur, rfl, hg, hh, hr⟩⟩ := h.1
  · exact ⟨hl, .inl h1⟩
  · have hlt : g < w.heap.size := by
      rcases Nat.lt_or_ge g w.heap.size with h | h
      · exact h
      · rw [Array.getElem?_eq_none (by omega)] at hh; cases hh
    exact ⟨hl, .inr ⟨g, cap, cur, rfl, hg, by rw [hb.block g hlt]; exact hh, hr⟩⟩
theorem own_base {w w1 w2 : World} {v : Value} {ps : List UInt8} (h : Own w1 v ps w2) (hb : Below w.heap.size w w1) : Own w v ps w2 := by
  have hz := hb.size
  refine ⟨?_, hb.trans (h.2.mono hz)⟩
  obtain ⟨hl, h1 | ⟨g, cap, cur, hv, hg, hr⟩⟩ := h.1
  · exact ⟨hl, .inl h1⟩
  · exact ⟨hl, .inr ⟨g, cap, cur, hv, by omega, hr⟩⟩
end Go.Proofs.YtikokjclhpgocabDoor
namespace Go.Proofs.YtikokjclhpgocabDoor
open Go.RowKit
/-- but for the blocks of S and new blocks, b is as a was -/
def Far (S : Nat → Prop) (a b : World) : Prop := b.os = a.os ∧ b.tape = a.tape ∧ b.output = a.output ∧ a.heap.size ≤ b.heap.size ∧ ∀ k, k < a.heap.size → ¬ S k → b.heap[k]? = a.heap[k]?
theorem far_refl (S : Nat → Prop) (a : World) : Far S a a := ⟨rfl, rfl, rfl, Nat.le_refl _, fun _ _ _ => rfl⟩
theorem far_trans {S T : Nat → Prop} {a b c : World} (h : Far S a b) (g : Far T b c) (hs : ∀ k, k < a.heap.size → T k → S k) : Far S a c := by
  obtain ⟨h1, h2, h3, h4, h5⟩ := h
  obtain ⟨g1, g2, g3, g4, g5⟩ := g
  exact ⟨g1.trans h1, g2.trans h2, g3.trans h3, by omega, fun k hk hn => by rw [g5 k (by omega) (fun e => hn (hs k hk e)), h5 k hk hn]⟩
theorem far_grown {a b : World} {r : Option Nat} (h : a.grownBy b r) : Far (fun k => r = some k) a b :=
  ⟨h.os, h.tape, h.output, h.size, fun k hk hn => h.block k hk (fun e => hn e.symm)⟩
theorem far_alloc (a : World) (o : Obj) : Far (fun _ => False) a (a.alloc o) := by
  have h := below_alloc' a o
  exact ⟨h.os, h.tape, h.output, h.size, fun k hk _ => h.block k hk⟩
theorem far_of_below {a b : World} (h : Below a.heap.size a b) : Far (fun _ => False) a b := ⟨h.os, h.tape, h.output, h.size, fun k hk _ => h.block k hk⟩
theorem below_far {S : Nat → Prop} {a b : World} (h : Far S a b) (B : Nat) (hB : B ≤ a.heap.size) (hS : ∀ k, S k → B ≤ k) : Below B a b := by
  obtain ⟨h1, h2, h3, h4, h5⟩ := h
  exact ⟨h1, h2, h3, h4, fun k hk => h5 k (by omega) (fun e => by have := hS k e; omega)⟩
end Go.Proofs.YtikokjclhpgocabDoor
namespace Go.Proofs.YtikokjclhpgocabDoor
open Go.RowKit
/-- v is a row of n fields that can be written -/
def RowF (base : Nat) (v : Value) (n : Nat) (w : World) : Prop := ∃ xs, w.ownsRow base 35 2 v n xs
theorem rowF_own {w0 w : World} {v : Value} {ps : FL} (h : OwnF w0 v ps w) : RowF w0.heap.size v ps.length w := ⟨_, h.1⟩
theorem rowF_form {base n : Nat} {v : Value} {w : World} (h : RowF base v n w) : ∃ ao cap, v = .slice ao n cap ∧ (0 < n → ∃ g, ao = some ⟨g, 0, none⟩) := by
  obtain ⟨xs, _, ⟨rfl, rfl⟩ | ⟨g, cap, cur, rfl, _⟩⟩ := h
  · exact ⟨none, 0, rfl, fun h => absurd h (by decide)⟩
  · exact ⟨some ⟨g, 0, none⟩, cap, rfl, fun _ => ⟨g, rfl⟩⟩
theorem rowF_cell {base g n cap j : Nat} {w : World} (h : RowF base (.slice (some ⟨g, 0, none⟩) n cap) n w) (hj : j < n * 2) : (∃ v, w.cell? ⟨g, j, none⟩ = some v) ∧ w.frozen? ⟨g, j, none⟩ = false := by
  obtain ⟨xs, h⟩ := h
  have h1 := h.cellAt j hj
  have h2 : xs.length = n * 2 := h.1
  exact ⟨⟨xs[j]'(by omega), by rw [h1, List.getElem?_eq_getElem (by omega)]⟩, h.frozenAt j⟩
theorem rowF_store {base g n cap : Nat} {w : World} (h : RowF base (.slice (some ⟨g, 0, none⟩) n cap) n w) (j : Nat) (v : Value) : RowF base (.slice (some ⟨g, 0, none⟩) n cap) n (w.setCell ⟨g, j, none⟩ v) ∧ Far (fun k => k = g) w (w.setCell ⟨g, j, none⟩ v) := by
  obtain ⟨xs, h⟩ := h
  refine ⟨⟨_, (h.stored j v).1⟩, ?_⟩
  have f := far_grown (h.stored j v).2
  exact ⟨f.1, f.2.1, f.2.2.1, f.2.2.2.1, fun k hk hn => f.2.2.2.2 k hk (fun e => hn (by simpa using e.symm))⟩
/-- one field appended to a row, whatever it holds -/
theorem appRow {ops : Array Oper} {rest : List Oper} {o : Oper} {a : Act} {Q : Exit → Act → World → Prop} {wr : World} {x y : ByteArray} {H : Nat} (hgd : o.guard = none) (s z : Operand)
    (ho : o.op = .call { callee := .builtin .append, args := #[s, z], argTypes := #[22, 22] }) (base : Nat) (v : Value) (n : Nat) (hs : a.eval s = v) (hown : RowF base v n wr) (hbase : base ≤ wr.heap.size)
    (hz : a.eval z = .slice (some ⟨H, 0, none⟩) 1 1) (hH : wr.heap.size = H) (hlen : (n + 1) * 32 ≤ 140737488355328)
    (h : ∀ v' w', RowF base v' (n + 1) w' → Far (fun k => v.ownBlock = some k) wr w' → (∀ k, v'.ownBlock = some k → v.ownBlock = some k ∨ wr.heap.size ≤ k) → wpList Tryd.prog ops Q rest (a.put o.dst v') w') : wpList Tryd.prog ops Q (o :: rest) a (wr.alloc (.cells #[.string x, .string y] 35)) := by
  subst hH
  obtain ⟨xs, hown⟩ := hown
  obtain ⟨i0, hi, hz0, hz1, hz2⟩ := info_parts Tryd.info35
  refine wpList_append_own_at _ hgd s z 22 ho base 35 i0 (.agg #[.string ⟨#[]⟩, .string ⟨#[]⟩]) 2 32 Tryd.underlying22 hi hz0 hz1 hz2 rfl (by decide) v n xs hs (hown.alloc _) ⟨wr.heap.size, 0, none⟩ 1 1 [.string x, .string y] hz rfl ?_ ?_ ?_ ?_ ?_ ?_
  · intro j u hj
    match j, hj with
    | 0, hj => simp at hj; subst hj; simp [Addr.add]
    | 1, hj => simp at hj; subst hj; simp [Addr.add]
  · intro u hu; simp at hu; rcases hu with rfl | rfl <;> rfl
  · unfold maxLen; omega
  · omega
  · simp; omega
  · intro v' w' h1 h2 _ h4
    refine h v' w' ⟨_, h1⟩ ?_ ?_
    · have f := far_trans (S := fun k => v.ownBlock = some k) (T := fun k => v.ownBlock = some k) (a := wr) (b := wr.alloc (.cells #[.string x, .string y] 35)) (c := w') ?_ (far_grown h2) (fun _ _ e => e)
      · exact f
      · have g := far_alloc wr (.cells #[.string x, .string y] 35)
        exact ⟨g.1, g.2.1, g.2.2.1, g.2.2.2.1, fun k hk _ => g.2.2.2.2 k hk (fun e => e)⟩
    · intro k hk
      rcases h4 with h4 | h4
      · left; rw [← h4]; exact hk
      · right
        rw [h4] at hk
        simp only [Option.some.injEq] at hk
        have : (wr.alloc (.cells #[.string x, .string y] 35)).heap.size = wr.heap.size + 1 := by simp
        omega
set_option maxRecDepth 20000 in
set_option maxHeartbeats 2000000 in
theorem markedC (v : Value) (n base : Nat) (w : World) (hr : RowF base v n w) (hb : base ≤ w.heap.size) (hl : n ≤ 4000000) :
    Calls Tryd.prog 11 #[v] w fun e w' => e = .returned (.bool true) ∧ Far (fun k => v.ownBlock = some k) w w' := by
  obtain ⟨ao, cap, rfl, hao⟩ := rowF_form hr
  have R0 := hide' hr
  clear hr
  go_enter Tryd.func11, Tryd.ntmps11
  go_wp2_with fail
  go_loopw [3] (fun i wr => ∃ k : Nat, k ≤ n ∧ i = .int .i64 k ∧ Hid (RowF base (.slice ao n cap) n wr) ∧ Hid (Far (fun k => (Value.slice ao n cap).ownBlock = some k) w wr)) (fun i _ => n - (intOf i).toNat)
  case atStart => exact ⟨0, by omega, rfl, R0, far_refl _ _⟩
  case round =>
    obtain ⟨k, hk, rfl, R, F⟩ := hrel
    by_cases hlt : k < n
    · obtain ⟨g, rfl⟩ := hao (by omega)
      obtain ⟨⟨v0, ck⟩, fk⟩ := rowF_cell R.out (j := k * 2) (by omega)
      obtain ⟨s1, s2⟩ := rowF_store R.out (k * 2) (.string ⟨#[109, 97, 114, 107]⟩)
      have S1 := hide' s1
      have S2 := hide' (far_trans F.out s2 (fun j _ e => by rw [e]; rfl))
      clear s1 s2
      go_wp2_with fail
      go_roundw
      case rel => exact ⟨k + 1, by omega, by go_num, S1, S2⟩
      case measure => simp [intOf]; omega
    · go_wp2_with fail
      clear hlt hk R0 hao
      go_loopw [0, 4] (fun s i wr => ∃ (k : Nat) (u : Value), u = s ∧ k ≤ 9 ∧ i = .int .i64 k ∧ Hid (RowF base u (n + k) wr) ∧ Hid (Far (fun k => (Value.slice ao n cap).ownBlock = some k) w wr) ∧ Hid (∀ j, u.ownBlock = some j → (Value.slice ao n cap).ownBlock = some j ∨ w.heap.size ≤ j)) (fun _ i _ => 9 - (intOf i).toNat)
      case atStart => exact ⟨0, _, rfl, by omega, rfl, R, F, fun j e => Or.inl e⟩
      case round =>
        clear R F
        obtain ⟨k, u, rfl, hk, rfl, R, F, O⟩ := hrel
        by_cases hlt : k < 9
        · have hbw : Hid (base ≤ wr.heap.size) := by have := F.out.2.2.2.1; unfold Hid; omega
          go_wp2_with (at_builtin; refine appRow rfl (.tmp 19) (.tmp 21) rfl base _ (n + k) rfl R.out hbw.out rfl rfl (by omega) ?_; intro v2 w2 r2 f2 o2)
          have F2 := hide' (far_trans F.out f2 (fun j hj e => (O.out j e).elim id (fun h => absurd hj (Nat.not_lt.2 h))))
          have O2 : Hid (∀ j, v2.ownBlock = some j → (Value.slice ao n cap).ownBlock = some j ∨ w.heap.size ≤ j) := fun j e => by
            rcases o2 j e with h | h
            · exact O.out j h
            · right; have := F.out.2.2.2.1; omega
          have R2 := hide' r2
          clear r2 f2 o2
          go_roundw
          case rel => exact ⟨k + 1, _, rfl, by omega, by go_num, R2, F2, O2⟩
          case measure => simp [intOf]; omega
        · obtain rfl : k = 9 := by omega
          obtain ⟨ao2, cap2, rfl, _⟩ := rowF_form R.out
          go_wp2_with fail
          go_ret
          refine ⟨?_, F.out⟩
          simp
          omega
end Go.Proofs.YtikokjclhpgocabDoor
namespace Go.Proofs.YtikokjclhpgocabDoor
open Go.RowKit
def OwnZ (v : Value) (ps : FL) (w : World) : Prop := w.ownsRow 0 35 2 v ps.length (cellsF ps)
theorem ownZ_of {w0 w : World} {v : Value} {ps : FL} (h : OwnF w0 v ps w) : OwnZ v ps w := by
  obtain ⟨hl, h1 | ⟨g, cap, cur, e, _, hr⟩⟩ := h.1
  · exact ⟨hl, .inl h1⟩
  · exact ⟨hl, .inr ⟨g, cap, cur, e, Nat.zero_le _, hr⟩⟩
theorem ownZ_far {v : Value} {ps : FL} {w w' : World} {S : Nat → Prop} (h : OwnZ v ps w) (hf : Far S w w') (hn : ∀ k, v.ownBlock = some k → ¬ S k) : OwnZ v ps w' := by
  have hlt := World.ownsRow.lt h
  obtain ⟨hl, h1 | ⟨g, cap, cur, rfl, hb, hg, hr⟩⟩ := h
  · exact ⟨hl, .inl h1⟩
  · exact ⟨hl, .inr ⟨g, cap, cur, rfl, hb, by rw [hf.2.2.2.2 g (hlt g rfl).2 (hn g rfl)]; exact hg, hr⟩⟩
theorem ownZ_holds {v : Value} {ps : FL} {w : World} (h : OwnZ v ps w) : HoldsF w v ps := by
  have hb : Below (0 : Nat) { w with heap := #[] } w := ⟨rfl, rfl, rfl, Nat.zero_le _, fun k hk => absurd hk (Nat.not_lt_zero k)⟩
  exact holdsF_own (w0 := { w with heap := #[] }) ⟨h, hb⟩
end Go.Proofs.YtikokjclhpgocabDoor
