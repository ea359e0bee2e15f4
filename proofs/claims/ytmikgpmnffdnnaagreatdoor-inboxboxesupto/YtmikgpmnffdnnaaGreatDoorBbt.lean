/- Below a block everything is as it was, but for one block (a box that is written). -/
import Derived.Test.YtmikgpmnffdnnaaGreatDoorCel
import Derived.Test.YtmikgpmnffdnnaaGreatDoorBc
namespace Go.Proofs.YtmikgpmnffdnnaaGreatDoor
open Go.RowKit
structure BelowBut (g B : Nat) (w w' : World) : Prop where
  os : w'.os = w.os
  tape : w'.tape = w.tape
  output : w'.output = w.output
  size : w.heap.size ≤ w'.heap.size
  block : ∀ k, k < B → k ≠ g → w'.heap[k]? = w.heap[k]?
theorem BelowBut.refl (g B : Nat) (w : World) : BelowBut g B w w := ⟨rfl, rfl, rfl, Nat.le_refl _, fun _ _ _ => rfl⟩
theorem BelowBut.trans {g B : Nat} {a b c : World} (h : BelowBut g B a b) (k : BelowBut g B b c) : BelowBut g B a c :=
  ⟨k.os.trans h.os, k.tape.trans h.tape, k.output.trans h.output, Nat.le_trans h.size k.size, fun i hi hn => (k.block i hi hn).trans (h.block i hi hn)⟩
theorem BelowBut.mono {g B B' : Nat} {w w' : World} (h : BelowBut g B w w') (hB : B' ≤ B) : BelowBut g B' w w' := ⟨h.os, h.tape, h.output, h.size, fun k hk => h.block k (Nat.lt_of_lt_of_le hk hB)⟩
theorem but_of {g B : Nat} {w w' : World} (h : Below B w w') : BelowBut g B w w' := ⟨h.os, h.tape, h.output, h.size, fun k hk _ => h.block k hk⟩
theorem BelowBut.below {g B C : Nat} {w w' : World} (h : BelowBut g B w w') (hC : C ≤ B) (hg : C ≤ g) : Below C w w' := ⟨h.os, h.tape, h.output, h.size, fun k hk => h.block k (by omega) (by omega)⟩
theorem BelowBut.poke {g B : Nat} {a w : World} (h : BelowBut g B a w) (o : Nat) (u : Value) : BelowBut g B a (w.setCell ⟨g, o, none⟩ u) :=
  h.trans ⟨rfl, rfl, rfl, by simp [World.setCell], fun k _ hn => Below.heap_setCell _ _ _ _ hn⟩
theorem BelowBut.put {g B : Nat} {a : World} : ∀ (vs : List Value) (o : Nat) (w : World), BelowBut g B a w → BelowBut g B a (putFrom g o w vs) := by
  intro vs
  induction vs with
  | nil => intro o w h; exact h
  | cons v r ih => intro o w h; exact ih (o + 1) _ (h.poke o v)
/-- an own row that stands apart from the block that is written -/
theorem holdsB_but {g B : Nat} {w1 w w' : World} {v : Value} {bs : List UInt8} (h : Own w1 v bs w) (hg : g < w1.heap.size) (hB : w.heap.size ≤ B) (hb : BelowBut g B w w') : HoldsB w' v bs := by
  have h2 := holdsB_own h
  obtain ⟨hl, h1 | ⟨k, cap, cur, hv, hk, hh, hr⟩⟩ := h.1
  · obtain ⟨rfl, hn⟩ := h1
    obtain rfl : bs = [] := List.eq_nil_of_length_eq_zero hn
    exact ⟨none, 0, rfl, fun _ => rfl, Nat.le_refl _, fun h => absurd rfl h⟩
  · obtain ⟨ao, cap', e, h0, hcp, hc⟩ := h2
    subst hv
    cases e
    refine ⟨some ⟨k, 0, none⟩, cap, rfl, h0, hcp, fun hne => ?_⟩
    obtain ⟨b, off, e1, hlt, hcell⟩ := hc hne
    cases e1
    have hs := hb.size
    exact ⟨k, 0, rfl, by omega, fun j hj => by rw [World.cell?_of_block (w := w) (a := ⟨k, 0 + j, none⟩) (hb.block k (by omega) (by omega))]; exact hcell j hj⟩
end Go.Proofs.YtmikgpmnffdnnaaGreatDoor
