/- Rows told apart by their blocks, and what a call leaves that writes into some of them. -/
import Derived.Test.YtbbaajlabpjnlabGreatDoorFdAq
import Derived.Test.YtbbaajlabpjnlabGreatDoorBd
namespace Go.Proofs.YtbbaajlabpjnlabGreatDoor
open Go.RowKit
def OwnZ (v : Value) (ps : FL) (w : World) : Prop := w.ownsRow 0 59 2 v ps.length (cellsF ps)
theorem ownZ_of {w0 w : World} {v : Value} {ps : FL} (h : OwnF w0 v ps w) : OwnZ v ps w := by
  obtain ⟨hl, h1 | ⟨g, cap, cur, e, _, hr⟩⟩ := h.1
  · exact ⟨hl, .inl h1⟩
  · exact ⟨hl, .inr ⟨g, cap, cur, e, Nat.zero_le _, hr⟩⟩
theorem rowB_of {w0 w : World} {v : Value} {ps : List UInt8} (h : Own w0 v ps w) : RowB v ps.length (ps.map B) w := by
  obtain ⟨hl, h1 | ⟨g, cap, cur, e, _, hr⟩⟩ := h.1
  · exact ⟨hl, .inl h1⟩
  · exact ⟨hl, .inr ⟨g, cap, cur, e, Nat.zero_le _, hr⟩⟩
theorem ownZ_far {v : Value} {ps : FL} {w w' : World} {S : Nat → Prop} (h : OwnZ v ps w) (hf : Far S w w') (hn : ∀ k, v.ownBlock = some k → ¬ S k) : OwnZ v ps w' := by
  have hlt := World.ownsRow.lt h
  obtain ⟨hl, h1 | ⟨g, cap, cur, rfl, hb, hg, hr⟩⟩ := h
  · exact ⟨hl, .inl h1⟩
  · exact ⟨hl, .inr ⟨g, cap, cur, rfl, hb, by rw [hf.2.2.2.2 g (hlt g rfl).2 (hn g rfl)]; exact hg, hr⟩⟩
theorem ownZ_holds {v : Value} {ps : FL} {w : World} (h : OwnZ v ps w) : HoldsF w v ps := by
  have hb : Below (0 : Nat) { w with heap := #[] } w := ⟨rfl, rfl, rfl, Nat.zero_le _, fun k hk => absurd hk (Nat.not_lt_zero k)⟩
  exact holdsF_own (w0 := { w with heap := #[] }) ⟨h, hb⟩
theorem apart2 (w : World) (p q : Value) (n : Nat) (ys zs : List Value) (hp : RowB p n ys w) (hq : RowB q n zs w) (hd : ∀ k, p.ownBlock = some k → q.ownBlock ≠ some k) (hn : n ≤ 100000000) :
    Calls Tryz.prog 12 #[.slice (some ⟨w.heap.size, 0, none⟩) 2 2] (w.alloc (.cells #[p, q] 22)) fun e w' => e = .returned (.bool true) ∧ Far (fun k => p.ownBlock = some k ∨ q.ownBlock = some k) w w' := by
  have fa := far_alloc w (.cells #[p, q] 22)
  have c := apartC w.heap.size (fun i => if i = 0 then p else q) (fun _ => n) (w.alloc (.cells #[p, q] 22)) ?_ ?_ ?_ ?_ (fun _ _ => hn)
  · refine c.mono ?_
    rintro e w' ⟨rfl, hf⟩
    refine ⟨rfl, far_trans (T := Sp (fun i => if i = 0 then p else q)) ⟨fa.1, fa.2.1, fa.2.2.1, fa.2.2.2.1, fun k hk _ => fa.2.2.2.2 k hk (fun e => e)⟩ hf ?_⟩
    rintro k _ ⟨i, hi, e⟩
    dsimp only at e
    by_cases h0 : i = 0
    · rw [if_pos h0] at e; exact Or.inl e
    · rw [if_neg h0] at e; exact Or.inr e
  · intro i hi
    match i, hi with
    | 0, _ => simp
    | 1, _ => simp
  · intro i hi
    match i, hi with
    | 0, _ => intro e; have := (World.ownsRow.lt hp _ e).2; omega
    | 1, _ => intro e; have := (World.ownsRow.lt hq _ e).2; omega
  · intro i hi
    match i, hi with
    | 0, _ => exact ⟨ys, rowB_far hp fa (fun _ _ e => e)⟩
    | 1, _ => exact ⟨zs, rowB_far hq fa (fun _ _ e => e)⟩
  · intro i j k hi hj e1 e2
    match i, j, hi, hj with
    | 0, 0, _, _ => rfl
    | 1, 1, _, _ => rfl
    | 0, 1, _, _ => exact absurd e2 (hd k e1)
    | 1, 0, _, _ => exact absurd e1 (hd k e2)
theorem quad_far {b : Nat} {W W' : World} {S : Nat → Prop} {v0 v1 v2 v3 : Value} (h : Quad b W v0 v1 v2 v3) (hf : Far S W W') (hn : ¬ S b) : Quad b W' v0 v1 v2 v3 := by
  obtain ⟨h0, h1, h2, h3, f0, f1, f2, f3, hz⟩ := h
  have e := hf.2.2.2.2 b hz hn
  have c : ∀ o, W'.cell? ⟨b, o, none⟩ = W.cell? ⟨b, o, none⟩ := fun o => World.cell?_of_block (a := ⟨b, o, none⟩) e
  have f : ∀ o, W'.frozen? ⟨b, o, none⟩ = W.frozen? ⟨b, o, none⟩ := fun o => World.frozen?_of_block (a := ⟨b, o, none⟩) e
  exact ⟨by rw [c]; exact h0, by rw [c]; exact h1, by rw [c]; exact h2, by rw [c]; exact h3, by rw [f]; exact f0, by rw [f]; exact f1, by rw [f]; exact f2, by rw [f]; exact f3, Nat.lt_of_lt_of_le hz hf.2.2.2.1⟩
end Go.Proofs.YtbbaajlabpjnlabGreatDoor
