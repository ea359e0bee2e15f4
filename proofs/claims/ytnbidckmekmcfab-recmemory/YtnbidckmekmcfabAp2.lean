/- Apart of two rows told apart by their blocks. -/
import Derived.Test.YtnbidckmekmcfabFdAq
namespace Go.Proofs.Ytnbidckmekmcfab
open Go.RowKit
theorem rowB_ofA {w0 w : World} {v : Value} {ps : List UInt8} (h : Own w0 v ps w) : RowB v ps.length (ps.map B) w := by
  obtain ⟨hl, h1 | ⟨g, cap, cur, e, _, hr⟩⟩ := h.1
  · exact ⟨hl, .inl h1⟩
  · exact ⟨hl, .inr ⟨g, cap, cur, e, Nat.zero_le _, hr⟩⟩
theorem apartT (w : World) (p q : Value) (n : Nat) (ys zs : List Value) (hp : RowB p n ys w) (hq : RowB q n zs w) (hd : ∀ k, p.ownBlock = some k → q.ownBlock ≠ some k) (hn : n ≤ 100000000) :
    Calls Try.prog 8 #[.slice (some ⟨w.heap.size, 0, none⟩) 2 2] (w.alloc (.cells #[p, q] 25)) fun e w' => e = .returned (.bool true) ∧ Far (fun k => p.ownBlock = some k ∨ q.ownBlock = some k) w w' := by
  have fa := far_alloc w (.cells #[p, q] 25)
  have c := apartC w.heap.size (fun i => if i = 0 then p else q) (fun _ => n) (w.alloc (.cells #[p, q] 25)) ?_ ?_ ?_ ?_ (fun _ _ => hn)
  · refine c.mono ?_
    rintro e w' ⟨rfl, hf⟩
    refine ⟨rfl, far_trans (T := Sp (fun i => if i = 0 then p else q)) ⟨fa.1, fa.2.1, fa.2.2.1, fa.2.2.2.1, fun k hk _ => fa.2.2.2.2 k hk (fun e => e)⟩ hf ?_⟩
    rintro k _ ⟨i, hi, e⟩
    dsimp only at e
    by_cases h0 : i = 0
    · rw [if_pos h0] at e; exact Or.inl e
    · rw [if_neg h0] at e; exact Or.inr e
  · intro i hi
    match i, hi with
    | 0, _ => simp
    | 1, _ => simp
  · intro i hi
    match i, hi with
    | 0, _ => intro e; have := (World.ownsRow.lt hp _ e).2; omega
    | 1, _ => intro e; have := (World.ownsRow.lt hq _ e).2; omega
  · intro i hi
    match i, hi with
    | 0, _ => exact ⟨ys, rowB_far hp fa (fun _ _ e => e)⟩
    | 1, _ => exact ⟨zs, rowB_far hq fa (fun _ _ e => e)⟩
  · intro i j k hi hj e1 e2
    match i, j, hi, hj with
    | 0, 0, _, _ => rfl
    | 1, 1, _, _ => rfl
    | 0, 1, _, _ => exact absurd e2 (hd k e1)
    | 1, 0, _, _ => exact absurd e1 (hd k e2)
end Go.Proofs.Ytnbidckmekmcfab
