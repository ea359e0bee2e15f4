/- What a call that writes into rows of its caller's leaves as it was; the contract of Marked. -/
import Derived.Test.YtmikgpmnffdnnaaGreatDoorBc
import Derived.Maps.AppendAt
namespace Go.Proofs.YtmikgpmnffdnnaaGreatDoor
open Go.RowKit
/-- but for the blocks of S and new blocks, b is as a was -/
def Far (S : Nat → Prop) (a b : World) : Prop := b.os = a.os ∧ b.tape = a.tape ∧ b.output = a.output ∧ a.heap.size ≤ b.heap.size ∧ ∀ k, k < a.heap.size → ¬ S k → b.heap[k]? = a.heap[k]?
theorem far_refl (S : Nat → Prop) (a : World) : Far S a a := ⟨rfl, rfl, rfl, Nat.le_refl _, fun _ _ _ => rfl⟩
theorem far_trans {S T : Nat → Prop} {a b c : World} (h : Far S a b) (g : Far T b c) (hs : ∀ k, k < a.heap.size → T k → S k) : Far S a c := by
  obtain ⟨h1, h2, h3, h4, h5⟩ := h
  obtain ⟨g1, g2, g3, g4, g5⟩ := g
  exact ⟨g1.trans h1, g2.trans h2, g3.trans h3, by omega, fun k hk hn => by rw [g5 k (by omega) (fun e => hn (hs k hk e)), h5 k hk hn]⟩
theorem far_grown {a b : World} {r : Option Nat} (h : a.grownBy b r) : Far (fun k => r = some k) a b :=
  ⟨h.os, h.tape, h.output, h.size, fun k hk hn => h.block k hk (fun e => hn e.symm)⟩
theorem far_alloc (a : World) (o : Obj) : Far (fun _ => False) a (a.alloc o) := by
  have h := below_alloc' a o
  exact ⟨h.os, h.tape, h.output, h.size, fun k hk _ => h.block k hk⟩
theorem far_of_below {a b : World} (h : Below a.heap.size a b) : Far (fun _ => False) a b := ⟨h.os, h.tape, h.output, h.size, fun k hk _ => h.block k hk⟩
theorem below_far {S : Nat → Prop} {a b : World} (h : Far S a b) (B : Nat) (hB : B ≤ a.heap.size) (hS : ∀ k, S k → B ≤ k) : Below B a b := by
  obtain ⟨h1, h2, h3, h4, h5⟩ := h
  exact ⟨h1, h2, h3, h4, fun k hk => h5 k (by omega) (fun e => by have := hS k e; omega)⟩
/-- v is a row of n fields that can be written -/
def RowF (base : Nat) (v : Value) (n : Nat) (w : World) : Prop := ∃ xs, w.ownsRow base 102 2 v n xs
theorem rowF_own {w0 w : World} {v : Value} {ps : FL} (h : OwnF w0 v ps w) : RowF w0.heap.size v ps.length w := ⟨_, h.1⟩
theorem rowF_form {base n : Nat} {v : Value} {w : World} (h : RowF base v n w) : ∃ ao cap, v = .slice ao n cap ∧ (0 < n → ∃ g, ao = some ⟨g, 0, none⟩) := by
  obtain ⟨xs, _, ⟨rfl, rfl⟩ | ⟨g, cap, cur, rfl, _⟩⟩ := h
  · exact ⟨none, 0, rfl, fun h => absurd h (by decide)⟩
  · exact ⟨some ⟨g, 0, none⟩, cap, rfl, fun _ => ⟨g, rfl⟩⟩
theorem rowF_cell {base g n cap j : Nat} {w : World} (h : RowF base (.slice (some ⟨g, 0, none⟩) n cap) n w) (hj : j < n * 2) : (∃ v, w.cell? ⟨g, j, none⟩ = some v) ∧ w.frozen? ⟨g, j, none⟩ = false := by
  obtain ⟨xs, h⟩ := h
  have h1 := h.cellAt j hj
  have h2 : xs.length = n * 2 := h.1
  exact ⟨⟨xs[j]'(by omega), by rw [h1, List.getElem?_eq_getElem (by omega)]⟩, h.frozenAt j⟩
theorem rowF_store {base g n cap : Nat} {w : World} (h : RowF base (.slice (some ⟨g, 0, none⟩) n cap) n w) (j : Nat) (v : Value) : RowF base (.slice (some ⟨g, 0, none⟩) n cap) n (w.setCell ⟨g, j, none⟩ v) ∧ Far (fun k => k = g) w (w.setCell ⟨g, j, none⟩ v) := by
  obtain ⟨xs, h⟩ := h
  refine ⟨⟨_, (h.stored j v).1⟩, ?_⟩
  have f := far_grown (h.stored j v).2
  exact ⟨f.1, f.2.1, f.2.2.1, f.2.2.2.1, fun k hk hn => f.2.2.2.2 k hk (fun e => hn (by simpa using e.symm))⟩
/-- one field appended to a row, whatever it holds -/
theorem appRow {ops : Array Oper} {rest : List Oper} {o : Oper} {a : Act} {Q : Exit → Act → World → Prop} {wr : World} {x y : ByteArray} {H : Nat} (hgd : o.guard = none) (s z : Operand)
    (ho : o.op = .call { callee := .builtin .append, args := #[s, z], argTypes := #[25, 25] }) (base : Nat) (v : Value) (n : Nat) (hs : a.eval s = v) (hown : RowF base v n wr) (hbase : base ≤ wr.heap.size)
    (hz : a.eval z = .slice (some ⟨H, 0, none⟩) 1 1) (hH : wr.heap.size = H) (hlen : (n + 1) * 32 ≤ 140737488355328)
    (h : ∀ v' w', RowF base v' (n + 1) w' → Far (fun k => v.ownBlock = some k) wr w' → (∀ k, v'.ownBlock = some k → v.ownBlock = some k ∨ wr.heap.size ≤ k) → wpList Tryz.prog ops Q rest (a.put o.dst v') w') : wpList Tryz.prog ops Q (o :: rest) a (wr.alloc (.cells #[.string x, .string y] 102)) := by
  subst hH
  obtain ⟨xs, hown⟩ := hown
  obtain ⟨i0, hi, hz0, hz1, hz2⟩ := info_parts Tryz.info102
  refine wpList_append_own_at _ hgd s z 25 ho base 102 i0 (.agg #[.string ⟨#[]⟩, .string ⟨#[]⟩]) 2 32 Tryz.underlying25 hi hz0 hz1 hz2 rfl (by decide) v n xs hs (hown.alloc _) ⟨wr.heap.size, 0, none⟩ 1 1 [.string x, .string y] hz rfl ?_ ?_ ?_ ?_ ?_ ?_
  · intro j u hj
    match j, hj with
    | 0, hj => simp at hj; subst hj; simp [Addr.add]
    | 1, hj => simp at hj; subst hj; simp [Addr.add]
  · intro u hu; simp at hu; rcases hu with rfl | rfl <;> rfl
  · unfold maxLen; omega
  · omega
  · simp; omega
  · intro v' w' h1 h2 _ h4
    refine h v' w' ⟨_, h1⟩ ?_ ?_
    · have f := far_trans (S := fun k => v.ownBlock = some k) (T := fun k => v.ownBlock = some k) (a := wr) (b := wr.alloc (.cells #[.string x, .string y] 102)) (c := w') ?_ (far_grown h2) (fun _ _ e => e)
      · exact f
      · have g := far_alloc wr (.cells #[.string x, .string y] 102)
        exact ⟨g.1, g.2.1, g.2.2.1, g.2.2.2.1, fun k hk _ => g.2.2.2.2 k hk (fun e => e)⟩
    · intro k hk
      rcases h4 with h4 | h4
      · left; rw [← h4]; exact hk
      · right
        rw [h4] at hk
        simp only [Option.some.injEq] at hk
        have : (wr.alloc (.cells #[.string x, .string y] 102)).heap.size = wr.heap.size + 1 := by simp
        omega
end Go.Proofs.YtmikgpmnffdnnaaGreatDoor
