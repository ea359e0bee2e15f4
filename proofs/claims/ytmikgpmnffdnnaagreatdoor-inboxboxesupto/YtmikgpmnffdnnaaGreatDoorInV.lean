/- A message: ten values, a block of ten cells. -/
import Derived.Test.YtmikgpmnffdnnaaGreatDoorCel
import Derived.Test.YtmikgpmnffdnnaaGreatDoorInE
namespace Go.Proofs.YtmikgpmnffdnnaaGreatDoor
open Go.RowKit
theorem cells_ten {b : Nat} {W : World} {v0 v1 v2 v3 v4 v5 v6 v7 v8 v9 : Value} (h : Blk b W [v0, v1, v2, v3, v4, v5, v6, v7, v8, v9]) : (W.cell? ⟨b, 0, none⟩ = some v0 ∧ W.cell? ⟨b, 1, none⟩ = some v1 ∧ W.cell? ⟨b, 2, none⟩ = some v2 ∧ W.cell? ⟨b, 3, none⟩ = some v3 ∧ W.cell? ⟨b, 4, none⟩ = some v4 ∧ W.cell? ⟨b, 5, none⟩ = some v5 ∧ W.cell? ⟨b, 6, none⟩ = some v6 ∧ W.cell? ⟨b, 7, none⟩ = some v7 ∧ W.cell? ⟨b, 8, none⟩ = some v8 ∧ W.cell? ⟨b, 9, none⟩ = some v9) ∧ (W.frozen? ⟨b, 0, none⟩ = false ∧ W.frozen? ⟨b, 1, none⟩ = false ∧ W.frozen? ⟨b, 2, none⟩ = false ∧ W.frozen? ⟨b, 3, none⟩ = false ∧ W.frozen? ⟨b, 4, none⟩ = false ∧ W.frozen? ⟨b, 5, none⟩ = false ∧ W.frozen? ⟨b, 6, none⟩ = false ∧ W.frozen? ⟨b, 7, none⟩ = false ∧ W.frozen? ⟨b, 8, none⟩ = false ∧ W.frozen? ⟨b, 9, none⟩ = false) :=
  ⟨⟨(h.1 0 (by simp)).1, (h.1 1 (by simp)).1, (h.1 2 (by simp)).1, (h.1 3 (by simp)).1, (h.1 4 (by simp)).1, (h.1 5 (by simp)).1, (h.1 6 (by simp)).1, (h.1 7 (by simp)).1, (h.1 8 (by simp)).1, (h.1 9 (by simp)).1⟩, ⟨(h.1 0 (by simp)).2, (h.1 1 (by simp)).2, (h.1 2 (by simp)).2, (h.1 3 (by simp)).2, (h.1 4 (by simp)).2, (h.1 5 (by simp)).2, (h.1 6 (by simp)).2, (h.1 7 (by simp)).2, (h.1 8 (by simp)).2, (h.1 9 (by simp)).2⟩⟩
/-- ten cells put into a block -/
theorem put_ten (b : Nat) (W : World) (v0 v1 v2 v3 v4 v5 v6 v7 v8 v9 : Value) : putFrom b 0 W [v0, v1, v2, v3, v4, v5, v6, v7, v8, v9] = ((((((((((W.setCell ⟨b, 0, none⟩ v0).setCell ⟨b, 1, none⟩ v1).setCell ⟨b, 2, none⟩ v2).setCell ⟨b, 3, none⟩ v3).setCell ⟨b, 4, none⟩ v4).setCell ⟨b, 5, none⟩ v5).setCell ⟨b, 6, none⟩ v6).setCell ⟨b, 7, none⟩ v7).setCell ⟨b, 8, none⟩ v8).setCell ⟨b, 9, none⟩ v9) := rfl
/-- the zero message -/
def mzV : Value := .agg #[.string ⟨#[]⟩, .string ⟨#[]⟩, .int .i64 0, .slice none 0 0, .int .i64 0, .string ⟨#[]⟩, .int .i64 0, .slice none 0 0, .slice none 0 0, .slice none 0 0]
/-- a call's three answers -/
def tellV (m : Value) (n : Nat) (e : Int) : Value := .tuple #[m, .int .i64 (n : Int), .int .i64 e]
/-- what is told of a head's values and of what stands behind it -/
def AnsB (w : World) (a0 a1 a2 a3 a4 a5 a6 a7 : Value) (X : List UInt8 × FL × Nat × Int) (e : Ending) (w' : World) : Prop :=
  Below w.heap.size w w' ∧ (((X.2.2.2 ≠ 0 ∨ X.2.2.1 = 0) ∧ e = .returned (tellV mzV 0 X.2.2.2)) ∨
    (X.2.2.2 = 0 ∧ 0 < X.2.2.1 ∧ ∃ bv tv, e = .returned (tellV (.agg #[a0, a1, a2, a3, a4, a5, a6, a7, bv, tv]) X.2.2.1 0) ∧ Own w bv X.1 w' ∧ OwnF w tv X.2.1 w'))
end Go.Proofs.YtmikgpmnffdnnaaGreatDoor
