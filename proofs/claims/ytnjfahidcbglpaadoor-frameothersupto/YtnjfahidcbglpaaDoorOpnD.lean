/- A field that came in by itself: what the reading says of it. -/
import Derived.Test.YtnjfahidcbglpaaDoorOpnR
namespace Go.Proofs.YtnjfahidcbglpaaDoor
open Go.ChangeShapes Go.WideShapes Go.ChangeAt Go.RowKit
set_option maxRecDepth 100000 in
theorem open_fd {H : Type} {enc : TypeId × Value → H} {W : World} {base : Nat} {v : Value} {d : DataW H} {p : List MemPlace} (hok : Value.okWide Tryd.prog W .any base 48 v) (h : DataW.Trod enc Tryd.prog W 0 (fun _ => true) true 48 v d p) :
    ∃ (x y : List UInt8), v = .agg #[.string ⟨x.toArray⟩, .string ⟨y.toArray⟩] ∧ x.length + y.length + 3 ≤ Rows.uptoBulk d := by
  obtain ⟨v0, v1, y0, y1, n, rfl, rfl, _, h0, h1⟩ := Joins.open_agg2 Tryd.underlying48 (by kernel_rfl) (by kernel_rfl) hok h
  obtain ⟨s0, e0, x0, _⟩ := DataW.trod_string Tryd.underlying9 h0
  obtain ⟨s1, e1, x1, _⟩ := DataW.trod_string Tryd.underlying9 h1
  simp only [List.cons.injEq, and_true] at e0 e1
  subst e0 e1 x0 x1
  refine ⟨s0.data.toList, s1.data.toList, by rw [← ba_list, ← ba_list], ?_⟩
  simp only [Rows.uptoBulk, Rows.uptoBulkAll]
  omega
end Go.Proofs.YtnjfahidcbglpaaDoor
