/- Plain: a list put together of two, the first of which has no quote. -/
import Derived.Test.YtmibgcbolnpffaaDoorBl
namespace Go.Proofs.YtmibgcbolnpffaaDoor
open Go.RowKit
theorem pcs_parts (b : List UInt8) : ∀ (a : List UInt8), (∀ x ∈ a, ¬ (x.toNat : Int) = 34) → ∀ cur, pcs 44 false cur (a ++ 44 :: b) = pcs 44 false cur a ++ pcs 44 false [] b := by
  intro a
  induction a with
  | nil => intro _ cur; rw [List.nil_append, pcs_cut _ _ _ _ (by decide) (by decide)]; rfl
  | cons x a ih =>
    intro h cur
    have hx := h x List.mem_cons_self
    have ha := fun y hy => h y (List.mem_cons_of_mem _ hy)
    rw [List.cons_append]
    by_cases h44 : (x.toNat : Int) = 44
    · rw [pcs_cut _ _ _ _ hx h44, pcs_cut _ _ _ _ hx h44, ih ha]; rfl
    · rw [pcs_plain _ _ _ _ _ hx (by simp) (by simpa using h44), pcs_plain _ _ _ _ _ hx (by simp) (by simpa using h44), ih ha]
theorem listOf_parts (a b : List UInt8) (h : ∀ x ∈ a, ¬ (x.toNat : Int) = 34) : listOf (a ++ 44 :: b) = listOf a ++ listOf b := by
  unfold listOf pieces filt
  rw [pcs_parts b a h, List.map_append, List.filter_append]
end Go.Proofs.YtmibgcbolnpffaaDoor
