/- The contracts of Civil and of the document's Civil. -/
import Derived.Test.YtlhhcpbfjjhbfaaDoorDaD
namespace Go.Proofs.YtlhhcpbfjjhbfaaDoor
open Go.RowKit
theorem days10000 (w : World) :
    Calls Tryd.prog 96 #[.int .i64 10000] w fun e w' => e = .returned (.int .i64 2932897) ∧ w' = w := by
  have h := daysBefore 10000 (by omega) (by omega) w
  rwa [yb_10000] at h
theorem civ_first {y m d : Int} (h : Valid y m d) : 1970 ≤ 1970 + dayOf y m d / 366 ∧ 1970 + dayOf y m d / 366 ≤ y := by
  obtain ⟨h1, h2, h3, h4, h5, h6⟩ := dayOf_in h
  have a := dayOf_range h
  have b := yb_upper (a := 1970) (b := y + 1) (by have := h.y0; omega)
  rw [yb_1970] at b
  have := h.d1
  unfold dayOf at *
  omega
theorem civ_year {y m d : Int} (h : Valid y m d) : yb y ≤ dayOf y m d ∧ dayOf y m d < yb (y + 1) ∧ (∀ k, 1970 ≤ k → k < y → yb (k + 1) ≤ dayOf y m d) := by
  obtain ⟨h1, h2, h3, h4, h5, h6⟩ := dayOf_in h
  have := h.d0; have := h.d1
  refine ⟨by unfold dayOf; omega, by unfold dayOf; omega, fun k _ hk => ?_⟩
  have := yb_mono (a := k + 1) (b := y) (by omega)
  unfold dayOf; omega
theorem civ_month {y m d : Int} (h : Valid y m d) {k : Int} (k0 : 1 ≤ k) (k1 : k < m) : mlen y k ≤ dayOf y m d - yb y - mb y k := by
  have a := mb_succ y k0 (show k ≤ 12 by have := h.m1; omega)
  have b := mb_mono y (a := k + 1) (b := m) (by omega) (by omega) (by have := h.m1; omega)
  have := h.d0
  unfold dayOf; omega
theorem civ_year2 {y m d : Int} (h : Valid y m d) : (∀ k, 1970 ≤ k → k < y → yb (k + 1) ≤ dayOf y m d) ∧ dayOf y m d < yb (y + 1) := ⟨(civ_year h).2.2, (civ_year h).2.1⟩
end Go.Proofs.YtlhhcpbfjjhbfaaDoor
