/- A list of fields, its beginning and its rest; one field more among others. -/
import Derived.Test.YtikokjclhpgocaaFdO
import Derived.Test.YtikokjclhpgocaaFdP
import Derived.Test.YtikokjclhpgocaaOpnA
namespace Go.Proofs.Ytikokjclhpgocaa
open Go.RowKit
theorem vals_app (a b : FL) (n : List UInt8) : valsOf (a ++ b) n = valsOf a n ++ valsOf b n := by unfold valsOf; rw [List.filter_append, List.map_append]
theorem vals_other {x y n : List UInt8} (h : ¬ lows x = lows n) : valsOf [(x, y)] n = [] := by
  unfold valsOf
  rw [List.filter_cons_of_neg (by simpa using h)]
  rfl
theorem vals_more (fs : FL) (k : Nat) {x y n : List UInt8} (h : ¬ lows x = lows n) : valsOf (fs.take k ++ [(x, y)] ++ fs.drop k) n = valsOf fs n := by
  rw [vals_app, vals_app, vals_other h, List.append_nil, ← vals_app, List.take_append_drop]
theorem bulkF_app (a b : FL) : bulkF (a ++ b) = bulkF a + bulkF b := by
  induction a with
  | nil => simp [bulkF]
  | cons f r ih => simp only [List.cons_append, bulkF, ih]; omega
theorem bulk_more (fs : FL) (k : Nat) (x y : List UInt8) : bulkF (fs.take k ++ [(x, y)] ++ fs.drop k) = bulkF fs + (x.length + y.length + 3) := by
  have h : bulkF (fs.take k) + bulkF (fs.drop k) = bulkF fs := by rw [← bulkF_app, List.take_append_drop]
  have h1 : bulkF [(x, y)] = x.length + y.length + 3 := by simp [bulkF]
  rw [bulkF_app, bulkF_app, h1]
  omega
theorem elemF : Try.prog.elem 27 = 32 := by kernel_rfl
theorem holdsF_take {w : World} {v : Value} {fs : FL} (h : HoldsF w v fs) (k : Nat) (hk : k ≤ fs.length) : ∃ pa pc, (∀ W, Sem.run Try.prog (Instr.slice 27 v none (some (.int .i64 (k : Int))) none) W = .ok (.slice pa k pc) W) ∧ HoldsF w (.slice pa k pc) (fs.take k) := by
  obtain ⟨ao, cap, rfl, h0, hc, hcell⟩ := h
  have hl : (fs.take k).length = k := by rw [List.length_take]; omega
  refine ⟨ao, cap, fun W => ?_, ao, cap, by rw [hl], h0, by omega, fun hne => ?_⟩
  · have hh := run_slice_h (P := Try.prog) W 27 ao fs.length cap (by rw [elemF]; exact Try.underlying27) .i64 k (by omega) (by omega)
    rw [elemF, Try.sizeOf32] at hh
    simp only [Result.andThen, Int.toNat_natCast, sliced] at hh
    rw [hh]
    by_cases hz : cap = 0
    · subst hz
      obtain rfl : k = 0 := by omega
      cases ao <;> simp
    · cases ao with
      | none => exact absurd (h0 rfl) hz
      | some a => simp [hz, Addr.add]
  · have hf : fs ≠ [] := by intro e; rw [e] at hne; simp at hne
    obtain ⟨b, off, e, hlt, hc2⟩ := hcell hf
    refine ⟨b, off, e, hlt, fun j hj => ?_⟩
    have hj2 : j < fs.length := by rw [hl] at hj; omega
    rw [List.getElem_take]
    exact hc2 j hj2
theorem holdsF_drop {w : World} {v : Value} {fs : FL} (h : HoldsF w v fs) (k : Nat) (hk : k ≤ fs.length) : ∃ pa pc, (∀ W, Sem.run Try.prog (Instr.slice 27 v (some (.int .i64 (k : Int))) none none) W = .ok (.slice pa (fs.length - k) pc) W) ∧ HoldsF w (.slice pa (fs.length - k) pc) (fs.drop k) := by
  obtain ⟨ao, cap, rfl, h0, hc, hcell⟩ := h
  have hl : (fs.drop k).length = fs.length - k := List.length_drop
  refine ⟨if cap = k then ao else ao.map (·.add (k * 2)), cap - k, fun W => ?_, _, cap - k, by rw [hl], ?_, by omega, fun hne => ?_⟩
  · have hh := run_slice_l (P := Try.prog) W 27 ao fs.length cap (by rw [elemF]; exact Try.underlying27) .i64 k (by omega) (by omega)
    rw [elemF, Try.sizeOf32] at hh
    simp only [Result.andThen, Int.toNat_natCast, sliced] at hh
    exact hh
  · intro e
    by_cases hz : cap = k
    · omega
    · rw [if_neg hz] at e
      cases ao with
      | none => have := h0 rfl; omega
      | some a => simp at e
  · have hlt1 : k < fs.length := by
      rcases Nat.lt_or_ge k fs.length with h | h
      · exact h
      · exact absurd (List.drop_eq_nil_of_le h) hne
    have hf : fs ≠ [] := by intro e; rw [e] at hlt1; simp at hlt1
    obtain ⟨b, off, e, hlt, hc2⟩ := hcell hf
    refine ⟨b, off + k * 2, ?_, hlt, fun j hj => ?_⟩
    · rw [if_neg (by omega), e, Option.map_some, Go.WideShapes.add_plain]
    · have hj2 : k + j < fs.length := by rw [hl] at hj; omega
      rw [List.getElem_drop]
      have c := hc2 (k + j) hj2
      rw [show off + (k + j) * 2 = off + k * 2 + j * 2 by omega] at c
      exact c
end Go.Proofs.Ytikokjclhpgocaa
