/- Plain: the program's Open does what the document's does. -/
import Derived.Test.YtijnjgnckipghaaGreatSwDd
import Derived.Test.YtijnjgnckipghaaGreatSwSv
namespace Go.Proofs.YtijnjgnckipghaaGreat
theorem open_ref (s : Dk) : (openT rdT s).2 = (refOpen s).2.2 ∧ (openT rdT s).1.1.1 = (refOpen s).1.1 ∧ ((openT rdT s).2 = 0 → (openT rdT s).1.2 = (refOpen s).2.1 ∧ (refOpen s).1.2 = ((openT rdT s).1.2.length : Int)) := by
  have hc : (remU (s, 0)).1.2 = 0 := by
    unfold remU
    split <;> rfl
  have h0 : (remU (s, 0)).1 = ((remU (s, 0)).1.1, 0) := Prod.ext rfl hc
  obtain ⟨g1, g2, g3⟩ := rd_ref (remU (s, 0)).1.1
  unfold openT refOpen
  by_cases h : (remU (s, 0)).2 = 0
  · rw [if_pos h]
    rw [runT_ok (show (stepA remU ((s, 0), [])).2 = 0 from h)]
    have e1 : (stepA remU ((s, 0), [])).1 = (((remU (s, 0)).1.1, 0), []) := by
      show ((remU (s, 0)).1, ([] : RL)) = _
      rw [h0]
    rw [e1]
    by_cases h2 : (rdT ((remU (s, 0)).1.1, 0)).1.2 = 0
    · rw [runT_ok (show (stepBo rdT (((remU (s, 0)).1.1, 0), [])).2 = 0 from h2), runT_nil]
      refine ⟨by rw [← g1, h2], g2, fun _ => g3 h2⟩
    · rw [runT_bad (show (stepBo rdT (((remU (s, 0)).1.1, 0), [])).2 ≠ 0 from h2)]
      exact ⟨g1, g2, fun e => absurd e h2⟩
  · rw [if_neg h]
    rw [runT_bad (show (stepA remU ((s, 0), [])).2 ≠ 0 from h)]
    exact ⟨rfl, rfl, fun e => absurd e h⟩
end Go.Proofs.YtijnjgnckipghaaGreat
