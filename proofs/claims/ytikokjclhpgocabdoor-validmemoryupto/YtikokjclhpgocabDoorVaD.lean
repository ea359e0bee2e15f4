/- The second that each text says, as a function. -/
import Derived.Test.YtikokjclhpgocabDoorDtX
namespace Go.Proofs.YtikokjclhpgocabDoor
open Go.RowKit
open Classical in
/-- the second that a text says, -1 where it says none -/
noncomputable def dtF (l : List UInt8) : Int := if h : ∃ t, IsForm l t then Classical.choose h else -1
theorem dtF_spec (l : List UInt8) (h : l.length < 4294967281) : DtB l (dtF l) := by
  unfold dtF
  by_cases hf : ∃ t, IsForm l t
  · rw [dif_pos hf]
    have hc := Classical.choose_spec hf
    generalize Classical.choose hf = t at hc
    exact ⟨⟨by have := hc.1; omega, hc.2.1, t, 0, .inr ⟨hc.1, rfl, rfl⟩, parse_of_form ⟨l.toArray⟩ t hc⟩, t, 0, .inr ⟨hc.1, rfl, rfl⟩, ref_of_form ⟨l.toArray⟩ t hc⟩
  · rw [dif_neg hf]
    refine ⟨⟨by omega, by omega, 0, 20, .inl ⟨by omega, rfl, rfl⟩, ?_⟩, 0, 20, .inl ⟨by omega, rfl, rfl⟩, ?_⟩
    · rcases parse_any ⟨l.toArray⟩ (by show l.toArray.size < 4294967281; rw [List.size_toArray]; exact h) with c | ⟨t, ht, _⟩
      · exact c
      · exact absurd ⟨t, ht⟩ hf
    · rcases ref_any ⟨l.toArray⟩ with c | ⟨t, ht, _⟩
      · exact c
      · exact absurd ⟨t, ht⟩ hf
theorem no_form (t : Int) : ¬ IsForm [] t := by
  rintro ⟨_, _, y, m, d, _, _, h | ⟨_, h⟩ | h⟩
  · have := congrArg List.length h
    simp [showL] at this
  · have := congrArg List.length h
    simp [dashL] at this
  · have := congrArg List.length h
    simp [blankL] at this
theorem dtF_nil : dtF [] < 0 := by
  unfold dtF
  rw [dif_neg (fun ⟨t, h⟩ => no_form t h)]
  omega
end Go.Proofs.YtikokjclhpgocabDoor
