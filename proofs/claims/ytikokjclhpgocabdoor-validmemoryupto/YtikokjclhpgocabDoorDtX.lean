/- Each text says a second or none. -/
import Derived.Test.YtikokjclhpgocabDoorDtT
import Derived.Test.YtikokjclhpgocabDoorLawParses
namespace Go.Proofs.YtikokjclhpgocabDoor
open Go.RowKit
theorem dt_ex (l : List UInt8) (h : l.length < 4294967281) : ∃ d, DtP l d := by
  by_cases hf : ∃ t, IsForm l t
  · obtain ⟨t, hf⟩ := hf
    exact ⟨t, by have := hf.1; omega, hf.2.1, t, 0, .inr ⟨hf.1, rfl, rfl⟩, parse_of_form ⟨l.toArray⟩ t hf⟩
  · refine ⟨-1, by omega, by omega, 0, 20, .inl ⟨by omega, rfl, rfl⟩, ?_⟩
    rcases parse_any ⟨l.toArray⟩ (by show l.toArray.size < 4294967281; rw [List.size_toArray]; exact h) with c | ⟨t, ht, _⟩
    · exact c
    · exact absurd ⟨t, ht⟩ hf
theorem dt_exB (l : List UInt8) (h : l.length < 4294967281) : ∃ d, DtB l d := by
  by_cases hf : ∃ t, IsForm l t
  · obtain ⟨t, hf⟩ := hf
    exact ⟨t, ⟨by have := hf.1; omega, hf.2.1, t, 0, .inr ⟨hf.1, rfl, rfl⟩, parse_of_form ⟨l.toArray⟩ t hf⟩, t, 0, .inr ⟨hf.1, rfl, rfl⟩, ref_of_form ⟨l.toArray⟩ t hf⟩
  · refine ⟨-1, ⟨by omega, by omega, 0, 20, .inl ⟨by omega, rfl, rfl⟩, ?_⟩, 0, 20, .inl ⟨by omega, rfl, rfl⟩, ?_⟩
    · rcases parse_any ⟨l.toArray⟩ (by show l.toArray.size < 4294967281; rw [List.size_toArray]; exact h) with c | ⟨t, ht, _⟩
      · exact c
      · exact absurd ⟨t, ht⟩ hf
    · rcases ref_any ⟨l.toArray⟩ with c | ⟨t, ht, _⟩
      · exact c
      · exact absurd ⟨t, ht⟩ hf
end Go.Proofs.YtikokjclhpgocabDoor
