/- How long what is read can be. -/
import Derived.Test.YtjnkpfjkmgcmlaaDoorUaV
namespace Go.Proofs.YtjnkpfjkmgcmlaaDoor
open Go.RowKit
theorem normal_len (r : List UInt8) : (normal r).length ≤ r.length + 2 := by
  rw [normal_eq, List.length_append]
  have h1 := kept_len ((r.takeWhile noAsk).drop 1)
  have h2 : (shut (segs r)).length = (shut (kept (pieces ((r.takeWhile noAsk).drop 1)))).length := rfl
  have h3 := congrArg List.length (while_app2 noAsk r)
  rw [List.length_append] at h3
  rw [List.length_drop] at h1
  by_cases h4 : (r.takeWhile noAsk).length = 0
  · omega
  · omega
theorem parse_len (l : List UInt8) : (parseP l).1.path.length ≤ 4098 ∧ (parseP l).1.host.length ≤ 255 := by
  unfold parseP
  split
  · exact ⟨by simp [Tgt.none], by simp [Tgt.none]⟩
  next h0 =>
  split
  · exact ⟨by simp [Tgt.none], by simp [Tgt.none]⟩
  split
  · exact ⟨by simp [Tgt.none], by simp [Tgt.none]⟩
  unfold readAu
  split
  · exact ⟨by simp [Tgt.none], by simp [Tgt.none]⟩
  next hh =>
  split
  · exact ⟨by simp [Tgt.none], by simp [Tgt.none]⟩
  unfold readRest
  split
  · exact ⟨by simp [Tgt.none], by simp [Tgt.none]⟩
  next r hr =>
  have h1 := recode_len _ _ r (Nat.le_refl _) hr
  have h2 := (List.dropWhile_sublist (l := l.drop 7) noEnd).length_le
  rw [List.length_drop] at h2
  have h3 := normal_len r
  have h4 := host_len _ (by simpa using hh)
  refine ⟨?_, ?_⟩
  · simp only; omega
  · simp only; rw [lows_len]; exact h4.2
end Go.Proofs.YtjnkpfjkmgcmlaaDoor
