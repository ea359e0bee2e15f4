/- Plain: the bulk of the fields that a head has; how long a message's parts are. -/
import Derived.Test.YtmikgpmnffdnnaaGreatDoorBk
import Derived.Test.YtmikgpmnffdnnaaGreatDoorBh
import Derived.Test.YtmikgpmnffdnnaaGreatDoorBf
namespace Go.Proofs.YtmikgpmnffdnnaaGreatDoor
open Go.RowKit
theorem line_sum (l : List UInt8) (h : (lineOf l).2 = 0) : (lineOf l).1.1.length + (lineOf l).1.2.length + 1 ≤ l.length := by
  unfold lineOf at h ⊢
  split at h
  · simp at h
  · rename_i h1
    rw [if_neg h1]
    split at h
    · simp at h
    · rename_i h2
      rw [if_neg h2]
      split at h
      · rename_i h3
        rw [if_pos h3]
        have e1 : (nameOf l).length + (l.dropWhile noCol).length = l.length := by
          unfold nameOf
          have := congrArg List.length (while_app2 noCol l)
          rw [List.length_append] at this
          exact this
        have e2 := while_len noCol l h2
        have e3 : (restOf l).length = (l.dropWhile noCol).length - 1 := by unfold restOf; rw [List.length_drop]
        have e4 := trimT_len (restOf l)
        have e5 : (nameOf l).length = (l.takeWhile noCol).length := rfl
        show (nameOf l).length + (trimT (restOf l)).length + 1 ≤ l.length
        omega
      · simp at h
theorem bulk_app (a : FL) (f : List UInt8 × List UInt8) : bulkF (a ++ [f]) = bulkF a + (f.1.length + f.2.length + 3) := by
  induction a with
  | nil => simp [bulkF]
  | cons x r ih => simp only [List.cons_append, bulkF, ih]; omega
theorem parseF_bulk : ∀ (n : Nat) (bs : List UInt8) (acc : FL) (N : Nat), bulkF acc + bs.length ≤ N → bulkF (parseF n bs acc).1 ≤ N := by
  intro n
  induction n with
  | zero => intro bs acc N h; show bulkF acc ≤ N; omega
  | succ n ih =>
    intro bs acc N h
    unfold parseF
    split
    · show bulkF acc ≤ N; omega
    · cases hs : stepOf bs with
      | none => simp [bulkF]
      | some p =>
        obtain ⟨l, r⟩ := p
        have hl := step_len hs
        simp only
        split
        · simp [bulkF]
        · rename_i hz
          split
          · simp [bulkF]
          · refine ih r _ N ?_
            have := line_sum l (by simpa using hz)
            rw [bulk_app]
            omega
theorem parse_bulk (bs : List UInt8) : bulkF (parseOf bs).1 ≤ bs.length := parseF_bulk _ bs [] _ (by simp [bulkF])
theorem head_blk (b : List UInt8) (p n : Nat) : (blkH (headH b p n)).length ≤ n := by
  unfold blkH headH
  rw [List.length_drop, List.length_drop, List.length_take]
  omega
theorem req_zero (b : List UInt8) (h : (reqOf b).2.1 = 0) : reqOf b = (Rq.zero, 0, (reqOf b).2.2) := by
  by_cases h0 : (endOf b (leadOf b)).1 = 0
  · rw [req_none b h0]
  · obtain ⟨i, _, he, _, _⟩ := end_facts b _ h0
    have hs := req_some b _ (by omega) he
    rcases reqG_facts (lineQ (lineH (headH b (leadOf b) (leadOf b + i + 4)))) (parseOf (blkH (headH b (leadOf b) (leadOf b + i + 4)))) (leadOf b + i + 4) with ⟨_, a2, _⟩ | ⟨_, a2⟩
    · rw [← hs, h] at a2; omega
    · rw [← hs] at a2; exact a2
theorem resp_zero (b : List UInt8) (h : (respOf b).2.1 = 0) : respOf b = (Rs.zero, 0, (respOf b).2.2) := by
  by_cases h0 : (endOf b 0).1 = 0
  · rw [resp_none b h0]
  · obtain ⟨i, _, he, _, _⟩ := end_facts b _ h0
    have hs := resp_some b _ (by omega) he
    rcases respG_facts (lineR (lineH (headH b 0 (0 + i + 4)))) (parseOf (blkH (headH b 0 (0 + i + 4)))) (0 + i + 4) with ⟨_, a2⟩ | ⟨_, a2⟩
    · rw [← hs, h] at a2; omega
    · rw [← hs] at a2; exact a2
theorem req_bulk (b : List UInt8) : bulkF (reqOf b).1.fs ≤ 8192 := by
  by_cases h : 0 < (reqOf b).2.1
  · obtain ⟨i, hi, hn, h0, hc, hl, he⟩ := req_told b h
    have hs := req_some b _ (by omega) he
    rcases reqG_facts (lineQ (lineH (headH b (leadOf b) (leadOf b + i + 4)))) (parseOf (blkH (headH b (leadOf b) (leadOf b + i + 4)))) (leadOf b + i + 4) with ⟨_, _, a3, _⟩ | ⟨_, a2⟩
    · rw [← hs] at a3
      rw [a3]
      have h1 := parse_bulk (blkH (headH b (leadOf b) (leadOf b + i + 4)))
      have h2 := head_blk b (leadOf b) (leadOf b + i + 4)
      show bulkF (parseOf (blkH (headH b (leadOf b) (leadOf b + i + 4)))).1 ≤ 8192
      omega
    · rw [← hs] at a2; rw [a2]; simp [Rq.zero, bulkF]
  · rw [req_zero b (by omega)]; simp [Rq.zero, bulkF]
theorem resp_bulk (b : List UInt8) : bulkF (respOf b).1.fs ≤ 8192 := by
  by_cases h : 0 < (respOf b).2.1
  · obtain ⟨i, hi, hn, h0, hc, hl, he⟩ := resp_told b h
    have hs := resp_some b _ (by omega) he
    have h1 := parse_bulk (blkH (headH b 0 (0 + i + 4)))
    have h2 := head_blk b 0 (0 + i + 4)
    rw [hs]
    unfold respG
    split
    · simp [Rs.zero, bulkF]
    · split
      · simp [Rs.zero, bulkF]
      · show bulkF (parseOf (blkH (headH b 0 (0 + i + 4)))).1 ≤ 8192
        omega
  · rw [resp_zero b (by omega)]; simp [Rs.zero, bulkF]
theorem resp_host (b : List UInt8) (h : 0 < (respOf b).2.1) : (respOf b).2.1 ≤ 8192 ∧ (respOf b).2.1 ≤ b.length := by
  obtain ⟨i, hi, hn, h0, hc, hl, he⟩ := resp_told b h
  omega
end Go.Proofs.YtmikgpmnffdnnaaGreatDoor
