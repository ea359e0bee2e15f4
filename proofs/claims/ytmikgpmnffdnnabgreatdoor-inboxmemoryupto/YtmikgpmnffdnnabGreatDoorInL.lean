/- Plain: how long a message's parts are. -/
import Derived.Test.YtmikgpmnffdnnabGreatDoorInE
import Derived.Test.YtmikgpmnffdnnabGreatDoorChLn
namespace Go.Proofs.YtmikgpmnffdnnabGreatDoor
open Go.RowKit
theorem bodyM_size (b : List UInt8) (n : Nat) (k l : Int) : (bodyM b n k l).1.length ≤ b.length + 65536 ∧ (bodyM b n k l).2.1.length ≤ 100 := by
  unfold bodyM
  split
  · split
    · simp
    · refine ⟨?_, by simp⟩
      show ((b.drop n).take l.toNat).length ≤ _
      rw [List.length_take, List.length_drop]
      omega
  · split
    · split
      · simp
      · have h1 := dec_fs (b.drop n)
        have h2 := dec_out (b.drop n)
        exact ⟨by simp only; omega, h1⟩
    · simp
theorem bodyE_size (b : List UInt8) (n : Nat) (k l : Int) (ended : Bool) : (bodyE b n k l ended).1.length ≤ b.length + 65536 ∧ (bodyE b n k l ended).2.1.length ≤ 100 := by
  unfold bodyE
  split
  · split
    · simp
    · split
      · refine ⟨?_, by simp⟩
        show (b.drop n).length ≤ _
        rw [List.length_drop]
        omega
      · simp
  · exact bodyM_size b n k l
theorem join_size {α : Type} (z r : α) (x : List UInt8 × FL × Nat × Int) (N M : Nat) (h1 : x.1.length ≤ N) (h2 : x.2.1.length ≤ M) : (joinM z r x).2.1.length ≤ N ∧ (joinM z r x).2.2.1.length ≤ M ∧ ((joinM z r x).1 = z ∨ (joinM z r x).1 = r) := by
  unfold joinM
  split
  · exact ⟨by simp, by simp, .inl rfl⟩
  · exact ⟨h1, h2, .inr rfl⟩
theorem msgQ_size (b : List UInt8) : (msgQ b).1.fs.length ≤ 8192 ∧ (msgQ b).2.1.length ≤ b.length + 65536 ∧ (msgQ b).2.2.1.length ≤ 100 := by
  have hr : (reqOf b).1.fs.length ≤ 8192 := Nat.le_trans (bulkF_len _) (req_bulk b)
  by_cases h1 : (reqOf b).2.2 ≠ 0 ∨ (reqOf b).2.1 = 0
  · rw [msgQ_none h1]; simp [Rq.zero]
  · by_cases h2 : (ruleOf (reqOf b).1.k (reqOf b).1.fs 0).2.2 ≠ 0
    · rw [msgQ_rule h1 h2]; simp [Rq.zero]
    · rw [msgQ_body h1 h2]
      have hb := bodyM_size b (reqOf b).2.1 (ruleOf (reqOf b).1.k (reqOf b).1.fs 0).1 (ruleOf (reqOf b).1.k (reqOf b).1.fs 0).2.1
      obtain ⟨j1, j2, j3⟩ := join_size Rq.zero (reqOf b).1 _ _ _ hb.1 hb.2
      refine ⟨?_, j1, j2⟩
      rcases j3 with e | e
      · rw [e]; simp [Rq.zero]
      · rw [e]; exact hr
theorem respI_size (b m : List UInt8) (ended : Bool) : (respI b m ended).1.fs.length ≤ 8192 ∧ (respI b m ended).2.1.length ≤ b.length + 65536 ∧ (respI b m ended).2.2.1.length ≤ 100 := by
  have hr : (respOf b).1.fs.length ≤ 8192 := Nat.le_trans (bulkF_len _) (resp_bulk b)
  by_cases h1 : (respOf b).2.1 = 0
  · rw [respI_none h1]; simp [Rs.zero]
  · by_cases h2 : (fresOf (respOf b).1.s (respOf b).1.k (respOf b).1.fs m).2.2 ≠ 0
    · rw [respI_rule h1 h2]; simp [Rs.zero]
    · rw [respI_body h1 h2]
      have hb := bodyE_size b (respOf b).2.1 (fresOf (respOf b).1.s (respOf b).1.k (respOf b).1.fs m).1 (fresOf (respOf b).1.s (respOf b).1.k (respOf b).1.fs m).2.1 ended
      obtain ⟨j1, j2, j3⟩ := join_size Rs.zero (respOf b).1 _ _ _ hb.1 hb.2
      refine ⟨?_, j1, j2⟩
      rcases j3 with e | e
      · rw [e]; simp [Rs.zero]
      · rw [e]; exact hr
theorem msgR_size (b m : List UInt8) (ended : Bool) : (msgR b m ended).1.fs.length ≤ 8192 ∧ (msgR b m ended).2.1.length ≤ b.length + 65536 ∧ (msgR b m ended).2.2.1.length ≤ 100 := by
  rw [msgR_inner]
  split
  · simp [Rs.zero]
  · exact respI_size b m ended
end Go.Proofs.YtmikgpmnffdnnabGreatDoor
