/- The contract of Request. -/
import Derived.Test.YtenegcoapejbmaaGreatDoorBd
import Derived.Test.YtenegcoapejbmaaGreatDoorBc
import Derived.Test.YtenegcoapejbmaaGreatDoorBa
namespace Go.Proofs.YtenegcoapejbmaaGreatDoor
open Go.RowKit
theorem parseF_fit : ∀ (n : Nat) (bs : List UInt8) (acc : FL) (N : Nat), bs.length ≤ N → (∀ f ∈ acc, f.1.length ≤ N ∧ f.2.length ≤ N) → ∀ f ∈ (parseF n bs acc).1, f.1.length ≤ N ∧ f.2.length ≤ N := by
  intro n
  induction n with
  | zero => intro bs acc N _ h; exact h
  | succ n ih =>
    intro bs acc N hN h
    unfold parseF
    split
    · exact h
    · cases hs : stepOf bs with
      | none => simp
      | some p =>
        obtain ⟨l, r⟩ := p
        have hl := step_len hs
        simp only
        split
        · simp
        · split
          · simp
          · refine ih r _ N (by omega) (fun f hf => ?_)
            rcases List.mem_append.1 hf with hf | hf
            · exact h f hf
            · obtain rfl := List.mem_singleton.1 hf
              have := line_len l
              omega
theorem parse_fit (bs : List UInt8) (hs : bs.length < 4294967281) : Fit (parseOf bs).1 := by
  intro f hf
  have := parseF_fit _ bs [] bs.length (Nat.le_refl _) (by simp) f hf
  omega
theorem blkH_len (h : List UInt8) : (blkH h).length ≤ h.length := by unfold blkH; rw [List.length_drop]; omega
theorem lineH_len (h : List UInt8) : (lineH h).length ≤ h.length := by unfold lineH; rw [List.length_take]; omega
theorem req_line (q : Rq × Int) (f : FL × Int) (n : Nat) (h : q.2 ≠ 0) : reqG q f n = (Rq.zero, 0, q.2) := by unfold reqG; rw [if_pos h]
theorem req_fields (q : Rq × Int) (f : FL × Int) (n : Nat) (h : q.2 = 0) (h2 : f.2 ≠ 0) : reqG q f n = (Rq.zero, 0, f.2) := by unfold reqG; rw [if_neg (by simpa using h), if_pos h2]
theorem req_hosts (q : Rq × Int) (f : FL × Int) (n : Nat) (h : q.2 = 0) (h2 : f.2 = 0) (h3 : hostBad f.1 q.1.k = true) : reqG q f n = (Rq.zero, 0, 40) := by unfold reqG; rw [if_neg (by simpa using h), if_neg (by simpa using h2), if_pos h3]
theorem req_good (q : Rq × Int) (f : FL × Int) (n : Nat) (h : q.2 = 0) (h2 : f.2 = 0) (h3 : hostBad f.1 q.1.k = false) : reqG q f n = (⟨q.1.m, q.1.t, q.1.k, f.1⟩, n, 0) := by unfold reqG; rw [if_neg (by simpa using h), if_neg (by simpa using h2), if_neg (by rw [h3]; simp)]
theorem lineQ_k (l : List UInt8) : (lineQ l).1.k = 0 ∨ (lineQ l).1.k = 1 := by
  unfold lineQ
  split
  · exact .inl rfl
  · split
    · rename_i h; rcases min_facts (past (past l)) with ⟨_, h3⟩ | ⟨h3, _⟩
      · exact h3
      · rw [h3] at h; cases h
    · exact .inl rfl
theorem lineQ_fs (l : List UInt8) : (lineQ l).1.fs = [] := by
  unfold lineQ
  split
  · rfl
  · split <;> rfl
def reqV (r : Rq × Nat × Int) (lv : Value) : Value := .tuple #[rqV r.1 lv, .int .i64 ((r.2.1 : Nat) : Int), .int .i64 r.2.2]
end Go.Proofs.YtenegcoapejbmaaGreatDoor
