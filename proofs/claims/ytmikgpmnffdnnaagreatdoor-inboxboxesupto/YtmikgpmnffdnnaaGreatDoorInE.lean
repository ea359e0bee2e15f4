/- Plain: the body behind a head, with a close, too; a response by its inner answer; who waits for a word to go on. -/
import Derived.Test.YtmikgpmnffdnnaaGreatDoorInB
namespace Go.Proofs.YtmikgpmnffdnnaaGreatDoor
open Go.RowKit
theorem lens_kindI (ws : List (List UInt8)) (h : (lensOf ws).2.2 = 0) : (lensOf ws).1 = 1 ∧ ∃ l : Nat, (lensOf ws).2.1 = (l : Int) ∧ l ≤ 65536 := by
  cases ws with
  | nil => simp [lensOf] at h
  | cons x r =>
    have e : lensOf (x :: r) = if (isNum x && r.all (fun y => isNum y && decide (numF y = numF x))) = true then (if 65536 < numF x then (0, 0, 71) else (1, (numF x : Int), 0)) else (0, 0, 60) := rfl
    rw [e] at h ⊢
    split at h
    · rename_i h1
      rw [if_pos h1]
      split at h
      · simp at h
      · rename_i h2
        rw [if_neg h2]
        exact ⟨rfl, numF x, rfl, by omega⟩
    · simp at h
theorem cod_kindI (m : Int) (ws : List (List UInt8)) (h : (codOf m ws).2.2 = 0) : (codOf m ws).1 = 2 := by
  unfold codOf at h ⊢
  split at h
  · simp at h
  · rename_i h1; rw [if_neg h1]
/-- the kinds that the fields' rule tells -/
theorem rule_kindI (m : Int) (fs : FL) (s : Int) (h : (ruleOf m fs s).2.2 = 0) : (ruleOf m fs s).1 = s ∨ ((ruleOf m fs s).1 = 1 ∧ ∃ l : Nat, (ruleOf m fs s).2.1 = (l : Int) ∧ l ≤ 65536) ∨ (ruleOf m fs s).1 = 2 := by
  unfold ruleOf at h ⊢
  split at h
  · simp at h
  · rename_i h1
    rw [if_neg h1]
    split at h
    · rename_i h2
      rw [if_pos h2]
      exact .inr (.inr (cod_kindI _ _ h))
    · rename_i h2
      rw [if_neg h2]
      split at h
      · rename_i h3
        rw [if_pos h3]
        exact .inr (.inl (lens_kindI _ h))
      · rename_i h3
        rw [if_neg h3]
        exact .inl rfl
def Kind (q : Int × Int × Int) : Prop := q.1 = 0 ∨ (q.1 = 1 ∧ ∃ l : Nat, q.2.1 = (l : Int) ∧ l ≤ 65536) ∨ q.1 = 2 ∨ q.1 = 3
theorem req_kind (m : Int) (fs : FL) (h : (ruleOf m fs 0).2.2 = 0) : Kind (ruleOf m fs 0) ∧ (ruleOf m fs 0).1 ≠ 3 := by
  rcases rule_kindI m fs 0 h with h1 | h1 | h1
  · exact ⟨.inl h1, by omega⟩
  · exact ⟨.inr (.inl h1), by omega⟩
  · exact ⟨.inr (.inr (.inl h1)), by omega⟩
theorem fres_kind (s m : Int) (fs : FL) (mt : List UInt8) (h : (fresOf s m fs mt).2.2 = 0) : Kind (fresOf s m fs mt) := by
  unfold fresOf at h ⊢
  split at h
  · rename_i h1; rw [if_pos h1]; exact .inl rfl
  · rename_i h1
    rw [if_neg h1]
    rcases rule_kindI m fs 3 h with h1 | h1 | h1
    · exact .inr (.inr (.inr h1))
    · exact .inr (.inl h1)
    · exact .inr (.inr (.inl h1))
/-- what stands behind a head, where the body may go on to the close -/
def bodyE (b : List UInt8) (n : Nat) (k l : Int) (ended : Bool) : List UInt8 × FL × Nat × Int :=
  if k = 3 then (if 65536 < b.length - n then ([], [], 0, 71) else if ended = true then (b.drop n, [], b.length, 0) else ([], [], 0, 0)) else bodyM b n k l
theorem bodyE_ne {b : List UInt8} {n : Nat} {k l : Int} {ended : Bool} (h : k ≠ 3) : bodyE b n k l ended = bodyM b n k l := by unfold bodyE; rw [if_neg h]
theorem msgQ_bodyE {b : List UInt8} (h : ¬ ((reqOf b).2.2 ≠ 0 ∨ (reqOf b).2.1 = 0)) (h2 : ¬ (ruleOf (reqOf b).1.k (reqOf b).1.fs 0).2.2 ≠ 0) (ended : Bool) : msgQ b = joinM Rq.zero (reqOf b).1 (bodyE b (reqOf b).2.1 (ruleOf (reqOf b).1.k (reqOf b).1.fs 0).1 (ruleOf (reqOf b).1.k (reqOf b).1.fs 0).2.1 ended) := by
  rw [msgQ_body h h2, bodyE_ne (req_kind _ _ (by simpa using h2)).2]
/-- a response's inner answer: 0 where more is needed, ended or not -/
def respI (b m : List UInt8) (ended : Bool) : Rs × List UInt8 × FL × Nat × Int :=
  if (respOf b).2.1 = 0 then (Rs.zero, [], [], 0, (respOf b).2.2)
  else if (fresOf (respOf b).1.s (respOf b).1.k (respOf b).1.fs m).2.2 ≠ 0 then (Rs.zero, [], [], 0, (fresOf (respOf b).1.s (respOf b).1.k (respOf b).1.fs m).2.2)
  else joinM Rs.zero (respOf b).1 (bodyE b (respOf b).2.1 (fresOf (respOf b).1.s (respOf b).1.k (respOf b).1.fs m).1 (fresOf (respOf b).1.s (respOf b).1.k (respOf b).1.fs m).2.1 ended)
theorem respI_none {b m : List UInt8} {ended : Bool} (h : (respOf b).2.1 = 0) : respI b m ended = (Rs.zero, [], [], 0, (respOf b).2.2) := by unfold respI; rw [if_pos h]
theorem respI_rule {b m : List UInt8} {ended : Bool} (h : ¬ (respOf b).2.1 = 0) (h2 : (fresOf (respOf b).1.s (respOf b).1.k (respOf b).1.fs m).2.2 ≠ 0) : respI b m ended = (Rs.zero, [], [], 0, (fresOf (respOf b).1.s (respOf b).1.k (respOf b).1.fs m).2.2) := by unfold respI; rw [if_neg h, if_pos h2]
theorem respI_body {b m : List UInt8} {ended : Bool} (h : ¬ (respOf b).2.1 = 0) (h2 : ¬ (fresOf (respOf b).1.s (respOf b).1.k (respOf b).1.fs m).2.2 ≠ 0) : respI b m ended = joinM Rs.zero (respOf b).1 (bodyE b (respOf b).2.1 (fresOf (respOf b).1.s (respOf b).1.k (respOf b).1.fs m).1 (fresOf (respOf b).1.s (respOf b).1.k (respOf b).1.fs m).2.1 ended) := by unfold respI; rw [if_neg h, if_neg h2]
theorem msgR_inner (b m : List UInt8) (ended : Bool) : msgR b m ended = if ((respI b m ended).2.2.2.1 = 0 ∧ (respI b m ended).2.2.2.2 = 0) ∧ ended = true then (Rs.zero, [], [], 0, 80) else respI b m ended := by
  by_cases h1 : (respOf b).2.1 = 0
  · rw [respI_none h1]
    unfold msgR
    by_cases h2 : (respOf b).2.2 ≠ 0
    · rw [if_pos h2, if_neg (by simp only; intro h; exact h2 h.1.2)]
    · rw [if_neg h2, if_pos h1]
      simp only [ne_eq, Decidable.not_not] at h2
      unfold cutE
      cases ended <;> simp [h2]
  · have h0 : (respOf b).2.2 = 0 := by
      obtain ⟨_, _, _, h, _⟩ := resp_told b (by omega)
      exact h
    unfold msgR
    rw [if_neg (by rw [h0]; simp), if_neg h1]
    have hn := resp_host b (by omega)
    by_cases h2 : (fresOf (respOf b).1.s (respOf b).1.k (respOf b).1.fs m).2.2 ≠ 0
    · rw [respI_rule h1 h2]
      unfold respM
      rw [if_pos h2, if_neg (by simp only; intro h; exact h2 h.1.2)]
    · rw [respI_body h1 h2]
      generalize fresOf (respOf b).1.s (respOf b).1.k (respOf b).1.fs m = q at h2 ⊢
      unfold respM
      rw [if_neg h2]
      by_cases h3 : q.1 = 3
      · rw [if_pos h3]
        unfold bodyE
        rw [if_pos h3]
        by_cases h4 : 65536 < b.length - (respOf b).2.1
        · simp [h4, joinM]
        · cases ended
          · simp [h4, joinM]
          · simp only [if_neg h4, if_true, joinM]
            have hb : ¬ b.length = 0 := by omega
            simp [hb]
      · rw [if_neg h3, bodyE_ne h3]
        generalize bodyM b (respOf b).2.1 q.1 q.2.1 = x
        unfold joinM cutE
        by_cases h5 : x.2.2.2 ≠ 0
        · simp [h5]
        · simp only [ne_eq, Decidable.not_not] at h5
          by_cases h6 : x.2.2.1 = 0
          · cases ended <;> simp [h5, h6]
          · simp [h5, h6]
def EXb : List UInt8 := [69, 120, 112, 101, 99, 116]
def exb : List UInt8 := [101, 120, 112, 101, 99, 116]
def c100 : List UInt8 := [49, 48, 48, 45, 99, 111, 110, 116, 105, 110, 117, 101]
theorem vals_ex (fs : FL) : valsOf fs exb = valsOf fs EXb := vals_low (by decide) fs
/-- a head waits for a word to go on -/
def expG (k : Int) (fs : FL) : Bool := decide (k = 1) && (decide (c100 ∈ toksOf (valsOf fs EXb)) && (decide ((ruleOf k fs 0).2.2 = 0) && (decide ((ruleOf k fs 0).1 = 1) || decide ((ruleOf k fs 0).1 = 2))))
def expOf (b : List UInt8) : Bool := if (reqOf b).2.2 ≠ 0 ∨ (reqOf b).2.1 = 0 then false else expG (reqOf b).1.k (reqOf b).1.fs
end Go.Proofs.YtmikgpmnffdnnaaGreatDoor
