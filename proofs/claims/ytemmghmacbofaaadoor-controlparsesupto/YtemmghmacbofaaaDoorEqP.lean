/- Plain: where a text's first equals sign stands. -/
import Derived.Test.YtemmghmacbofaaaDoorList
import Derived.Lib.IndexLaws
namespace Go.Proofs.YtemmghmacbofaaaDoor
open Go.RowKit
def eqPos : List UInt8 → Nat
  | [] => 0
  | x :: l => if (x.toNat : Int) = 61 then 0 else eqPos l + 1
theorem eqPos_le (l : List UInt8) : eqPos l ≤ l.length := by
  induction l with
  | nil => simp [eqPos]
  | cons x l ih => rw [eqPos]; split <;> simp; omega
theorem eqPos_is : ∀ (l : List UInt8) (k : Nat), k ≤ l.length → (∀ j (h : j < l.length), j < k → ¬ (l[j].toNat : Int) = 61) → (∀ h : k < l.length, (l[k].toNat : Int) = 61) → eqPos l = k := by
  intro l
  induction l with
  | nil => intro k hk _ _; simp at hk; subst hk; rfl
  | cons x l ih =>
    intro k hk h1 h2
    rw [eqPos]
    cases k with
    | zero =>
      have a := h2 (by simp)
      simp only [List.getElem_cons_zero] at a
      rw [if_pos a]
    | succ k =>
      have a := h1 0 (by simp) (by omega)
      simp only [List.getElem_cons_zero] at a
      rw [if_neg a, ih k (by simpa using hk)]
      · intro j hj hjk
        exact h1 (j + 1) (by simpa using hj) (by omega)
      · intro h
        exact h2 (by simpa using h)
theorem beq61 (x : UInt8) : (x == 61) = decide ((x.toNat : Int) = 61) := by
  have : ∀ n : Nat, n < 256 → ((UInt8.ofNat n) == 61) = decide (((UInt8.ofNat n).toNat : Int) = 61) := by decide +kernel
  have h := this x.toNat x.toNat_lt
  rwa [UInt8.ofNat_toNat] at h
theorem index_eq (l : List UInt8) : Lib.indexByte l 61 = if eqPos l < l.length then (eqPos l : Int) else -1 := by
  induction l with
  | nil => rfl
  | cons x l ih =>
    unfold Lib.indexByte eqPos
    rw [beq61]
    by_cases h : (x.toNat : Int) = 61
    · simp [h]
    · simp only [h, decide_false, Bool.false_eq_true, if_false]
      rw [ih]
      by_cases h2 : eqPos l < l.length
      · rw [if_pos h2, if_neg (by simp <;> omega), if_pos (by rw [List.length_cons]; omega)]
        simp
      · rw [if_neg h2, if_pos (by simp), if_neg (by rw [List.length_cons]; omega)]
end Go.Proofs.YtemmghmacbofaaaDoor
