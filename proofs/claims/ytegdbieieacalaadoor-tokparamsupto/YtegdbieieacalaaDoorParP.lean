/- Plain definitions and lemmas on parameters; nothing of the program's text is walked here. -/
import Derived.Test.YtegdbieieacalaaDoorList
import Derived.Test.YtegdbieieacalaaDoorTkT
import Derived.Test.YtegdbieieacalaaDoorFold
import Derived.Test.YtegdbieieacalaaDoorUa
import Derived.Lib.IndexLaws
namespace Go.Proofs.YtegdbieieacalaaDoor
open Go.RowKit
def eqPos : List UInt8 → Nat
  | [] => 0
  | x :: l => if (x.toNat : Int) = 61 then 0 else eqPos l + 1
theorem eqPos_le (l : List UInt8) : eqPos l ≤ l.length := by
  induction l with
  | nil => simp [eqPos]
  | cons x l ih => rw [eqPos]; split <;> simp; omega
theorem eqPos_is : ∀ (l : List UInt8) (k : Nat), k ≤ l.length → (∀ j (h : j < l.length), j < k → ¬ (l[j].toNat : Int) = 61) → (∀ h : k < l.length, (l[k].toNat : Int) = 61) → eqPos l = k := by
  intro l
  induction l with
  | nil => intro k hk _ _; simp at hk; subst hk; rfl
  | cons x l ih =>
    intro k hk h1 h2
    rw [eqPos]
    cases k with
    | zero =>
      have a := h2 (by simp)
      simp only [List.getElem_cons_zero] at a
      rw [if_pos a]
    | succ k =>
      have a := h1 0 (by simp) (by omega)
      simp only [List.getElem_cons_zero] at a
      rw [if_neg a, ih k (by simpa using hk)]
      · intro j hj hjk
        exact h1 (j + 1) (by simpa using hj) (by omega)
      · intro h
        exact h2 (by simpa using h)
theorem beq61 (x : UInt8) : (x == 61) = decide ((x.toNat : Int) = 61) := by
  have : ∀ n : Nat, n < 256 → ((UInt8.ofNat n) == 61) = decide (((UInt8.ofNat n).toNat : Int) = 61) := by decide +kernel
  have h := this x.toNat x.toNat_lt
  rwa [UInt8.ofNat_toNat] at h
theorem index_eq (l : List UInt8) : Lib.indexByte l 61 = if eqPos l < l.length then (eqPos l : Int) else -1 := by
  induction l with
  | nil => rfl
  | cons x l ih =>
    unfold Lib.indexByte eqPos
    rw [beq61]
    by_cases h : (x.toNat : Int) = 61
    · simp [h]
    · simp only [h, decide_false, Bool.false_eq_true, if_false]
      rw [ih]
      by_cases h2 : eqPos l < l.length
      · rw [if_pos h2, if_neg (by simp <;> omega), if_pos (by rw [List.length_cons]; omega)]
        simp
      · rw [if_neg h2, if_pos (by simp), if_neg (by rw [List.length_cons]; omega)]
/-- what a piece says: a name and a value -/
def paramOf (t : List UInt8) : Option (List UInt8 × List UInt8) :=
  if eqPos t < t.length ∧ isTok (t.take (eqPos t)) = true then
    (if isTok (t.drop (eqPos t + 1)) = true then some (lows (t.take (eqPos t)), t.drop (eqPos t + 1))
     else if (unqS ⟨(t.drop (eqPos t + 1)).toArray⟩).2 = 0 then some (lows (t.take (eqPos t)), (unqS ⟨(t.drop (eqPos t + 1)).toArray⟩).1) else none)
  else none
/-- the parameters of pieces, if none is wrong -/
def parsOf : List (List UInt8) → Option (List (List UInt8 × List UInt8))
  | [] => some []
  | p :: ps => match paramOf p with
    | none => none
    | some x => (parsOf ps).map (fun l => x :: l)
theorem parsOf_snoc (ps : List (List UInt8)) (p : List UInt8) : parsOf (ps ++ [p]) = (parsOf ps).bind (fun l => (paramOf p).map (fun x => l ++ [x])) := by
  induction ps with
  | nil =>
    simp only [List.nil_append, parsOf]
    cases h : paramOf p with
    | none => rfl
    | some x => rfl
  | cons q ps ih =>
    rw [List.cons_append, parsOf, parsOf, ih]
    cases h : paramOf q with
    | none => rfl
    | some x =>
      cases h2 : parsOf ps with
      | none => rfl
      | some l => cases h3 : paramOf p <;> simp
theorem parsOf_prefix_none (ps qs : List (List UInt8)) (h : parsOf ps = none) : parsOf (ps ++ qs) = none := by
  induction ps with
  | nil => simp [parsOf] at h
  | cons q ps ih =>
    rw [List.cons_append, parsOf]
    rw [parsOf] at h
    cases e : paramOf q with
    | none => rfl
    | some x =>
      rw [e] at h
      simp at h
      simp [ih h]
theorem unqS_err (s : ByteArray) : (unqS s).2 = 0 ∨ (unqS s).2 = 11 := by
  unfold unqS
  split
  · unfold unqR; split <;> simp
  · simp
theorem unqI_len : ∀ (n : Nat) (L o : List UInt8), L.length ≤ n → unqI L = some o → o.length ≤ L.length := by
  intro n
  induction n with
  | zero =>
    intro L o h e
    obtain rfl : L = [] := List.eq_nil_of_length_eq_zero (by omega)
    simp [unqI] at e; subst e; simp
  | succ n ih =>
    intro L o h e
    match L, h, e with
    | [], _, e => simp [unqI] at e; subst e; simp
    | [c], _, e =>
      rw [unqI] at e
      split at e
      · cases e
      · split at e
        · cases e
        · split at e
          · simp at e; subst e; simp
          · cases e
    | c :: d :: r, h, e =>
      rw [unqI] at e
      split at e
      · split at e
        · cases e2 : unqI r with
          | none => rw [e2] at e; simp at e
          | some x => rw [e2] at e; simp at e; subst e; have := ih r x (by simp at h; omega) e2; simp; omega
        · cases e
      · split at e
        · cases e
        · split at e
          · cases e2 : unqI (d :: r) with
            | none => rw [e2] at e; simp at e
            | some x => rw [e2] at e; simp at e; subst e; have := ih (d :: r) x (by simp at h ⊢; omega) e2; simp at this ⊢; omega
          · cases e
end Go.Proofs.YtegdbieieacalaaDoor
