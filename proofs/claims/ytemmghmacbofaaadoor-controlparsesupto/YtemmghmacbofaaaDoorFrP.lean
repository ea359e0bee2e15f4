/- Plain: the number that an element tells; the lengths' rule, the codings', the fields'; what folding leaves of a number. Nothing of the program is named here. -/
import Derived.Test.YtemmghmacbofaaaDoorTks
namespace Go.Proofs.YtemmghmacbofaaaDoor
open Go.RowKit
def digF (c : UInt8) : Bool := decide (48 ≤ c.toNat ∧ c.toNat ≤ 57)
/-- one to 18 digits -/
def isNum (l : List UInt8) : Bool := decide (1 ≤ l.length) && decide (l.length ≤ 18) && l.all digF
def numA (acc : Nat) (l : List UInt8) : Nat := l.foldl (fun a c => a * 10 + (c.toNat - 48)) acc
theorem numA_nil (acc : Nat) : numA acc [] = acc := by unfold numA; rw [List.foldl_nil]
theorem numA_cons (acc : Nat) (c : UInt8) (r : List UInt8) : numA acc (c :: r) = numA (acc * 10 + (c.toNat - 48)) r := by unfold numA; rw [List.foldl_cons]
def numF (l : List UInt8) : Nat := numA 0 l
/-- the number, or -1 -/
def numR (l : List UInt8) : Int := if isNum l = true then (numF l : Int) else -1
def lensOf : List (List UInt8) → Int × Int × Int
  | [] => (0, 0, 60)
  | x :: r => if (isNum x && r.all (fun y => isNum y && decide (numF y = numF x))) = true then (if 65536 < numF x then (0, 0, 71) else (1, (numF x : Int), 0)) else (0, 0, 60)
def chunkedB : List UInt8 := [99, 104, 117, 110, 107, 101, 100]
def codOf (minor : Int) (ws : List (List UInt8)) : Int × Int × Int := if minor = 0 ∨ ¬ ws = [chunkedB] then (0, 0, 62) else (2, 0, 0)
def TEb : List UInt8 := [84, 114, 97, 110, 115, 102, 101, 114, 45, 69, 110, 99, 111, 100, 105, 110, 103]
def CLb : List UInt8 := [67, 111, 110, 116, 101, 110, 116, 45, 76, 101, 110, 103, 116, 104]
def COb : List UInt8 := [67, 111, 110, 110, 101, 99, 116, 105, 111, 110]
def teb : List UInt8 := [116, 114, 97, 110, 115, 102, 101, 114, 45, 101, 110, 99, 111, 100, 105, 110, 103]
def clb : List UInt8 := [99, 111, 110, 116, 101, 110, 116, 45, 108, 101, 110, 103, 116, 104]
def cob : List UInt8 := [99, 111, 110, 110, 101, 99, 116, 105, 111, 110]
def closeB : List UInt8 := [99, 108, 111, 115, 101]
def keepB : List UInt8 := [107, 101, 101, 112, 45, 97, 108, 105, 118, 101]
/-- the fields' rule: kind, length, error; silent is the kind where the fields tell none -/
def ruleOf (minor : Int) (fs : FL) (silent : Int) : Int × Int × Int :=
  if 0 < (valsOf fs TEb).length ∧ 0 < (valsOf fs CLb).length then (0, 0, 61)
  else if 0 < (valsOf fs TEb).length then codOf minor (toksOf (valsOf fs TEb))
  else if 0 < (valsOf fs CLb).length then lensOf (toksOf (valsOf fs CLb))
  else (silent, 0, 0)
def headB : List UInt8 := [72, 69, 65, 68]
def connB : List UInt8 := [67, 79, 78, 78, 69, 67, 84]
def bareOf (s : Int) (m : List UInt8) : Bool := decide (m = headB ∨ (100 ≤ s ∧ s ≤ 199) ∨ s = 204 ∨ s = 304 ∨ (m = connB ∧ 200 ≤ s ∧ s ≤ 299))
def fresOf (s minor : Int) (fs : FL) (m : List UInt8) : Int × Int × Int := if bareOf s m = true then (0, 0, 0) else ruleOf minor fs 3
def lastOf (minor : Int) (ws : List (List UInt8)) : Bool := decide (closeB ∈ ws) || (decide (minor = 0) && ! decide (keepB ∈ ws))
theorem vals_low {n m : List UInt8} (h : lows n = lows m) (fs : FL) : valsOf fs n = valsOf fs m := by unfold valsOf; rw [h]
theorem vals_te (fs : FL) : valsOf fs teb = valsOf fs TEb := vals_low (by decide) fs
theorem vals_cl (fs : FL) : valsOf fs clb = valsOf fs CLb := vals_low (by decide) fs
theorem vals_co (fs : FL) : valsOf fs cob = valsOf fs COb := vals_low (by decide) fs
theorem dig_low : ∀ n : Fin 256, digF (low (UInt8.ofNat n.val)) = digF (UInt8.ofNat n.val) ∧ (digF (UInt8.ofNat n.val) = true → low (UInt8.ofNat n.val) = UInt8.ofNat n.val) := by decide +kernel
theorem dig_low' (c : UInt8) : digF (low c) = digF c ∧ (digF c = true → low c = c) := by
  have h := dig_low ⟨c.toNat, c.toNat_lt⟩
  simp only [UInt8.ofNat_toNat] at h
  exact h
theorem all_low (l : List UInt8) : (lows l).all digF = l.all digF := by
  induction l with
  | nil => rfl
  | cons c r ih =>
    have e : lows (c :: r) = low c :: lows r := rfl
    rw [e, List.all_cons, List.all_cons, ih, (dig_low' c).1]
theorem isNum_low (l : List UInt8) : isNum (lows l) = isNum l := by
  have e : (lows l).length = l.length := by simp [lows]
  unfold isNum; rw [all_low, e]
theorem lows_dig (l : List UInt8) (h : l.all digF = true) : lows l = l := by
  induction l with
  | nil => rfl
  | cons c r ih =>
    rw [List.all_cons, Bool.and_eq_true] at h
    have e : lows (c :: r) = low c :: lows r := rfl
    rw [e, ih h.2, (dig_low' c).2 h.1]
theorem isNum_parts {l : List UInt8} (h : isNum l = true) : 1 ≤ l.length ∧ l.length ≤ 18 ∧ l.all digF = true := by
  unfold isNum at h
  simp only [Bool.and_eq_true, decide_eq_true_eq] at h
  exact ⟨h.1.1, h.1.2, h.2⟩
theorem numF_low {l : List UInt8} (h : isNum l = true) : numF (lows l) = numF l := by rw [lows_dig l (isNum_parts h).2.2]
theorem lens_low (els : List (List UInt8)) : lensOf (els.map lows) = lensOf els := by
  cases els with
  | nil => rfl
  | cons x r =>
    rw [List.map_cons]
    simp only [lensOf]
    rw [isNum_low]
    cases hx : isNum x with
    | false => rfl
    | true =>
      have e : (r.map lows).all (fun y => isNum y && decide (numF y = numF (lows x))) = r.all (fun y => isNum y && decide (numF y = numF x)) := by
        rw [List.all_map]
        congr 1
        funext y
        simp only [Function.comp, isNum_low, numF_low hx]
        cases hy : isNum y with
        | false => rfl
        | true => rw [numF_low hy]
      rw [e, numF_low hx]
theorem lens_toks (vs : List (List UInt8)) : lensOf (toksOf vs) = lensOf (vs.flatMap listOf) := lens_low _
theorem numA_bound (l : List UInt8) : ∀ acc, l.all digF = true → numA acc l < (acc + 1) * 10 ^ l.length := by
  induction l with
  | nil =>
    intro acc _
    rw [List.length_nil, Nat.pow_zero, Nat.mul_one, numA_nil]
    exact Nat.lt_succ_self acc
  | cons c r ih =>
    intro acc h
    rw [List.all_cons, Bool.and_eq_true] at h
    have h1 := ih (acc * 10 + (c.toNat - 48)) h.2
    have h2 : c.toNat - 48 ≤ 9 := by
      have := h.1
      unfold digF at this
      simp at this; omega
    have h3 : (acc * 10 + (c.toNat - 48) + 1) * 10 ^ r.length ≤ ((acc + 1) * 10) * 10 ^ r.length := Nat.mul_le_mul_right _ (by omega)
    rw [List.length_cons, Nat.pow_succ, Nat.mul_comm (10 ^ r.length) 10, ← Nat.mul_assoc, numA_cons]
    exact Nat.lt_of_lt_of_le h1 h3
theorem numF_bound {l : List UInt8} (h : isNum l = true) : numF l < 1000000000000000000 := by
  obtain ⟨_, h2, h3⟩ := isNum_parts h
  have h1 := numA_bound l 0 h3
  have h4 : (10 : Nat) ^ l.length ≤ 10 ^ 18 := Nat.pow_le_pow_right (by decide) h2
  rw [Nat.zero_add, Nat.one_mul] at h1
  exact Nat.lt_of_lt_of_le h1 h4
theorem toks_le (fs : FL) (nm : List UInt8) (hb : bulkF fs ≤ 1048576) : (toksOf (valsOf fs nm)).length ≤ 1048576 := by
  have h1 := toks_len (valsOf fs nm)
  have h2 := bulk_vals fs nm
  omega
end Go.Proofs.YtemmghmacbofaaaDoor
