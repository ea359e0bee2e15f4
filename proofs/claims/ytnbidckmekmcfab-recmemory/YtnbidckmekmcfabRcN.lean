/- The contracts of a record's numbers: isOp, fits, opOf, number, appendNumber; the document's Value. -/
import Derived.Test.YtnbidckmekmcfabRcS
namespace Go.Proofs.Ytnbidckmekmcfab
open Go.RowKit
theorem ofInt_i64 (a : Nat) (ha : a < 4611686018427387904) : (BitVec.ofInt 64 (a : Int)).toNat = a := by
  rw [BitVec.ofInt_natCast, BitVec.toNat_ofNat]; exact Nat.mod_eq_of_lt (by omega)
theorem i64_or_nat (a b : Nat) (ha : a < 4611686018427387904) (hb : b < 4611686018427387904) : bits .or .i64 (a : Int) (b : Int) = ((a ||| b : Nat) : Int) := by
  have hx : a ||| b < 2 ^ 62 := Nat.or_lt_two_pow (by omega) (by omega)
  show IntKind.i64.wrap ((BitVec.ofInt 64 (a : Int) ||| BitVec.ofInt 64 (b : Int)).toNat : Int) = _
  rw [BitVec.toNat_or, ofInt_i64 a ha, ofInt_i64 b hb, IntKind.wrap_i64]
  omega
theorem i64_and_nat (a b : Nat) (ha : a < 4611686018427387904) (hb : b < 4611686018427387904) : bits .and .i64 (a : Int) (b : Int) = ((a &&& b : Nat) : Int) := by
  have hx : a &&& b < 2 ^ 62 := Nat.and_lt_two_pow _ (by omega)
  show IntKind.i64.wrap ((BitVec.ofInt 64 (a : Int) &&& BitVec.ofInt 64 (b : Int)).toNat : Int) = _
  rw [BitVec.toNat_and, ofInt_i64 a ha, ofInt_i64 b hb, IntKind.wrap_i64]
  omega
theorem or_byte (a : Nat) (c : UInt8) (ha : a < 4503599627370496) : bits .or .i64 ((a : Int) * 256) (c.toNat : Int) = ((a * 256 + c.toNat : Nat) : Int) := by
  have h := c.toNat_lt
  have e : (a : Int) * 256 = ((a * 256 : Nat) : Int) := by omega
  rw [e, i64_or_nat _ _ (by omega) (by omega), Nat.mul_comm a 256]
  exact congrArg _ (Nat.two_pow_add_eq_or_of_lt (i := 8) (by omega) a).symm
theorem and_255 (a : Nat) (ha : a < 4503599627370496) : bits .and .i64 (a : Int) 255 = ((a % 256 : Nat) : Int) := by
  refine (i64_and_nat a 255 (by omega) (by omega)).trans ?_
  exact congrArg _ (Nat.and_two_pow_sub_one_eq_mod a 8)
theorem isOpC (op : Int) (w : World) : Calls Try.prog 10 #[.int .i64 op] w fun e w' => e = .returned (.bool (decide (op = 1 ∨ op = 2))) ∧ w' = w := by
  by_cases h1 : op = 1
  · subst h1
    go_enter Try.func10, Try.ntmps10
    go_wp2
    go_ret
    exact ⟨rfl, rfl⟩
  · by_cases h2 : op = 2
    · subst h2
      go_enter Try.func10, Try.ntmps10
      go_wp2
      go_ret
      exact ⟨rfl, rfl⟩
    · have H : Hid (decide (op = 1 ∨ op = 2) = false) := by unfold Hid; simp; omega
      have b1 : (op == 1) = false := by simpa using h1
      have b2 : (op == 2) = false := by simpa using h2
      go_enter Try.func10, Try.ntmps10
      go_wp2
      go_ret
      try rw [H.out]
      exact ⟨rfl, rfl⟩
theorem fitsC (n : Int) (w : World) : Calls Try.prog 11 #[.int .i64 n] w fun e w' => e = .returned (.bool (decide (0 ≤ n ∧ n ≤ 4294967295))) ∧ w' = w := by
  by_cases h1 : 0 ≤ n
  · by_cases h2 : n ≤ 4294967295
    · have H : Hid (decide (0 ≤ n ∧ n ≤ 4294967295) = true) := by unfold Hid; simp; omega
      have b1 : decide (0 ≤ n) = true := by simpa using h1
      have b2 : decide (n ≤ 4294967295) = true := by simpa using h2
      go_enter Try.func11, Try.ntmps11
      go_wp2
      go_ret
      try rw [H.out]
      exact ⟨rfl, rfl⟩
    · have H : Hid (decide (0 ≤ n ∧ n ≤ 4294967295) = false) := by unfold Hid; simp; omega
      have b1 : decide (0 ≤ n) = true := by simpa using h1
      have b2 : decide (n ≤ 4294967295) = false := by simpa using h2
      go_enter Try.func11, Try.ntmps11
      go_wp2
      go_ret
      try rw [H.out]
      exact ⟨rfl, rfl⟩
  · have H : Hid (decide (0 ≤ n ∧ n ≤ 4294967295) = false) := by unfold Hid; simp; omega
    have b1 : decide (0 ≤ n) = false := by simpa using h1
    go_enter Try.func11, Try.ntmps11
    go_wp2
    go_ret
    try rw [H.out]
    exact ⟨rfl, rfl⟩
end Go.Proofs.Ytnbidckmekmcfab
