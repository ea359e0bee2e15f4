/- The contracts of a record's numbers: isOp, fits, opOf, number, appendNumber; the document's Value. -/
import Derived.Test.YtnbidckmekmcfaaRcS
namespace Go.Proofs.Ytnbidckmekmcfaa
open Go.RowKit
theorem ofInt_i64 (a : Nat) (ha : a < 4611686018427387904) : (BitVec.ofInt 64 (a : Int)).toNat = a := by
  rw [BitVec.ofInt_natCast, BitVec.toNat_ofNat]; exact Nat.mod_eq_of_lt (by omega)
theorem i64_or_nat (a b : Nat) (ha : a < 4611686018427387904) (hb : b < 4611686018427387904) : bits .or .i64 (a : Int) (b : Int) = ((a ||| b : Nat) : Int) := by
  have hx : a ||| b < 2 ^ 62 := Nat.or_lt_two_pow (by omega) (by omega)
  show IntKind.i64.wrap ((BitVec.ofInt 64 (a : Int) ||| BitVec.ofInt 64 (b : Int)).toNat : Int) = _
  rw [BitVec.toNat_or, ofInt_i64 a ha, ofInt_i64 b hb, IntKind.wrap_i64]
  omega
theorem i64_and_nat (a b : Nat) (ha : a < 4611686018427387904) (hb : b < 4611686018427387904) : bits .and .i64 (a : Int) (b : Int) = ((a &&& b : Nat) : Int) := by
  have hx : a &&& b < 2 ^ 62 := Nat.and_lt_two_pow _ (by omega)
  show IntKind.i64.wrap ((BitVec.ofInt 64 (a : Int) &&& BitVec.ofInt 64 (b : Int)).toNat : Int) = _
  rw [BitVec.toNat_and, ofInt_i64 a ha, ofInt_i64 b hb, IntKind.wrap_i64]
  omega
theorem or_byte (a : Nat) (c : UInt8) (ha : a < 4503599627370496) : bits .or .i64 ((a : Int) * 256) (c.toNat : Int) = ((a * 256 + c.toNat : Nat) : Int) := by
  have h := c.toNat_lt
  have e : (a : Int) * 256 = ((a * 256 : Nat) : Int) := by omega
  rw [e, i64_or_nat _ _ (by omega) (by omega), Nat.mul_comm a 256]
  exact congrArg _ (Nat.two_pow_add_eq_or_of_lt (i := 8) (by omega) a).symm
theorem and_255 (a : Nat) (ha : a < 4503599627370496) : bits .and .i64 (a : Int) 255 = ((a % 256 : Nat) : Int) := by
  refine (i64_and_nat a 255 (by omega) (by omega)).trans ?_
  exact congrArg _ (Nat.and_two_pow_sub_one_eq_mod a 8)
theorem isOpC (op : Int) (w : World) : Calls Try.prog 20 #[.int .i64 op] w fun e w' => e = .returned (.bool (decide (op = 1 ∨ op = 2))) ∧ w' = w := by
  by_cases h1 : op = 1
  · subst h1
    go_enter Try.func20, Try.ntmps20
    go_wp2
    go_ret
    exact ⟨rfl, rfl⟩
  · by_cases h2 : op = 2
    · subst h2
      go_enter Try.func20, Try.ntmps20
      go_wp2
      go_ret
      exact ⟨rfl, rfl⟩
    · have H : Hid (decide (op = 1 ∨ op = 2) = false) := by unfold Hid; simp; omega
      have b1 : (op == 1) = false := by simpa using h1
      have b2 : (op == 2) = false := by simpa using h2
      go_enter Try.func20, Try.ntmps20
      go_wp2
      go_ret
      try rw [H.out]
      exact ⟨rfl, rfl⟩
theorem fitsC (n : Int) (w : World) : Calls Try.prog 21 #[.int .i64 n] w fun e w' => e = .returned (.bool (decide (0 ≤ n ∧ n ≤ 4294967295))) ∧ w' = w := by
  by_cases h1 : 0 ≤ n
  · by_cases h2 : n ≤ 4294967295
    · have H : Hid (decide (0 ≤ n ∧ n ≤ 4294967295) = true) := by unfold Hid; simp; omega
      have b1 : decide (0 ≤ n) = true := by simpa using h1
      have b2 : decide (n ≤ 4294967295) = true := by simpa using h2
      go_enter Try.func21, Try.ntmps21
      go_wp2
      go_ret
      try rw [H.out]
      exact ⟨rfl, rfl⟩
    · have H : Hid (decide (0 ≤ n ∧ n ≤ 4294967295) = false) := by unfold Hid; simp; omega
      have b1 : decide (0 ≤ n) = true := by simpa using h1
      have b2 : decide (n ≤ 4294967295) = false := by simpa using h2
      go_enter Try.func21, Try.ntmps21
      go_wp2
      go_ret
      try rw [H.out]
      exact ⟨rfl, rfl⟩
  · have H : Hid (decide (0 ≤ n ∧ n ≤ 4294967295) = false) := by unfold Hid; simp; omega
    have b1 : decide (0 ≤ n) = false := by simpa using h1
    go_enter Try.func21, Try.ntmps21
    go_wp2
    go_ret
    try rw [H.out]
    exact ⟨rfl, rfl⟩
theorem opOfC (c : Int) (h0 : 0 ≤ c) (h1 : c ≤ 255) (w : World) : Calls Try.prog 26 #[.int .u8 c] w fun e w' => e = .returned (.int .i64 (c - 192)) ∧ w' = w := by
  go_enter Try.func26, Try.ntmps26
  go_wp2
  go_ret
  exact ⟨by first | rfl | (congr 2; go_num), rfl⟩
set_option maxRecDepth 20000 in
set_option maxHeartbeats 1000000 in
theorem numberC (v : Value) (bs : List UInt8) (w : World) (hv : HoldsB w v bs) (hl : bs.length ≤ 4) :
    Calls Try.prog 25 #[v] w fun e w' => e = .returned (.int .i64 (valN bs : Int)) ∧ w' = w := by
  obtain ⟨ao, cap, rfl, _, _, hc⟩ := hv
  have HC := hide' hc
  obtain ⟨n, hn⟩ : ∃ n, n = bs.length := ⟨_, rfl⟩
  have N1 : Hid (bs.length = n) := hn.symm
  have ln : n ≤ 4 := by omega
  rw [N1.out]
  clear hc hl hn
  go_enter Try.func25, Try.ntmps25
  go_wp2
  go_loopw [3, 8] (fun s i wr => ∃ k : Nat, k ≤ n ∧ i = .int .i64 k ∧ Hid (wr = w) ∧ ∃ v : Nat, Hid (v < 256 ^ k) ∧ s = .int .i64 v ∧ Hid (v = valN (bs.take k))) (fun _ i _ => n - (intOf i).toNat)
  case atStart => exact ⟨0, by omega, rfl, rfl, 0, by unfold Hid; decide, rfl, rfl⟩
  case round =>
    obtain ⟨k, hk, rfl, hw, v, hv, rfl, hV⟩ := hrel
    have hw' := hw.out.symm
    subst hw'
    by_cases hlt : k < n
    · have G1 : Hid (k < bs.length) := by unfold Hid; rw [N1.out]; exact hlt
      obtain ⟨b, off, e, hb, hcell⟩ := HC.out (fun e => by have := G1.out; rw [e] at this; exact absurd this (Nat.not_lt_zero _))
      subst e
      have x1 := hcell k G1.out
      unfold B at x1
      have E : Hid (v * 256 + (bs[k]'G1.out).toNat = valN (bs.take (k + 1))) := by
        unfold Hid; rw [List.take_succ_eq_append_getElem G1.out, valN_snoc, ← hV.out]
      have hvl : v < 16777216 := Nat.lt_of_lt_of_le hv.out (Nat.le_trans (Nat.pow_le_pow_right (by decide) (show k ≤ 3 by omega)) (by decide))
      have hx := or_byte v (bs[k]'G1.out) (by omega)
      have hcl : ((bs[k]'G1.out).toNat : Int) ≤ 255 := (byte_lt _).2
      have E2 : Hid (v * 256 + (bs[k]'G1.out).toNat < 256 ^ (k + 1)) := by
        unfold Hid; have := hv.out; have := (bs[k]'G1.out).toNat_lt; rw [Nat.pow_succ]; omega
      generalize (bs[k]'G1.out).toNat = c at x1 E hx hcl E2
      have hy : v * 256 + c < 4294967296 := by omega
      generalize v * 256 + c = y at E E2 hx hy
      clear hV hcell hv
      go_wp2
      go_roundw
      case rel => exact ⟨k + 1, by omega, by go_num, (by unfold Hid; first | trivial | rfl), y, E2, by first | rfl | (congr 1), E⟩
      case measure => simp [intOf]; omega
    · have E : Hid (valN bs = v) := by
        unfold Hid; rw [hV.out, List.take_of_length_le (by rw [N1.out]; omega)]
      go_wp2
      go_ret
      rw [E.out]
      exact ⟨rfl, rfl⟩
set_option maxRecDepth 20000 in
set_option maxHeartbeats 1000000 in
theorem valueRC (v : Value) (bs : List UInt8) (w : World) (hv : HoldsB w v bs) (hl : bs.length ≤ 4) :
    Calls Try.prog 27 #[v] w fun e w' => e = .returned (.int .i64 (valN bs : Int)) ∧ w' = w := by
  obtain ⟨ao, cap, rfl, _, _, hc⟩ := hv
  have HC := hide' hc
  obtain ⟨n, hn⟩ : ∃ n, n = bs.length := ⟨_, rfl⟩
  have N1 : Hid (bs.length = n) := hn.symm
  have ln : n ≤ 4 := by omega
  rw [N1.out]
  clear hc hl hn
  go_enter Try.func27, Try.ntmps27
  go_wp2
  go_loopw [3, 4] (fun s i wr => ∃ k : Nat, k ≤ n ∧ i = .int .i64 k ∧ Hid (wr = w) ∧ ∃ v : Nat, Hid (v < 256 ^ k) ∧ s = .int .i64 v ∧ Hid (v = valN (bs.take k))) (fun _ i _ => n - (intOf i).toNat)
  case atStart => exact ⟨0, by omega, rfl, rfl, 0, by unfold Hid; decide, rfl, rfl⟩
  case round =>
    obtain ⟨k, hk, rfl, hw, v, hv, rfl, hV⟩ := hrel
    have hw' := hw.out.symm
    subst hw'
    by_cases hlt : k < n
    · have G1 : Hid (k < bs.length) := by unfold Hid; rw [N1.out]; exact hlt
      obtain ⟨b, off, e, hb, hcell⟩ := HC.out (fun e => by have := G1.out; rw [e] at this; exact absurd this (Nat.not_lt_zero _))
      subst e
      have x1 := hcell k G1.out
      unfold B at x1
      have E : Hid (v * 256 + (bs[k]'G1.out).toNat = valN (bs.take (k + 1))) := by
        unfold Hid; rw [List.take_succ_eq_append_getElem G1.out, valN_snoc, ← hV.out]
      have hvl : v < 16777216 := Nat.lt_of_lt_of_le hv.out (Nat.le_trans (Nat.pow_le_pow_right (by decide) (show k ≤ 3 by omega)) (by decide))
      have hcl : ((bs[k]'G1.out).toNat : Int) ≤ 255 := (byte_lt _).2
      have E2 : Hid (v * 256 + (bs[k]'G1.out).toNat < 256 ^ (k + 1)) := by
        unfold Hid; have := hv.out; have := (bs[k]'G1.out).toNat_lt; rw [Nat.pow_succ]; omega
      generalize (bs[k]'G1.out).toNat = c at x1 E hcl E2
      clear hV hcell hv
      go_wp2
      go_roundw
      case rel => exact ⟨k + 1, by omega, by go_num, (by unfold Hid; first | trivial | rfl), v * 256 + c, E2, by first | rfl | go_num | (congr 1; omega), E⟩
      case measure => simp [intOf]; omega
    · have E : Hid (valN bs = v) := by
        unfold Hid; rw [hV.out, List.take_of_length_le (by rw [N1.out]; omega)]
      go_wp2
      go_ret
      rw [E.out]
      exact ⟨rfl, rfl⟩
end Go.Proofs.Ytnbidckmekmcfaa
