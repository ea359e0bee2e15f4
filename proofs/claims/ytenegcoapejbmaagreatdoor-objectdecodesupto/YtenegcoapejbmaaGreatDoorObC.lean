/- The contract of object.number. -/
import Derived.Test.YtenegcoapejbmaaGreatDoorObB
namespace Go.Proofs.YtenegcoapejbmaaGreatDoor
open Go.RowKit
/-- a number as an int of 64 bits -/
def sg (v : Nat) : Int := if v < 9223372036854775808 then (v : Int) else (v : Int) - 18446744073709551616
theorem or_sg (v c : Nat) (hv : v < 72057594037927936) (hc : c ≤ 255) : bits .or .i64 (wrap64 ((v : Int) * 256)) (c : Int) = sg (v * 256 + c) := by
  have e1 : (BitVec.ofInt 64 (wrap64 ((v : Int) * 256))).toNat = v * 256 := by
    rw [BitVec.toNat_ofInt]; unfold wrap64; omega
  show IntKind.i64.wrap ((BitVec.ofInt 64 (wrap64 ((v : Int) * 256)) ||| BitVec.ofInt 64 (c : Int)).toNat : Int) = _
  rw [BitVec.toNat_or, e1, ofInt_i64 c (by omega), Nat.mul_comm v 256, ← Nat.two_pow_add_eq_or_of_lt (i := 8) (by omega) v, IntKind.wrap_i64]
  unfold sg
  split <;> omega
set_option maxRecDepth 20000 in
set_option maxHeartbeats 1000000 in
theorem numOC (v : Value) (bs : List UInt8) (w : World) (hv : HoldsB w v bs) (hl : bs.length ≤ 8) :
    Calls Tryz.prog 27 #[v] w fun e w' => e = .returned (.int .i64 (sg (valN bs))) ∧ w' = w := by
  obtain ⟨ao, cap, rfl, _, _, hc⟩ := hv
  have HC := hide' hc
  obtain ⟨n, hn⟩ : ∃ n, n = bs.length := ⟨_, rfl⟩
  have N1 : Hid (bs.length = n) := hn.symm
  have ln : n ≤ 8 := by omega
  rw [N1.out]
  clear hc hl hn
  go_enter Tryz.func27, Tryz.ntmps27
  go_wp2
  go_loopw [3, 8] (fun s i wr => ∃ k : Nat, k ≤ n ∧ i = .int .i64 k ∧ Hid (wr = w) ∧ ∃ (v : Nat) (z : Int), Hid (v < 256 ^ k) ∧ s = .int .i64 z ∧ Hid (z = sg v) ∧ Hid (v = valN (bs.take k))) (fun _ i _ => n - (intOf i).toNat)
  case atStart => exact ⟨0, by omega, rfl, rfl, 0, 0, by unfold Hid; decide, rfl, rfl, rfl⟩
  case round =>
    obtain ⟨k, hk, rfl, hw, v, z, hv, rfl, hz, hV⟩ := hrel
    have hw' := hw.out.symm
    subst hw'
    by_cases hlt : k < n
    · have G1 : Hid (k < bs.length) := by unfold Hid; rw [N1.out]; exact hlt
      obtain ⟨b, off, e, hb, hcell⟩ := HC.out (fun e => by have := G1.out; rw [e] at this; exact absurd this (Nat.not_lt_zero _))
      subst e
      have x1 := hcell k G1.out
      unfold B at x1
      have E : Hid (v * 256 + (bs[k]'G1.out).toNat = valN (bs.take (k + 1))) := by
        unfold Hid; rw [List.take_succ_eq_append_getElem G1.out, valN_snoc, ← hV.out]
      have hvl : v < 72057594037927936 := Nat.lt_of_lt_of_le hv.out (Nat.le_trans (Nat.pow_le_pow_right (by decide) (show k ≤ 7 by omega)) (by decide))
      have hzv : z = (v : Int) := by have := hz.out; unfold sg at this; rw [if_pos (by omega)] at this; exact this
      subst hzv
      have hcl : ((bs[k]'G1.out).toNat : Int) ≤ 255 := (byte_lt _).2
      have E2 : Hid (v * 256 + (bs[k]'G1.out).toNat < 256 ^ (k + 1)) := by
        unfold Hid; have := hv.out; have := (bs[k]'G1.out).toNat_lt; rw [Nat.pow_succ]; omega
      generalize (bs[k]'G1.out).toNat = c at x1 E hcl E2
      have hx := hide' (or_sg v c hvl (by omega))
      clear hV hcell hv hz
      go_wp2
      go_roundw
      case rel => exact ⟨k + 1, by omega, by go_num, (by unfold Hid; first | trivial | rfl), v * 256 + c, sg (v * 256 + c), E2, by rw [hx.out], rfl, E⟩
      case measure => simp [intOf]; omega
    · have E : Hid (valN bs = v) := by
        unfold Hid; rw [hV.out, List.take_of_length_le (by rw [N1.out]; omega)]
      go_wp2
      go_ret
      rw [E.out, ← hz.out]
      exact ⟨rfl, rfl⟩
theorem num8_sg (l : List UInt8) : num8 l = sg (valN l) := rfl
theorem sg_small {v : Nat} (h : v < 9223372036854775808) : sg v = (v : Int) := if_pos h
end Go.Proofs.YtenegcoapejbmaaGreatDoor
