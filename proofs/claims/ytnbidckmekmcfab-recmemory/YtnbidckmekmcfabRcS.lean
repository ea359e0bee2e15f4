/- The contracts of the check sum: shifted, Sum, and the document's Sum. -/
import Derived.Test.YtnbidckmekmcfabRcP
import Derived.Test.YtnbidckmekmcfabCpB
import Derived.Laws.BitsAllLaws
namespace Go.Proofs.Ytnbidckmekmcfab
open Go.RowKit
theorem crc_odd {v : Nat} (h : v < 4294967296) (ho : v % 2 = 1) : bits .xor .u32 ((v : Int) / 2) 3988292384 = (crcB v : Int) := by
  have e : ((v : Int) / 2) = ((v / 2 : Nat) : Int) := by omega
  rw [e]
  refine (u32_xor_nat (v / 2) 3988292384 (by omega) (by omega)).trans ?_
  unfold crcB
  rw [if_pos ho]
theorem crc_even {v : Nat} (ho : ¬ v % 2 = 1) : ((v : Int) / 2) = (crcB v : Int) := by
  unfold crcB
  rw [if_neg ho]
  omega
theorem and_one {v : Nat} (h : v < 4294967296) : bits .and .u32 (v : Int) 1 = ((v % 2 : Nat) : Int) := by
  refine (u32_and_nat v 1 h (by omega)).trans ?_
  rw [Nat.and_one_is_mod]
theorem xor_byte {v : Nat} (h : v < 4294967296) (c : UInt8) : bits .xor .u32 (v : Int) (c.toNat : Int) = ((v ^^^ c.toNat : Nat) : Int) :=
  u32_xor_nat v c.toNat h (by have := c.toNat_lt; omega)
theorem xor_ones {v : Nat} (h : v < 4294967296) : bits .xor .u32 (v : Int) 4294967295 = ((v ^^^ 4294967295 : Nat) : Int) :=
  u32_xor_nat v 4294967295 h (by omega)
theorem ones_xor {v : Nat} (h : v < 4294967296) : bits .xor .u32 IntKind.u32.max (v : Int) = ((v ^^^ 4294967295 : Nat) : Int) := by
  rw [Nat.xor_comm]
  exact u32_xor_nat 4294967295 v (by omega) h
set_option maxHeartbeats 400000 in
theorem shiftedC (v : Nat) (h : v < 4294967296) (w : World) :
    Calls Try.prog 15 #[.int .u32 (v : Int)] w fun e w' => e = .returned (.int .u32 (crcB v : Int)) ∧ w' = w := by
  have a1 := and_one h
  by_cases ho : v % 2 = 1
  · rw [ho] at a1
    have a2 := crc_odd h ho
    generalize crcB v = y at a2 ⊢
    go_enter Try.func15, Try.ntmps15
    go_wp2
    go_ret
    exact ⟨rfl, rfl⟩
  · have a3 : v % 2 = 0 := by omega
    rw [a3] at a1
    have a2 := crc_even ho
    generalize crcB v = y at a2 ⊢
    go_enter Try.func15, Try.ntmps15
    go_wp2
    go_ret
    exact ⟨rfl, rfl⟩
set_option maxRecDepth 20000 in
set_option maxHeartbeats 1000000 in
theorem sumC (v : Value) (bs : List UInt8) (w : World) (hv : HoldsB w v bs) (hl : bs.length ≤ 1000000000000000) :
    Calls Try.prog 9 #[v] w fun e w' => e = .returned (.int .i64 (sumOf bs : Int)) ∧ w' = w := by
  obtain ⟨ao, cap, rfl, _, _, hc⟩ := hv
  have HC := hide' hc
  obtain ⟨n, hn⟩ : ∃ n, n = bs.length := ⟨_, rfl⟩
  have N1 : Hid (bs.length = n) := hn.symm
  have ln : n ≤ 1000000000000000 := by omega
  rw [N1.out]
  clear hc hl hn
  go_enter Try.func9, Try.ntmps9
  go_wp2
  go_loopw [3, 8] (fun s i wr => ∃ k : Nat, k ≤ n ∧ i = .int .i64 k ∧ Hid (wr = w) ∧ ∃ v : Nat, v < 4294967296 ∧ s = .int .u32 v ∧ Hid (v = crcL 4294967295 (bs.take k))) (fun _ i _ => n - (intOf i).toNat)
  case atStart => exact ⟨0, by omega, rfl, rfl, 4294967295, by decide, rfl, rfl⟩
  case round =>
    obtain ⟨k, hk, rfl, hw, v, hv, rfl, hV⟩ := hrel
    have hw' := hw.out.symm
    subst hw'
    by_cases hlt : k < n
    · have G1 : Hid (k < bs.length) := by unfold Hid; rw [N1.out]; exact hlt
      obtain ⟨b, off, e, hb, hcell⟩ := HC.out (fun e => by have := G1.out; rw [e] at this; exact absurd this (Nat.not_lt_zero _))
      subst e
      have x1 := hcell k G1.out
      unfold B at x1
      have E : Hid (crcL 4294967295 (bs.take (k + 1)) = crcN 8 (v ^^^ (bs[k]'G1.out).toNat)) := by
        unfold Hid; rw [List.take_succ_eq_append_getElem G1.out, crcL_snoc, ← hV.out]; rfl
      have hx := xor_byte hv (bs[k]'G1.out)
      have hxl := crcX_lt hv (bs[k]'G1.out)
      have hcl : ((bs[k]'G1.out).toNat : Int) ≤ 255 := (byte_lt _).2
      generalize (bs[k]'G1.out).toNat = c at x1 E hx hcl hxl
      generalize v ^^^ c = x at E hx hxl
      clear hV hcell
      go_wp2
      go_loopw [3, 16] (fun s i wr => ∃ j : Nat, j ≤ 8 ∧ i = .int .i64 j ∧ Hid (wr = w) ∧ ∃ u : Nat, u < 4294967296 ∧ s = .int .u32 u ∧ Hid (u = crcN j x)) (fun _ i _ => 8 - (intOf i).toNat)
      case atStart => exact ⟨0, by omega, rfl, rfl, x, hxl, rfl, rfl⟩
      case round =>
        obtain ⟨j, hj, rfl, hw2, u, hu, rfl, hU⟩ := hrel
        have hw2' := hw2.out.symm
        subst hw2'
        by_cases hjl : j < 8
        · have cS := hide' (shiftedC u hu w)
          have hu2 := crcB_lt hu
          have E2 : Hid (crcB u = crcN (j + 1) x) := by unfold Hid; rw [hU.out]; rfl
          generalize crcB u = y at cS hu2 E2
          go_wp2_with fail
          refine cS.out.mono ?_
          rintro e w9 ⟨rfl, ew⟩
          rw [ew]; clear ew w9 cS
          go_wp2_with fail
          go_roundw
          case rel => exact ⟨j + 1, by omega, by go_num, (by unfold Hid; first | trivial | rfl), y, hu2, rfl, E2⟩
          case measure => simp [intOf]; omega
        · obtain rfl : j = 8 := by omega
          go_wp2_with fail
          go_roundw
          case rel => exact ⟨k + 1, by omega, by go_num, (by unfold Hid; first | trivial | rfl), u, hu, rfl, by unfold Hid; rw [E.out, hU.out]⟩
          case measure => simp [intOf]; omega
    · have hx := ones_xor hv
      have E : Hid (sumOf bs = v ^^^ 4294967295) := by
        unfold Hid; rw [hV.out, List.take_of_length_le (by rw [N1.out]; omega)]; rfl
      have hxl : v ^^^ 4294967295 < 4294967296 := Nat.xor_lt_two_pow (n := 32) hv (by decide)
      generalize v ^^^ 4294967295 = y at hx E hxl
      have h64 : wrap64 (y : Int) = y := by unfold wrap64; omega
      go_wp2
      go_ret
      rw [E.out]
      exact ⟨rfl, rfl⟩
set_option maxRecDepth 20000 in
set_option maxHeartbeats 1000000 in
theorem sumRC (v : Value) (bs : List UInt8) (w : World) (hv : HoldsB w v bs) (hl : bs.length ≤ 1000000000000000) :
    Calls Try.prog 14 #[v] w fun e w' => e = .returned (.int .i64 (sumOf bs : Int)) ∧ w' = w := by
  obtain ⟨ao, cap, rfl, _, _, hc⟩ := hv
  have HC := hide' hc
  obtain ⟨n, hn⟩ : ∃ n, n = bs.length := ⟨_, rfl⟩
  have N1 : Hid (bs.length = n) := hn.symm
  have ln : n ≤ 1000000000000000 := by omega
  rw [N1.out]
  clear hc hl hn
  go_enter Try.func14, Try.ntmps14
  go_wp2
  go_loopw [3, 4] (fun s i wr => ∃ k : Nat, k ≤ n ∧ i = .int .i64 k ∧ Hid (wr = w) ∧ ∃ v : Nat, v < 4294967296 ∧ s = .int .u32 v ∧ Hid (v = crcL 4294967295 (bs.take k))) (fun _ i _ => n - (intOf i).toNat)
  case atStart => exact ⟨0, by omega, rfl, rfl, 4294967295, by decide, rfl, rfl⟩
  case round =>
    obtain ⟨k, hk, rfl, hw, v, hv, rfl, hV⟩ := hrel
    have hw' := hw.out.symm
    subst hw'
    by_cases hlt : k < n
    · have G1 : Hid (k < bs.length) := by unfold Hid; rw [N1.out]; exact hlt
      obtain ⟨b, off, e, hb, hcell⟩ := HC.out (fun e => by have := G1.out; rw [e] at this; exact absurd this (Nat.not_lt_zero _))
      subst e
      have x1 := hcell k G1.out
      unfold B at x1
      have E : Hid (crcL 4294967295 (bs.take (k + 1)) = crcN 8 (v ^^^ (bs[k]'G1.out).toNat)) := by
        unfold Hid; rw [List.take_succ_eq_append_getElem G1.out, crcL_snoc, ← hV.out]; rfl
      have hx := xor_byte hv (bs[k]'G1.out)
      have hxl := crcX_lt hv (bs[k]'G1.out)
      have hcl : ((bs[k]'G1.out).toNat : Int) ≤ 255 := (byte_lt _).2
      generalize (bs[k]'G1.out).toNat = c at x1 E hx hcl hxl
      generalize v ^^^ c = x at E hx hxl
      clear hV hcell
      go_wp2
      go_loopw [3, 5] (fun s i wr => ∃ j : Nat, j ≤ 8 ∧ i = .int .i64 j ∧ Hid (wr = w) ∧ ∃ u : Nat, u < 4294967296 ∧ s = .int .u32 u ∧ Hid (u = crcN j x)) (fun _ i _ => 8 - (intOf i).toNat)
      case atStart => exact ⟨0, by omega, rfl, rfl, x, hxl, rfl, rfl⟩
      case round =>
        obtain ⟨j, hj, rfl, hw2, u, hu, rfl, hU⟩ := hrel
        have hw2' := hw2.out.symm
        subst hw2'
        by_cases hjl : j < 8
        · have hu2 := crcB_lt hu
          have E2 : Hid (crcB u = crcN (j + 1) x) := by unfold Hid; rw [hU.out]; rfl
          have td : (u : Int).tdiv 2 = (u : Int) / 2 := Int.tdiv_eq_ediv_of_nonneg (by omega)
          have tm : (u : Int).tmod 2 = (u : Int) % 2 := Int.tmod_eq_emod_of_nonneg (by omega)
          by_cases ho : u % 2 = 1
          · have a1 : (u : Int) % 2 = 1 := by omega
            have a2 := crc_odd hu ho
            generalize crcB u = y at a2 hu2 E2
            go_wp2_with fail
            go_roundw
            case rel => exact ⟨j + 1, by omega, by go_num, (by unfold Hid; first | trivial | rfl), y, hu2, by first | rfl | (congr 1), E2⟩
            case measure => simp [intOf]; omega
          · have a1 : (u : Int) % 2 = 0 := by omega
            have a2 := crc_even ho
            generalize crcB u = y at a2 hu2 E2
            go_wp2_with fail
            go_roundw
            case rel => exact ⟨j + 1, by omega, by go_num, (by unfold Hid; first | trivial | rfl), y, hu2, by first | rfl | (congr 1), E2⟩
            case measure => simp [intOf]; omega
        · obtain rfl : j = 8 := by omega
          go_wp2_with fail
          go_roundw
          case rel => exact ⟨k + 1, by omega, by go_num, (by unfold Hid; first | trivial | rfl), u, hu, rfl, by unfold Hid; rw [E.out, hU.out]⟩
          case measure => simp [intOf]; omega
    · have hx := xor_ones hv
      have E : Hid (sumOf bs = v ^^^ 4294967295) := by
        unfold Hid; rw [hV.out, List.take_of_length_le (by rw [N1.out]; omega)]; rfl
      have hxl : v ^^^ 4294967295 < 4294967296 := Nat.xor_lt_two_pow (n := 32) hv (by decide)
      generalize v ^^^ 4294967295 = y at hx E hxl
      have h64 : wrap64 (y : Int) = y := by unfold wrap64; omega
      go_wp2
      go_ret
      rw [E.out]
      exact ⟨rfl, rfl⟩
end Go.Proofs.Ytnbidckmekmcfab
