/- The document's Decode of no bytes, of bytes that begin with another one. -/
import Derived.Test.YtnbidckmekmcfaaRcD
import Derived.Test.YtnbidckmekmcfaaRcV
import Derived.Deep.QuietTactic
import Derived.BigQuiet
import Derived.Deep.RegionHeldLaw
namespace Go.Proofs.Ytnbidckmekmcfaa
open Go.RowKit
set_option maxRecDepth 20000 in
set_option maxHeartbeats 4000000 in
theorem decR0 (v : Value) (bs : List UInt8) (w : World) (hv : HoldsB w v bs) (hl : bs.length ≤ 1000000000000000) (h : bs.length = 0) :
    Calls Try.prog 17 #[v] w fun e w' => e = .returned (decV (decOf bs)) ∧ Below w.heap.size w w' := by
  have L0 := below_alloc' w (.cells #[.int .i64 0, .int .i64 0, .int .i64 0, .string ⟨#[]⟩] 29)
  have Q0 := quad_lit w (.int .i64 0) (.int .i64 0) (.int .i64 0) (.string ⟨#[]⟩) 29
  obtain ⟨B0, hB0⟩ : ∃ B0, B0 = w.alloc (.cells #[.int .i64 0, .int .i64 0, .int .i64 0, .string ⟨#[]⟩] 29) := ⟨_, rfl⟩
  rw [← hB0] at L0 Q0
  have HV := hide' (holdsB_mono hv L0)
  have HW := hide' hv
  have HB0 := hide' hB0
  have LB := hide' L0
  have HQ := hide' Q0
  clear hB0 L0 Q0
  obtain ⟨ao, cap, rfl, _, hcp, hc⟩ := hv
  obtain ⟨n, hn⟩ : ∃ n, n = bs.length := ⟨_, rfl⟩
  have N1 : Hid (bs.length = n) := hn.symm
  have ln : n ≤ 1000000000000000 := by omega
  have hcn : n ≤ cap := by omega
  rw [N1.out] at HV HW ⊢
  rw [← hn] at hl
  have eD : Hid (decOf bs = decErr 0) := by unfold Hid decOf; rw [if_pos h]
  obtain rfl : n = 0 := by omega
  clear hc hl hn hcp h
  go_enter Try.func17, Try.ntmps17
  go_wp2_with fail
  exact bodyPost_ret (v := .tuple #[.agg #[.int .i64 0, .int .i64 0, .int .i64 0, .string ⟨#[]⟩], .int .i64 0, .int .i64 0]) (by simp [results, Try.results17, go_sem]) rfl ⟨by rw [eD.out]; rfl, by have := LB.out; rw [HB0.out] at this; exact this⟩
set_option maxRecDepth 20000 in
set_option maxHeartbeats 4000000 in
theorem decR1 (v : Value) (bs : List UInt8) (w : World) (hv : HoldsB w v bs) (hl : bs.length ≤ 1000000000000000) (h : 0 < bs.length) (hb1 : ¬ ((bs[0]?.getD 0).toNat = 193 ∨ (bs[0]?.getD 0).toNat = 194)) :
    Calls Try.prog 17 #[v] w fun e w' => e = .returned (decV (decOf bs)) ∧ Below w.heap.size w w' := by
  have L0 := below_alloc' w (.cells #[.int .i64 0, .int .i64 0, .int .i64 0, .string ⟨#[]⟩] 29)
  have Q0 := quad_lit w (.int .i64 0) (.int .i64 0) (.int .i64 0) (.string ⟨#[]⟩) 29
  obtain ⟨B0, hB0⟩ : ∃ B0, B0 = w.alloc (.cells #[.int .i64 0, .int .i64 0, .int .i64 0, .string ⟨#[]⟩] 29) := ⟨_, rfl⟩
  rw [← hB0] at L0 Q0
  have HV := hide' (holdsB_mono hv L0)
  have HW := hide' hv
  have HB0 := hide' hB0
  have LB := hide' L0
  have HQ := hide' Q0
  clear hB0 L0 Q0
  obtain ⟨ao, cap, rfl, _, hcp, hc⟩ := hv
  obtain ⟨n, hn⟩ : ∃ n, n = bs.length := ⟨_, rfl⟩
  have N1 : Hid (bs.length = n) := hn.symm
  have ln : n ≤ 1000000000000000 := by omega
  have hcn : n ≤ cap := by omega
  rw [N1.out] at HV HW ⊢
  rw [← hn] at hl
  have eD : Hid (decOf bs = decErr 100) := by unfold Hid decOf; rw [if_neg (by omega), if_pos hb1]
  have G0 : Hid (0 < bs.length) := by unfold Hid; omega
  obtain ⟨b, off, ea, hbw, hcell⟩ := hc (fun e => by have := G0.out; rw [e] at this; exact absurd this (Nat.not_lt_zero _))
  subst ea
  have x0 := hcell 0 G0.out
  unfold B at x0
  rw [Nat.add_zero] at x0
  have hb : b < B0.heap.size := by have := LB.out.size; omega
  have x1 : B0.cell? ⟨b, off, none⟩ = some (.int .u8 ((bs[0]'G0.out).toNat : Int)) := by rw [LB.out.cell (p := ⟨b, off, none⟩) hbw]; exact x0
  have hg : bs[0]?.getD 0 = bs[0]'G0.out := by rw [List.getElem?_eq_getElem G0.out]; rfl
  have hn1 : b ≠ w.heap.size := by omega
  have hn2 : w.heap.size ≠ b := by omega
  rw [hg] at hb1
  obtain ⟨hc0, hc1⟩ := byte_lt (bs[0]'G0.out)
  generalize (bs[0]'G0.out).toNat = c at x1 x0 hb1 hc0 hc1
  have hn0 : ((n : Int) == 0) = false := by simp; omega
  have hnp : 0 < n := by omega
  have d1 : ((c : Int) != 193) = true := by simp; omega
  have d2 : ((c : Int) != 194) = true := by simp; omega
  clear hc hl hcp h hcell hg hb1 x1
  have x1 : (w.alloc (.cells #[.int .i64 0, .int .i64 0, .int .i64 0, .string ⟨#[]⟩] 29)).cell? ⟨b, off, none⟩ = some (.int .u8 (c : Int)) := by rw [(below_alloc' w _).cell (p := ⟨b, off, none⟩) hbw]; exact x0
  clear hn x0
  go_enter Try.func17, Try.ntmps17
  go_wp2_with fail
  exact bodyPost_ret (v := .tuple #[.agg #[.int .i64 0, .int .i64 0, .int .i64 0, .string ⟨#[]⟩], .int .i64 0, .int .i64 100]) (by simp [results, Try.results17, go_sem]) rfl ⟨by rw [eD.out]; rfl, by have := LB.out; rw [HB0.out] at this; exact this⟩
end Go.Proofs.Ytnbidckmekmcfaa
