/- A part of a list of bytes as a value; such a list as a text. Where a record's Id ends; the contract of findIdEnd; what is read, by its parts. What Decode answers, as a value. The document's Decode of no bytes, of bytes that begin with another one. -/
import Derived.Test.YtijnjgnckipghaaGreatBw4
import Derived.Test.YtijnjgnckipghaaGreatBw8
import Derived.Deep.QuietTactic
import Derived.BigQuiet
import Derived.Deep.RegionHeldLaw
namespace Go.Proofs.YtijnjgnckipghaaGreat
open Go.RowKit
theorem sub_holds {w : World} {b off cap k m : Nat} {bs : List UInt8} (hk : k ≤ m) (hm : m ≤ bs.length) (hcp : bs.length ≤ cap) (hlt : b < w.heap.size) (hcell : ∀ j (h : j < bs.length), w.cell? ⟨b, off + j, none⟩ = some (B bs[j])) :
    HoldsB w (.slice (some ⟨b, off + k, none⟩) (m - k) (cap - k)) ((bs.drop k).take (m - k)) := by
  have hl : ((bs.drop k).take (m - k)).length = m - k := by rw [List.length_take, List.length_drop]; omega
  refine ⟨_, _, by rw [hl], (fun e => by cases e), by omega, fun _ => ⟨b, off + k, rfl, hlt, fun j hj => ?_⟩⟩
  rw [Nat.add_assoc, hcell (k + j) (by omega)]
  simp
theorem midB {w : World} {v : Value} {bs : List UInt8} (h : HoldsB w v bs) (k m : Nat) (hk : k ≤ m) (hm : m ≤ bs.length) :
    ∃ pv, (∀ W, Sem.run Tryz.prog (Instr.slice 67 v (some (.int .i64 (k : Int))) (some (.int .i64 (m : Int))) none) W = .ok pv W) ∧ HoldsB w pv ((bs.drop k).take (m - k)) := by
  obtain ⟨ao, cap, rfl, h0, hcp, hc⟩ := h
  have hel : Tryz.prog.elem 67 = 5 := by kernel_rfl
  have hh : ∀ W, Sem.run Tryz.prog (Instr.slice 67 (.slice ao bs.length cap) (some (.int .i64 (k : Int))) (some (.int .i64 (m : Int))) none) W = .ok (sliced ao k m cap 1) W := by
    intro W
    have h := run_slice_lh (P := Tryz.prog) W 67 ao bs.length cap (by rw [hel]; exact Tryz.underlying67) .i64 .i64 k m (by omega) (by omega) (by omega)
    rw [hel, Tryz.sizeOf5] at h
    simp only [Result.andThen, Int.toNat_natCast] at h
    exact h
  refine ⟨_, hh, ?_⟩
  unfold sliced
  by_cases hz : k < bs.length
  · obtain ⟨b, off, rfl, hlt, hcell⟩ := hc (by intro e; rw [e] at hz; simp at hz)
    rw [if_neg (by omega), Nat.mul_one, Option.map_some, Go.WideShapes.add_plain]
    exact sub_holds hk hm hcp hlt hcell
  · have hl : (bs.drop k).take (m - k) = [] := by rw [List.take_eq_nil_iff]; exact .inl (by omega)
    rw [hl]
    have hz : m - k = 0 := by omega
    rw [hz]
    cases ao with
    | none =>
      have := h0 rfl
      subst this
      refine ⟨none, 0, ?_, fun _ => rfl, Nat.le_refl _, fun h => absurd rfl h⟩
      simp
    | some ad =>
      by_cases hq : cap = k
      · refine ⟨some ad, 0, ?_, (fun h => by cases h), Nat.le_refl _, fun h => absurd rfl h⟩
        simp [hq]
      · refine ⟨some (ad.add k), cap - k, ?_, (fun h => by cases h), Nat.zero_le _, fun h => absurd rfl h⟩
        simp [hq]
theorem takeB {w : World} {v : Value} {bs : List UInt8} (h : HoldsB w v bs) (k : Nat) (hk : k ≤ bs.length) : ∃ pv, (∀ W, Sem.run Tryz.prog (Instr.slice 67 v none (some (.int .i64 (k : Int))) none) W = .ok pv W) ∧ HoldsB w pv (bs.take k) := by
  have h' := h
  obtain ⟨ao, cap, rfl, h0, hc, _⟩ := h'
  refine ⟨.slice ao k cap, fun W => ?_, holdsB_pre h k hk⟩
  have hel : Tryz.prog.elem 67 = 5 := by kernel_rfl
  have hh := run_slice_h (P := Tryz.prog) W 67 ao bs.length cap (by rw [hel]; exact Tryz.underlying67) .i64 k (by omega) (by omega)
  rw [hel, Tryz.sizeOf5] at hh
  simp only [Result.andThen, Int.toNat_natCast, sliced] at hh
  rw [hh]
  by_cases hz : cap = 0
  · subst hz
    obtain rfl : k = 0 := by omega
    cases ao <;> simp
  · simp [Addr.add]
theorem conv_holds {w : World} {v : Value} {bs : List UInt8} (h : HoldsB w v bs) : Sem.run Tryz.prog (convert 67 9 v) w = .ok (.string ⟨bs.toArray⟩) w := by
  obtain ⟨ao, cap, rfl, h0, hcp, hc⟩ := h
  by_cases hz : bs = []
  · subst hz
    rw [run_convert_bytes_string w 67 9 5 _ _ _ Tryz.underlying67 Tryz.underlying5 Tryz.underlying9]
    cases ao with
    | none =>
      unfold Conv.bytesToString
      simp [Sem.run_pure]
      rfl
    | some ad =>
      have hl : (loadCells ad 0).run Tryz.prog w = .ok ((([] : List UInt8).map (fun c => (c.toNat : Int))).map (Value.int .u8)).toArray w := by
        have := run_loadCells_list (P := Tryz.prog) (w := w) ad ([] : List Value) (fun j v hv => by simp at hv)
        simpa using this
      rw [List.length_nil, run_bytesToString w _ _ _ _ hl, fold_push]
      simp
  · obtain ⟨b, off, rfl, hlt, hcell⟩ := hc hz
    have hl : (loadCells ⟨b, off, none⟩ bs.length).run Tryz.prog w = .ok ((bs.map (fun c => (c.toNat : Int))).map (Value.int .u8)).toArray w := by
      have := run_loadCells_list (P := Tryz.prog) (w := w) ⟨b, off, none⟩ (bs.map B) (fun j v hv => by
        obtain ⟨hj1, hj2⟩ := List.getElem?_eq_some_iff.1 hv
        rw [List.length_map] at hj1
        rw [Go.WideShapes.add_plain, hcell j hj1, ← hj2]
        simp)
      simpa [map_B] using this
    rw [run_convert_bytes_string w 67 9 5 _ _ _ Tryz.underlying67 Tryz.underlying5 Tryz.underlying9, run_bytesToString w _ _ _ _ hl, fold_push]
    simp
end Go.Proofs.YtijnjgnckipghaaGreat
namespace Go.Proofs.YtijnjgnckipghaaGreat
open Go.RowKit
def idEnd (l : List UInt8) : Nat × Int :=
  if l.length = 0 then (0, 0)
  else if ¬ ((l[0]?.getD 0).toNat = 193 ∨ (l[0]?.getD 0).toNat = 194) then (0, 100)
  else if l.length < 3 then (0, 0)
  else if 4096 < valN (midN l 1 3) then (0, 100)
  else (11 + valN (midN l 1 3), 0)
theorem midN_len (l : List UInt8) (a b : Nat) : (midN l a b).length ≤ b - a := by unfold midN; rw [List.length_take]; omega
theorem val4 {l : List UInt8} (h : l.length ≤ 4) : valN l < 4294967296 := Nat.lt_of_lt_of_le (valN_lt _) (Nat.le_trans (Nat.pow_le_pow_right (by decide) h) (by decide))
theorem dec_none (l : List UInt8) (h : (idEnd l).1 = 0) : decOf l = decErr (idEnd l).2 := by
  unfold idEnd at h ⊢
  unfold decOf
  by_cases h1 : l.length = 0
  · rw [if_pos h1, if_pos h1]
  · rw [if_neg h1] at h ⊢
    rw [if_neg h1]
    by_cases h2 : ¬ ((l[0]?.getD 0).toNat = 193 ∨ (l[0]?.getD 0).toNat = 194)
    · rw [if_pos h2, if_pos h2]
    · rw [if_neg h2] at h ⊢
      rw [if_neg h2]
      by_cases h3 : l.length < 3
      · rw [if_pos h3, if_pos h3]
      · rw [if_neg h3] at h ⊢
        rw [if_neg h3]
        by_cases h4 : 4096 < valN (midN l 1 3)
        · rw [if_pos h4, if_pos h4]
        · rw [if_neg h4] at h
          simp at h
theorem dec_some (l : List UInt8) (h : (idEnd l).1 ≠ 0) : 3 ≤ l.length ∧ ((l[0]?.getD 0).toNat = 193 ∨ (l[0]?.getD 0).toNat = 194) ∧ valN (midN l 1 3) ≤ 4096 ∧ idEnd l = (11 + valN (midN l 1 3), 0) ∧
    decOf l = if l.length < valN (midN l 1 3) + 15 then decErr 0
      else if valN (midN l (valN (midN l 1 3) + 11) (valN (midN l 1 3) + 15)) = sumOf (l.take (valN (midN l 1 3) + 11)) then
        ⟨valN (midN l 3 7), (l[0]?.getD 0).toNat - 192, valN (midN l 7 11), midN l 11 (valN (midN l 1 3) + 11), valN (midN l 1 3) + 15, 0⟩
      else decErr 100 := by
  unfold idEnd at h ⊢
  unfold decOf
  by_cases h1 : l.length = 0
  · rw [if_pos h1] at h; exact absurd rfl h
  · rw [if_neg h1] at h ⊢
    rw [if_neg h1]
    by_cases h2 : ¬ ((l[0]?.getD 0).toNat = 193 ∨ (l[0]?.getD 0).toNat = 194)
    · rw [if_pos h2] at h; exact absurd rfl h
    · rw [if_neg h2] at h ⊢
      rw [if_neg h2]
      by_cases h3 : l.length < 3
      · rw [if_pos h3] at h; exact absurd rfl h
      · rw [if_neg h3] at h ⊢
        rw [if_neg h3]
        by_cases h4 : 4096 < valN (midN l 1 3)
        · rw [if_pos h4] at h; exact absurd rfl h
        · rw [if_neg h4, if_neg h4]
          exact ⟨by omega, Decidable.not_not.1 h2, by omega, rfl, rfl⟩
set_option maxRecDepth 20000 in
set_option maxHeartbeats 4000000 in
theorem findIdC (v : Value) (bs : List UInt8) (w : World) (hv : HoldsB w v bs) (hl : bs.length ≤ 1000000000000000) :
    Calls Tryz.prog 111 #[v] w fun e w' => e = .returned (.tuple #[.int .i64 ((idEnd bs).1 : Int), .int .i64 (idEnd bs).2]) ∧ w' = w := by
  have HV := hide' hv
  obtain ⟨ao, cap, rfl, _, hcp, hc⟩ := hv
  have HC := hide' hc
  obtain ⟨R, hR⟩ : ∃ R, R = idEnd bs := ⟨_, rfl⟩
  rw [← hR]
  unfold idEnd at hR
  obtain ⟨n, hn⟩ : ∃ n, n = bs.length := ⟨_, rfl⟩
  have N1 : Hid (bs.length = n) := hn.symm
  rw [← hn] at hR
  have ln : n ≤ 1000000000000000 := by omega
  have hcn : n ≤ cap := by omega
  rw [N1.out] at HV ⊢
  clear hc hl hn hcp
  by_cases h1 : n = 0
  · rw [if_pos h1] at hR
    have eR := hide' hR
    subst h1
    clear hR
    go_enter Tryz.func111, Tryz.ntmps111
    go_wp2_with fail
    exact bodyPost_ret (v := .tuple #[.int .i64 0, .int .i64 0]) (by simp [results, Tryz.results111, go_sem]) rfl ⟨by rw [eR.out]; rfl, rfl⟩
  · rw [if_neg h1] at hR
    have G0 : Hid (0 < bs.length) := by unfold Hid; rw [N1.out]; omega
    obtain ⟨b, off, e, hb, hcell⟩ := HC.out (fun e => by have := G0.out; rw [e] at this; exact absurd this (Nat.not_lt_zero _))
    subst e
    have x1 := hcell 0 G0.out
    unfold B at x1
    rw [Nat.add_zero] at x1
    have hg : bs[0]?.getD 0 = bs[0]'G0.out := by rw [List.getElem?_eq_getElem G0.out]; rfl
    rw [hg] at hR
    clear hg hcell HC
    obtain ⟨hc0, hc1⟩ := byte_lt (bs[0]'G0.out)
    generalize (bs[0]'G0.out).toNat = c at x1 hR hc0 hc1
    have cO := hide' (opOfC (c : Int) hc0 hc1 w)
    have cI := hide' (isOpC ((c : Int) - 192) w)
    have hn0 : ((n : Int) == 0) = false := by simpa using h1
    by_cases h2 : ¬ (c = 193 ∨ c = 194)
    · rw [if_pos h2] at hR
      have eR := hide' hR
      have hd : decide ((c : Int) - 192 = 1 ∨ (c : Int) - 192 = 2) = false := by simp; omega
      rw [hd] at cI
      clear hR h2 hd
      go_enter Tryz.func111, Tryz.ntmps111
      go_wp2_with fail
      refine cO.out.mono ?_
      rintro e w9 ⟨rfl, ew⟩
      rw [ew]; clear ew w9
      go_wp2_with fail
      refine cI.out.mono ?_
      rintro e w9 ⟨rfl, ew⟩
      rw [ew]; clear ew w9
      go_wp2_with fail
      exact bodyPost_ret (v := .tuple #[.int .i64 0, .int .i64 100]) (by simp [results, Tryz.results111, go_sem]) rfl ⟨by rw [eR.out]; rfl, rfl⟩
    · rw [if_neg h2] at hR
      have hd : decide ((c : Int) - 192 = 1 ∨ (c : Int) - 192 = 2) = true := by simp; omega
      rw [hd] at cI
      clear h2 hd
      by_cases h3 : n < 3
      · rw [if_pos h3] at hR
        have eR := hide' hR
        have hd3 : decide ((n : Int) < 3) = true := by simp; omega
        clear hR
        go_enter Tryz.func111, Tryz.ntmps111
        go_wp2_with fail
        refine cO.out.mono ?_
        rintro e w9 ⟨rfl, ew⟩
        rw [ew]; clear ew w9
        go_wp2_with fail
        refine cI.out.mono ?_
        rintro e w9 ⟨rfl, ew⟩
        rw [ew]; clear ew w9
        go_wp2_with fail
        exact bodyPost_ret (v := .tuple #[.int .i64 0, .int .i64 0]) (by simp [results, Tryz.results111, go_sem]) rfl ⟨by rw [eR.out]; rfl, rfl⟩
      · rw [if_neg h3] at hR
        have hd3 : decide ((n : Int) < 3) = false := by simp; omega
        obtain ⟨pv, hs, hp⟩ := midB HV.out 1 3 (by decide) (by rw [N1.out]; omega)
        have hs' : ∀ W, Sem.run Tryz.prog (Instr.slice 67 (.slice (some ⟨b, off, none⟩) n cap) (some (.int .i64 1)) (some (.int .i64 3)) none) W = .ok pv W := by
          intro W; exact hs W
        have cN := hide' (numberC pv (midN bs 1 3) w hp (by unfold midN; rw [List.length_take]; omega))
        have hvl : valN (midN bs 1 3) < 65536 := Nat.lt_of_lt_of_le (valN_lt _) (Nat.le_trans (Nat.pow_le_pow_right (by decide) (show (midN bs 1 3).length ≤ 2 by unfold midN; rw [List.length_take]; omega)) (by decide))
        generalize valN (midN bs 1 3) = k at cN hR hvl
        clear hs hp
        by_cases h4 : 4096 < k
        · rw [if_pos h4] at hR
          have eR := hide' hR
          have hd4 : decide (4096 < (k : Int)) = true := by simp; omega
          clear hR
          go_enter Tryz.func111, Tryz.ntmps111
          go_wp2_with fail
          refine cO.out.mono ?_
          rintro e w9 ⟨rfl, ew⟩
          rw [ew]; clear ew w9
          go_wp2_with fail
          refine cI.out.mono ?_
          rintro e w9 ⟨rfl, ew⟩
          rw [ew]; clear ew w9
          go_wp2_with fail
          refine cN.out.mono ?_
          rintro e w9 ⟨rfl, ew⟩
          rw [ew]; clear ew w9
          go_wp2_with fail
          exact bodyPost_ret (v := .tuple #[.int .i64 0, .int .i64 100]) (by simp [results, Tryz.results111, go_sem]) rfl ⟨by rw [eR.out]; rfl, rfl⟩
        · rw [if_neg h4] at hR
          have eR := hide' hR
          have hd4 : decide (4096 < (k : Int)) = false := by simp; omega
          clear hR
          go_enter Tryz.func111, Tryz.ntmps111
          go_wp2_with fail
          refine cO.out.mono ?_
          rintro e w9 ⟨rfl, ew⟩
          rw [ew]; clear ew w9
          go_wp2_with fail
          refine cI.out.mono ?_
          rintro e w9 ⟨rfl, ew⟩
          rw [ew]; clear ew w9
          go_wp2_with fail
          refine cN.out.mono ?_
          rintro e w9 ⟨rfl, ew⟩
          rw [ew]; clear ew w9
          go_wp2_with fail
          exact bodyPost_ret (v := .tuple #[.int .i64 (11 + (k : Int)), .int .i64 0]) (by simp [results, Tryz.results111, go_sem]) rfl ⟨by rw [eR.out, show ((11 + k : Nat) : Int) = 11 + (k : Int) by omega], rfl⟩
end Go.Proofs.YtijnjgnckipghaaGreat
namespace Go.Proofs.YtijnjgnckipghaaGreat
open Go.RowKit
/-- what Decode answers, as a value -/
def decV (d : RecD) : Value := .tuple #[recV d.seq d.op d.no d.id, .int .i64 d.n, .int .i64 d.e]
end Go.Proofs.YtijnjgnckipghaaGreat
namespace Go.Proofs.YtijnjgnckipghaaGreat
open Go.RowKit
set_option maxRecDepth 20000 in
set_option maxHeartbeats 4000000 in
theorem decR0 (v : Value) (bs : List UInt8) (w : World) (hv : HoldsB w v bs) (hl : bs.length ≤ 1000000000000000) (h : bs.length = 0) :
    Calls Tryz.prog 66 #[v] w fun e w' => e = .returned (decV (decOf bs)) ∧ Below w.heap.size w w' := by
  have L0 := below_alloc' w (.cells #[.int .i64 0, .int .i64 0, .int .i64 0, .string ⟨#[]⟩] 53)
  have Q0 := quad_lit w (.int .i64 0) (.int .i64 0) (.int .i64 0) (.string ⟨#[]⟩) 53
  obtain ⟨B0, hB0⟩ : ∃ B0, B0 = w.alloc (.cells #[.int .i64 0, .int .i64 0, .int .i64 0, .string ⟨#[]⟩] 53) := ⟨_, rfl⟩
  rw [← hB0] at L0 Q0
  have HV := hide' (holdsB_mono hv L0)
  have HW := hide' hv
  have HB0 := hide' hB0
  have LB := hide' L0
  have HQ := hide' Q0
  clear hB0 L0 Q0
  obtain ⟨ao, cap, rfl, _, hcp, hc⟩ := hv
  obtain ⟨n, hn⟩ : ∃ n, n = bs.length := ⟨_, rfl⟩
  have N1 : Hid (bs.length = n) := hn.symm
  have ln : n ≤ 1000000000000000 := by omega
  have hcn : n ≤ cap := by omega
  rw [N1.out] at HV HW ⊢
  rw [← hn] at hl
  have eD : Hid (decOf bs = decErr 0) := by unfold Hid decOf; rw [if_pos h]
  obtain rfl : n = 0 := by omega
  clear hc hl hn hcp h
  go_enter Tryz.func66, Tryz.ntmps66
  go_wp2_with fail
  exact bodyPost_ret (v := .tuple #[.agg #[.int .i64 0, .int .i64 0, .int .i64 0, .string ⟨#[]⟩], .int .i64 0, .int .i64 0]) (by simp [results, Tryz.results66, go_sem]) rfl ⟨by rw [eD.out]; rfl, by have := LB.out; rw [HB0.out] at this; exact this⟩
set_option maxRecDepth 20000 in
set_option maxHeartbeats 4000000 in
theorem decR1 (v : Value) (bs : List UInt8) (w : World) (hv : HoldsB w v bs) (hl : bs.length ≤ 1000000000000000) (h : 0 < bs.length) (hb1 : ¬ ((bs[0]?.getD 0).toNat = 193 ∨ (bs[0]?.getD 0).toNat = 194)) :
    Calls Tryz.prog 66 #[v] w fun e w' => e = .returned (decV (decOf bs)) ∧ Below w.heap.size w w' := by
  have L0 := below_alloc' w (.cells #[.int .i64 0, .int .i64 0, .int .i64 0, .string ⟨#[]⟩] 53)
  have Q0 := quad_lit w (.int .i64 0) (.int .i64 0) (.int .i64 0) (.string ⟨#[]⟩) 53
  obtain ⟨B0, hB0⟩ : ∃ B0, B0 = w.alloc (.cells #[.int .i64 0, .int .i64 0, .int .i64 0, .string ⟨#[]⟩] 53) := ⟨_, rfl⟩
  rw [← hB0] at L0 Q0
  have HV := hide' (holdsB_mono hv L0)
  have HW := hide' hv
  have HB0 := hide' hB0
  have LB := hide' L0
  have HQ := hide' Q0
  clear hB0 L0 Q0
  obtain ⟨ao, cap, rfl, _, hcp, hc⟩ := hv
  obtain ⟨n, hn⟩ : ∃ n, n = bs.length := ⟨_, rfl⟩
  have N1 : Hid (bs.length = n) := hn.symm
  have ln : n ≤ 1000000000000000 := by omega
  have hcn : n ≤ cap := by omega
  rw [N1.out] at HV HW ⊢
  rw [← hn] at hl
  have eD : Hid (decOf bs = decErr 100) := by unfold Hid decOf; rw [if_neg (by omega), if_pos hb1]
  have G0 : Hid (0 < bs.length) := by unfold Hid; omega
  obtain ⟨b, off, ea, hbw, hcell⟩ := hc (fun e => by have := G0.out; rw [e] at this; exact absurd this (Nat.not_lt_zero _))
  subst ea
  have x0 := hcell 0 G0.out
  unfold B at x0
  rw [Nat.add_zero] at x0
  have hb : b < B0.heap.size := by have := LB.out.size; omega
  have x1 : B0.cell? ⟨b, off, none⟩ = some (.int .u8 ((bs[0]'G0.out).toNat : Int)) := by rw [LB.out.cell (p := ⟨b, off, none⟩) hbw]; exact x0
  have hg : bs[0]?.getD 0 = bs[0]'G0.out := by rw [List.getElem?_eq_getElem G0.out]; rfl
  have hn1 : b ≠ w.heap.size := by omega
  have hn2 : w.heap.size ≠ b := by omega
  rw [hg] at hb1
  obtain ⟨hc0, hc1⟩ := byte_lt (bs[0]'G0.out)
  generalize (bs[0]'G0.out).toNat = c at x1 x0 hb1 hc0 hc1
  have hn0 : ((n : Int) == 0) = false := by simp; omega
  have hnp : 0 < n := by omega
  have d1 : ((c : Int) != 193) = true := by simp; omega
  have d2 : ((c : Int) != 194) = true := by simp; omega
  clear hc hl hcp h hcell hg hb1 x1
  have x1 : (w.alloc (.cells #[.int .i64 0, .int .i64 0, .int .i64 0, .string ⟨#[]⟩] 53)).cell? ⟨b, off, none⟩ = some (.int .u8 (c : Int)) := by rw [(below_alloc' w _).cell (p := ⟨b, off, none⟩) hbw]; exact x0
  clear hn x0
  go_enter Tryz.func66, Tryz.ntmps66
  go_wp2_with fail
  exact bodyPost_ret (v := .tuple #[.agg #[.int .i64 0, .int .i64 0, .int .i64 0, .string ⟨#[]⟩], .int .i64 0, .int .i64 100]) (by simp [results, Tryz.results66, go_sem]) rfl ⟨by rw [eD.out]; rfl, by have := LB.out; rw [HB0.out] at this; exact this⟩
end Go.Proofs.YtijnjgnckipghaaGreat
