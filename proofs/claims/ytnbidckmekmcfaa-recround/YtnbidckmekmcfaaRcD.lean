/- Where a record's Id ends; the contract of findIdEnd; what is read, by its parts. -/
import Derived.Test.YtnbidckmekmcfaaRcE
import Derived.Test.YtnbidckmekmcfaaMidB
namespace Go.Proofs.Ytnbidckmekmcfaa
open Go.RowKit
def idEnd (l : List UInt8) : Nat × Int :=
  if l.length = 0 then (0, 0)
  else if ¬ ((l[0]?.getD 0).toNat = 193 ∨ (l[0]?.getD 0).toNat = 194) then (0, 100)
  else if l.length < 3 then (0, 0)
  else if 4096 < valN (midN l 1 3) then (0, 100)
  else (11 + valN (midN l 1 3), 0)
theorem midN_len (l : List UInt8) (a b : Nat) : (midN l a b).length ≤ b - a := by unfold midN; rw [List.length_take]; omega
theorem val4 {l : List UInt8} (h : l.length ≤ 4) : valN l < 4294967296 := Nat.lt_of_lt_of_le (valN_lt _) (Nat.le_trans (Nat.pow_le_pow_right (by decide) h) (by decide))
theorem dec_none (l : List UInt8) (h : (idEnd l).1 = 0) : decOf l = decErr (idEnd l).2 := by
  unfold idEnd at h ⊢
  unfold decOf
  by_cases h1 : l.length = 0
  · rw [if_pos h1, if_pos h1]
  · rw [if_neg h1] at h ⊢
    rw [if_neg h1]
    by_cases h2 : ¬ ((l[0]?.getD 0).toNat = 193 ∨ (l[0]?.getD 0).toNat = 194)
    · rw [if_pos h2, if_pos h2]
    · rw [if_neg h2] at h ⊢
      rw [if_neg h2]
      by_cases h3 : l.length < 3
      · rw [if_pos h3, if_pos h3]
      · rw [if_neg h3] at h ⊢
        rw [if_neg h3]
        by_cases h4 : 4096 < valN (midN l 1 3)
        · rw [if_pos h4, if_pos h4]
        · rw [if_neg h4] at h
          simp at h
theorem dec_some (l : List UInt8) (h : (idEnd l).1 ≠ 0) : 3 ≤ l.length ∧ ((l[0]?.getD 0).toNat = 193 ∨ (l[0]?.getD 0).toNat = 194) ∧ valN (midN l 1 3) ≤ 4096 ∧ idEnd l = (11 + valN (midN l 1 3), 0) ∧
    decOf l = if l.length < valN (midN l 1 3) + 15 then decErr 0
      else if valN (midN l (valN (midN l 1 3) + 11) (valN (midN l 1 3) + 15)) = sumOf (l.take (valN (midN l 1 3) + 11)) then
        ⟨valN (midN l 3 7), (l[0]?.getD 0).toNat - 192, valN (midN l 7 11), midN l 11 (valN (midN l 1 3) + 11), valN (midN l 1 3) + 15, 0⟩
      else decErr 100 := by
  unfold idEnd at h ⊢
  unfold decOf
  by_cases h1 : l.length = 0
  · rw [if_pos h1] at h; exact absurd rfl h
  · rw [if_neg h1] at h ⊢
    rw [if_neg h1]
    by_cases h2 : ¬ ((l[0]?.getD 0).toNat = 193 ∨ (l[0]?.getD 0).toNat = 194)
    · rw [if_pos h2] at h; exact absurd rfl h
    · rw [if_neg h2] at h ⊢
      rw [if_neg h2]
      by_cases h3 : l.length < 3
      · rw [if_pos h3] at h; exact absurd rfl h
      · rw [if_neg h3] at h ⊢
        rw [if_neg h3]
        by_cases h4 : 4096 < valN (midN l 1 3)
        · rw [if_pos h4] at h; exact absurd rfl h
        · rw [if_neg h4, if_neg h4]
          exact ⟨by omega, Decidable.not_not.1 h2, by omega, rfl, rfl⟩
set_option maxRecDepth 20000 in
set_option maxHeartbeats 4000000 in
theorem findC (v : Value) (bs : List UInt8) (w : World) (hv : HoldsB w v bs) (hl : bs.length ≤ 1000000000000000) :
    Calls Try.prog 24 #[v] w fun e w' => e = .returned (.tuple #[.int .i64 ((idEnd bs).1 : Int), .int .i64 (idEnd bs).2]) ∧ w' = w := by
  have HV := hide' hv
  obtain ⟨ao, cap, rfl, _, hcp, hc⟩ := hv
  have HC := hide' hc
  obtain ⟨R, hR⟩ : ∃ R, R = idEnd bs := ⟨_, rfl⟩
  rw [← hR]
  unfold idEnd at hR
  obtain ⟨n, hn⟩ : ∃ n, n = bs.length := ⟨_, rfl⟩
  have N1 : Hid (bs.length = n) := hn.symm
  rw [← hn] at hR
  have ln : n ≤ 1000000000000000 := by omega
  have hcn : n ≤ cap := by omega
  rw [N1.out] at HV ⊢
  clear hc hl hn hcp
  by_cases h1 : n = 0
  · rw [if_pos h1] at hR
    have eR := hide' hR
    subst h1
    clear hR
    go_enter Try.func24, Try.ntmps24
    go_wp2_with fail
    exact bodyPost_ret (v := .tuple #[.int .i64 0, .int .i64 0]) (by simp [results, Try.results24, go_sem]) rfl ⟨by rw [eR.out]; rfl, rfl⟩
  · rw [if_neg h1] at hR
    have G0 : Hid (0 < bs.length) := by unfold Hid; rw [N1.out]; omega
    obtain ⟨b, off, e, hb, hcell⟩ := HC.out (fun e => by have := G0.out; rw [e] at this; exact absurd this (Nat.not_lt_zero _))
    subst e
    have x1 := hcell 0 G0.out
    unfold B at x1
    rw [Nat.add_zero] at x1
    have hg : bs[0]?.getD 0 = bs[0]'G0.out := by rw [List.getElem?_eq_getElem G0.out]; rfl
    rw [hg] at hR
    clear hg hcell HC
    obtain ⟨hc0, hc1⟩ := byte_lt (bs[0]'G0.out)
    generalize (bs[0]'G0.out).toNat = c at x1 hR hc0 hc1
    have cO := hide' (opOfC (c : Int) hc0 hc1 w)
    have cI := hide' (isOpC ((c : Int) - 192) w)
    have hn0 : ((n : Int) == 0) = false := by simpa using h1
    by_cases h2 : ¬ (c = 193 ∨ c = 194)
    · rw [if_pos h2] at hR
      have eR := hide' hR
      have hd : decide ((c : Int) - 192 = 1 ∨ (c : Int) - 192 = 2) = false := by simp; omega
      rw [hd] at cI
      clear hR h2 hd
      go_enter Try.func24, Try.ntmps24
      go_wp2_with fail
      refine cO.out.mono ?_
      rintro e w9 ⟨rfl, ew⟩
      rw [ew]; clear ew w9
      go_wp2_with fail
      refine cI.out.mono ?_
      rintro e w9 ⟨rfl, ew⟩
      rw [ew]; clear ew w9
      go_wp2_with fail
      exact bodyPost_ret (v := .tuple #[.int .i64 0, .int .i64 100]) (by simp [results, Try.results24, go_sem]) rfl ⟨by rw [eR.out]; rfl, rfl⟩
    · rw [if_neg h2] at hR
      have hd : decide ((c : Int) - 192 = 1 ∨ (c : Int) - 192 = 2) = true := by simp; omega
      rw [hd] at cI
      clear h2 hd
      by_cases h3 : n < 3
      · rw [if_pos h3] at hR
        have eR := hide' hR
        have hd3 : decide ((n : Int) < 3) = true := by simp; omega
        clear hR
        go_enter Try.func24, Try.ntmps24
        go_wp2_with fail
        refine cO.out.mono ?_
        rintro e w9 ⟨rfl, ew⟩
        rw [ew]; clear ew w9
        go_wp2_with fail
        refine cI.out.mono ?_
        rintro e w9 ⟨rfl, ew⟩
        rw [ew]; clear ew w9
        go_wp2_with fail
        exact bodyPost_ret (v := .tuple #[.int .i64 0, .int .i64 0]) (by simp [results, Try.results24, go_sem]) rfl ⟨by rw [eR.out]; rfl, rfl⟩
      · rw [if_neg h3] at hR
        have hd3 : decide ((n : Int) < 3) = false := by simp; omega
        obtain ⟨pv, hs, hp⟩ := midB HV.out 1 3 (by decide) (by rw [N1.out]; omega)
        have hs' : ∀ W, Sem.run Try.prog (Instr.slice 22 (.slice (some ⟨b, off, none⟩) n cap) (some (.int .i64 1)) (some (.int .i64 3)) none) W = .ok pv W := by
          intro W; exact hs W
        have cN := hide' (numberC pv (midN bs 1 3) w hp (by unfold midN; rw [List.length_take]; omega))
        have hvl : valN (midN bs 1 3) < 65536 := Nat.lt_of_lt_of_le (valN_lt _) (Nat.le_trans (Nat.pow_le_pow_right (by decide) (show (midN bs 1 3).length ≤ 2 by unfold midN; rw [List.length_take]; omega)) (by decide))
        generalize valN (midN bs 1 3) = k at cN hR hvl
        clear hs hp
        by_cases h4 : 4096 < k
        · rw [if_pos h4] at hR
          have eR := hide' hR
          have hd4 : decide (4096 < (k : Int)) = true := by simp; omega
          clear hR
          go_enter Try.func24, Try.ntmps24
          go_wp2_with fail
          refine cO.out.mono ?_
          rintro e w9 ⟨rfl, ew⟩
          rw [ew]; clear ew w9
          go_wp2_with fail
          refine cI.out.mono ?_
          rintro e w9 ⟨rfl, ew⟩
          rw [ew]; clear ew w9
          go_wp2_with fail
          refine cN.out.mono ?_
          rintro e w9 ⟨rfl, ew⟩
          rw [ew]; clear ew w9
          go_wp2_with fail
          exact bodyPost_ret (v := .tuple #[.int .i64 0, .int .i64 100]) (by simp [results, Try.results24, go_sem]) rfl ⟨by rw [eR.out]; rfl, rfl⟩
        · rw [if_neg h4] at hR
          have eR := hide' hR
          have hd4 : decide (4096 < (k : Int)) = false := by simp; omega
          clear hR
          go_enter Try.func24, Try.ntmps24
          go_wp2_with fail
          refine cO.out.mono ?_
          rintro e w9 ⟨rfl, ew⟩
          rw [ew]; clear ew w9
          go_wp2_with fail
          refine cI.out.mono ?_
          rintro e w9 ⟨rfl, ew⟩
          rw [ew]; clear ew w9
          go_wp2_with fail
          refine cN.out.mono ?_
          rintro e w9 ⟨rfl, ew⟩
          rw [ew]; clear ew w9
          go_wp2_with fail
          exact bodyPost_ret (v := .tuple #[.int .i64 (11 + (k : Int)), .int .i64 0]) (by simp [results, Try.results24, go_sem]) rfl ⟨by rw [eR.out, show ((11 + k : Nat) : Int) = 11 + (k : Int) by omega], rfl⟩
end Go.Proofs.Ytnbidckmekmcfaa
