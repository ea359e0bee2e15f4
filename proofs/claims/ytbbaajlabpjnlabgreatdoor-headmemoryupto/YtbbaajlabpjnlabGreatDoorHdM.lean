/- The document's end and split. -/
import Derived.Test.YtbbaajlabpjnlabGreatDoorHdK
import Derived.Deep.QuietTactic
import Derived.BigQuiet
namespace Go.Proofs.YtbbaajlabpjnlabGreatDoor
open Go.RowKit
theorem end_next (bs : List UInt8) (i : Nat) (h : i < bs.length) (ho : E4.isPrefixOf (bs.drop i) = false) : endOf bs (i + 1) = endOf bs i := by
  have hd : bs.drop i = bs[i] :: bs.drop (i + 1) := List.drop_eq_getElem_cons h
  have hi : Lib.index (bs.drop i) E4 = if Lib.index (bs.drop (i + 1)) E4 == -1 then -1 else Lib.index (bs.drop (i + 1)) E4 + 1 := by
    rw [hd] at ho ⊢
    rw [Lib.index, if_neg (by rw [ho]; simp)]
  rcases index_cases (bs.drop (i + 1)) E4 with h1 | ⟨j, h1⟩
  · rw [h1] at hi
    rw [end_none _ _ h1, end_none _ _ (by rw [hi]; rfl)]
  · rw [h1, if_neg (by simp)] at hi
    rw [end_some _ _ _ h1, end_some bs i (j + 1) (by rw [hi]; rfl), show i + 1 + j + 4 = i + (j + 1) + 4 by omega]
theorem end_here (bs : List UInt8) (i : Nat) (ho : E4.isPrefixOf (bs.drop i) = true) : endOf bs i = if 8192 < i + 4 then (0, 51) else (i + 4, 0) := by
  have := end_some bs i 0 (Lib.index_first (i := 0) (Nat.zero_le _) (by unfold Lib.occAt; rw [List.drop_zero]; exact ho) (fun j hj => absurd hj (Nat.not_lt_zero _)))
  rwa [Nat.add_zero] at this
theorem end_short' (bs : List UInt8) (i : Nat) (h : bs.length ≤ i + 3) : endOf bs i = if 8192 ≤ bs.length then (0, 51) else (0, 0) := by
  apply end_none
  rcases index_cases (bs.drop i) E4 with h1 | ⟨j, h1⟩
  · exact h1
  · have := occ_len _ _ _ (by decide) (index_is _ _ _ h1).2.1
    rw [List.length_drop, show E4.length = 4 from rfl] at this
    omega
theorem four_pre (bs : List UInt8) (i : Nat) (h0 : i < bs.length) (h1 : i + 1 < bs.length) (h2 : i + 2 < bs.length) (h3 : i + 3 < bs.length) : E4.isPrefixOf (bs.drop i) = (((bs[i].toNat : Int) == 13) && (((bs[i + 1].toNat : Int) == 10) && (((bs[i + 2].toNat : Int) == 13) && ((bs[i + 3].toNat : Int) == 10)))) := by
  rw [List.drop_eq_getElem_cons h0, List.drop_eq_getElem_cons h1, List.drop_eq_getElem_cons h2, List.drop_eq_getElem_cons h3]
  have e : ∀ (c d : UInt8), (c == d) = ((d.toNat : Int) == (c.toNat : Int)) := by
    intro c d
    rw [Bool.eq_iff_iff, beq_iff_eq, beq_iff_eq]
    constructor
    · rintro rfl; rfl
    · intro h; exact UInt8.toNat_inj.1 (by omega)
  unfold E4
  simp only [List.isPrefixOf, Bool.and_true]
  rw [e, e, e, e]
  rfl
set_option maxRecDepth 20000 in
set_option maxHeartbeats 2000000 in
theorem endRef (v : Value) (bs : List UInt8) (p : Nat) (w : World) (hv : HoldsB w v bs) (hp : p ≤ bs.length) (hs : bs.length < 4294967281) :
    Calls Tryz.prog 18 #[v, .int .i64 (p : Int)] w fun e w' => e = .returned (.tuple #[.int .i64 (((endOf bs p).1 : Nat) : Int), .int .i64 (endOf bs p).2]) ∧ w' = w := by
  obtain ⟨ao, cap, rfl, h0, hcp, hc⟩ := hv
  have C := hide' hc
  clear hc h0
  obtain ⟨n, en⟩ : ∃ n, n = bs.length := ⟨_, rfl⟩
  have N : Hid (bs.length = n) := en.symm
  rw [N.out] at hs hcp hp ⊢
  obtain ⟨r1, hr1⟩ : ∃ r1, r1 = (endOf bs p).1 := ⟨_, rfl⟩
  obtain ⟨r2, hr2⟩ : ∃ r2, r2 = (endOf bs p).2 := ⟨_, rfl⟩
  rw [← hr1, ← hr2]
  have HR : Hid (endOf bs p = (r1, r2)) := by unfold Hid; rw [hr1, hr2]
  clear en hr1 hr2
  go_enter Tryz.func18, Tryz.ntmps18
  go_wp2_with fail
  go_loop [6] (fun iv => ∃ i : Nat, i ≤ n ∧ iv = .int .i64 i ∧ Hid (endOf bs i = (r1, r2))) (fun iv => n - (intOf iv).toNat)
  case atStart => exact ⟨p, hp, rfl, HR⟩
  case round =>
    obtain ⟨i, hi, rfl, HE⟩ := hrel
    by_cases hlt : i + 3 < n
    · obtain ⟨b, off, hao, hblt, hcell⟩ := C.out (fun e => by have := N.out; rw [e] at this; simp at this; omega)
      subst hao
      have G0 : Hid (i < bs.length) := by unfold Hid; rw [N.out]; omega
      have G1 : Hid (i + 1 < bs.length) := by unfold Hid; rw [N.out]; omega
      have G2 : Hid (i + 2 < bs.length) := by unfold Hid; rw [N.out]; omega
      have G3 : Hid (i + 3 < bs.length) := by unfold Hid; rw [N.out]; omega
      have ck0 : w.cell? ⟨b, off + i, none⟩ = some (.int .u8 ((bs[i]'G0.out).toNat : Int)) := hcell i G0.out
      have ck1 : w.cell? ⟨b, off + (i + 1), none⟩ = some (.int .u8 ((bs[i + 1]'G1.out).toNat : Int)) := hcell (i + 1) G1.out
      have ck2 : w.cell? ⟨b, off + (i + 2), none⟩ = some (.int .u8 ((bs[i + 2]'G2.out).toNat : Int)) := hcell (i + 2) G2.out
      have ck3 : w.cell? ⟨b, off + (i + 3), none⟩ = some (.int .u8 ((bs[i + 3]'G3.out).toNat : Int)) := hcell (i + 3) G3.out
      have b0 := byte_lt (bs[i]'G0.out)
      have b1 := byte_lt (bs[i + 1]'G1.out)
      have b2 := byte_lt (bs[i + 2]'G2.out)
      have b3 := byte_lt (bs[i + 3]'G3.out)
      have FP := four_pre bs i G0.out G1.out G2.out G3.out
      have tl : decide ((i : Int) + 3 < (n : Int)) = true := decide_eq_true (by omega)
      have NX := fun ho => hide' ((end_next bs i G0.out ho).trans HE.out)
      have HH := fun ho => (end_here bs i ho).symm.trans HE.out
      generalize (bs[i]'G0.out).toNat = c0 at ck0 b0 FP
      generalize (bs[i + 1]'G1.out).toNat = c1 at ck1 b1 FP
      generalize (bs[i + 2]'G2.out).toNat = c2 at ck2 b2 FP
      generalize (bs[i + 3]'G3.out).toNat = c3 at ck3 b3 FP
      clear hcell
      cases q0 : ((c0 : Int) == 13) with
      | false =>
        have NE := NX (by rw [FP, q0]; simp)
        clear NX HH FP
        go_wp2_with fail
        go_round
        case rel => exact ⟨i + 1, by omega, by go_num, NE⟩
        case measure => simp [intOf]; omega
      | true =>
        cases q1 : ((c1 : Int) == 10) with
        | false =>
          have NE := NX (by rw [FP, q1]; simp)
          clear NX HH FP
          go_wp2_with fail
          go_round
          case rel => exact ⟨i + 1, by omega, by go_num, NE⟩
          case measure => simp [intOf]; omega
        | true =>
          cases q2 : ((c2 : Int) == 13) with
          | false =>
            have NE := NX (by rw [FP, q2]; simp)
            clear NX HH FP
            go_wp2_with fail
            go_round
            case rel => exact ⟨i + 1, by omega, by go_num, NE⟩
            case measure => simp [intOf]; omega
          | true =>
            cases q3 : ((c3 : Int) == 10) with
            | false =>
              have NE := NX (by rw [FP, q3]; simp)
              clear NX HH FP
              go_wp2_with fail
              go_round
              case rel => exact ⟨i + 1, by omega, by go_num, NE⟩
              case measure => simp [intOf]; omega
            | true =>
              have EH := HH (by rw [FP, q0, q1, q2, q3]; rfl)
              clear NX HH FP
              by_cases h8 : 8192 < i + 4
              · rw [if_pos h8] at EH
                have e1 : Hid (r1 = 0) := (congrArg Prod.fst EH).symm
                have e2 : Hid (r2 = 51) := (congrArg Prod.snd EH).symm
                have t8 : decide ((8192 : Int) < (i : Int) + 4) = true := decide_eq_true (by omega)
                clear EH
                go_wp2_with fail
                go_ret2
                rw [e1.out, e2.out]
                exact ⟨rfl, rfl⟩
              · rw [if_neg h8] at EH
                have e1 : Hid (r1 = i + 4) := (congrArg Prod.fst EH).symm
                have e2 : Hid (r2 = 0) := (congrArg Prod.snd EH).symm
                have t8 : decide ((8192 : Int) < (i : Int) + 4) = false := decide_eq_false (by omega)
                have H8 := hide' h8
                clear EH h8
                go_wp2_with fail
                go_ret2
                rw [e1.out, e2.out]
                exact ⟨rfl, rfl⟩
    · have EH := (end_short' bs i (by rw [N.out]; omega)).symm.trans HE.out
      rw [N.out] at EH
      have tl : decide ((i : Int) + 3 < (n : Int)) = false := decide_eq_false (by omega)
      have HL := hide' hlt
      clear hlt
      by_cases h8 : 8192 ≤ n
      · rw [if_pos h8] at EH
        have e1 : Hid (r1 = 0) := (congrArg Prod.fst EH).symm
        have e2 : Hid (r2 = 51) := (congrArg Prod.snd EH).symm
        have t8 : decide ((8192 : Int) ≤ (n : Int)) = true := decide_eq_true (by omega)
        clear EH
        go_wp2_with fail
        go_ret2
        rw [e1.out, e2.out]
        exact ⟨rfl, rfl⟩
      · rw [if_neg h8] at EH
        have e1 : Hid (r1 = 0) := (congrArg Prod.fst EH).symm
        have e2 : Hid (r2 = 0) := (congrArg Prod.snd EH).symm
        have t8 : decide ((8192 : Int) ≤ (n : Int)) = false := decide_eq_false (by omega)
        have H8 := hide' h8
        clear EH h8
        go_wp2_with fail
        go_ret2
        rw [e1.out, e2.out]
        exact ⟨rfl, rfl⟩
theorem two_pre (H : List UInt8) (k : Nat) (h0 : k < H.length) (h1 : k + 1 < H.length) : Lib.occAt H E2 k = (((H[k].toNat : Int) == 13) && ((H[k + 1].toNat : Int) == 10)) := by
  unfold Lib.occAt
  rw [List.drop_eq_getElem_cons h0, List.drop_eq_getElem_cons h1]
  have e : ∀ (c d : UInt8), (c == d) = ((d.toNat : Int) == (c.toNat : Int)) := by
    intro c d
    rw [Bool.eq_iff_iff, beq_iff_eq, beq_iff_eq]
    constructor
    · rintro rfl; rfl
    · intro h; exact UInt8.toNat_inj.1 (by omega)
  unfold E2
  simp only [List.isPrefixOf, Bool.and_true]
  rw [e, e]
  rfl
set_option maxRecDepth 20000 in
set_option maxHeartbeats 2000000 in
theorem splitRef (v : Value) (H : List UInt8) (j : Nat) (w : World) (hv : HoldsB w v H) (hj : Lib.index H E2 = j) (hs : H.length < 4294967281) :
    Calls Tryz.prog 19 #[v] w fun e w' => ∃ bv, e = .returned (.tuple #[.string ⟨(H.take j).toArray⟩, bv]) ∧ HoldsB w' bv (H.drop (j + 2)) ∧ Below w.heap.size w w' := by
  have HV := hide' hv
  obtain ⟨ao, cap, rfl, h0, hcp, hc⟩ := hv
  obtain ⟨i1, i2, i3⟩ := index_is _ _ _ hj
  have hjl := occ_len _ _ _ (by decide) i2
  rw [show E2.length = 2 from rfl] at hjl
  obtain ⟨b, off, rfl, hblt, hcell⟩ := hc (fun e => by rw [e] at hjl; simp at hjl)
  have HP := holdsB_pre HV.out j (by omega)
  have hpl : (H.take j).length = j := by rw [List.length_take]; omega
  have CV := fun m => conv_holdsB (w.drewN m) (some ⟨b, off, none⟩) cap (H.take j) (by rw [hpl]; exact holdsB_mono HP (below_drewN w m))
  rw [hpl] at CV
  have HB := holdsB_suf HV.out (j + 2) (by omega)
  have s2 := fun W => from_run (some ⟨b, off, none⟩) H.length cap (j + 2) (by omega) hcp W
  obtain ⟨vb, hvb⟩ : ∃ vb, vb = Lib.fromV (some ⟨b, off, none⟩) H.length cap (j + 2) := ⟨_, rfl⟩
  rw [← hvb] at HB s2
  have HBH := hide' HB
  have s1 : ∀ W, Sem.run Tryz.prog (Instr.slice 22 (.slice (some ⟨b, off, none⟩) H.length cap) none (some (.int .i64 (j : Int))) none) W = .ok (.slice (some ⟨b, off, none⟩) j cap) W := by
    intro W
    have hel : Tryz.prog.elem 22 = 5 := by kernel_rfl
    have h := run_slice_h (P := Tryz.prog) W 22 (some ⟨b, off, none⟩) H.length cap (by rw [hel]; exact Tryz.underlying22) .i64 j (by omega) (by omega)
    rw [hel, Tryz.sizeOf5] at h
    simp only [Result.andThen, Int.toNat_natCast, sliced] at h
    rw [h]
    by_cases hz : cap = 0
    · omega
    · simp [Addr.add]
  obtain ⟨n, en⟩ : ∃ n, n = H.length := ⟨_, rfl⟩
  have N : Hid (H.length = n) := en.symm
  rw [N.out] at hs hcp hjl s1 s2 ⊢
  have I3 := hide' i3
  have I2 := hide' i2
  have HC := hide' hcell
  generalize H.take j = ll at CV ⊢
  have s3 : ∀ W, Sem.run Tryz.prog (Instr.slice 22 (.slice (some ⟨b, off, none⟩) n cap) (some (.int .i64 ((j : Int) + 2))) none none) W = .ok vb W := fun W => s2 W
  clear HB hvb HP hpl i1 i2 i3 hj h0 hc en HV hcell s2
  go_enter Tryz.func19, Tryz.ntmps19
  go_wp2_with fail
  go_loop [4] (fun iv => ∃ k : Nat, k ≤ j ∧ iv = .int .i64 k) (fun iv => j - (intOf iv).toNat)
  case atStart => exact ⟨0, by omega, rfl⟩
  case round =>
    obtain ⟨k, hk, rfl⟩ := hrel
    have G0 : Hid (k < H.length) := by unfold Hid; rw [N.out]; omega
    have G1 : Hid (k + 1 < H.length) := by unfold Hid; rw [N.out]; omega
    have ck0 : w.cell? ⟨b, off + k, none⟩ = some (.int .u8 ((H[k]'G0.out).toNat : Int)) := HC.out k G0.out
    have ck1 : w.cell? ⟨b, off + (k + 1), none⟩ = some (.int .u8 ((H[k + 1]'G1.out).toNat : Int)) := HC.out (k + 1) G1.out
    have b0 := byte_lt (H[k]'G0.out)
    have b1 := byte_lt (H[k + 1]'G1.out)
    have TP := two_pre H k G0.out G1.out
    have kn0 : k < n := by omega
    have kn1 : k + 1 < n := by omega
    generalize (H[k]'G0.out).toNat = c0 at ck0 b0 TP
    generalize (H[k + 1]'G1.out).toNat = c1 at ck1 b1 TP
    by_cases hkj : k = j
    · subst hkj
      rw [I2.out] at TP
      have q0 : ((c0 : Int) != 13) = false := by
        have := TP.symm; simp only [Bool.and_eq_true] at this
        rw [bne, this.1]; rfl
      have q1 : ((c1 : Int) != 10) = false := by
        have := TP.symm; simp only [Bool.and_eq_true] at this
        rw [bne, this.2]; rfl
      clear TP
      go_wp2_with fail
      go_quiet (fail)
      go_wp2_with fail
      go_ret2
      exact ⟨vb, rfl, holdsB_mono HBH.out (below_drewN w _), below_drewN w _⟩
    · have hkj' : k < j := by omega
      rw [I3.out k hkj'] at TP
      cases q0 : ((c0 : Int) == 13) with
      | false =>
        have q0' : ((c0 : Int) != 13) = true := by rw [bne, q0]; rfl
        clear TP q0 hkj
        go_wp2_with fail
        go_round
        case rel => exact ⟨k + 1, by omega, by go_num⟩
        case measure => simp [intOf]; omega
      | true =>
        have q0' : ((c0 : Int) != 13) = false := by rw [bne, q0]; rfl
        have q1' : ((c1 : Int) != 10) = true := by
          rw [q0, Bool.true_and] at TP
          rw [bne, ← TP]; rfl
        clear TP q0 hkj
        go_wp2_with fail
        go_round
        case rel => exact ⟨k + 1, by omega, by go_num⟩
        case measure => simp [intOf]; omega
end Go.Proofs.YtbbaajlabpjnlabGreatDoor
