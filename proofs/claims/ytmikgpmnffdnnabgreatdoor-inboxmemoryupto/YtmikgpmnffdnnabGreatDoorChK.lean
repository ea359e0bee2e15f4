/- The contracts of the document's tail and Decode. -/
import Derived.Test.YtmikgpmnffdnnabGreatDoorChJ
import Derived.Test.YtmikgpmnffdnnabGreatDoorBl
namespace Go.Proofs.YtmikgpmnffdnnabGreatDoor
open Go.RowKit
theorem tail_no (bs : List UInt8) (r : Nat × Int) (hp : pairB bs = false) (h : endOf bs 0 = r) (h0 : r.1 = 0) : tailC bs = ([], 0, r.2) := by
  subst h
  unfold tailC
  rw [hp, if_neg (by simp), if_pos h0]
theorem tail_at (bs : List UInt8) (i : Nat) (hp : pairB bs = false) (h : endOf bs 0 = (i + 4, 0)) : tailC bs = if (parseOf (bs.take (i + 2))).2 = 0 then ((parseOf (bs.take (i + 2))).1, i + 4, 0) else ([], 0, (parseOf (bs.take (i + 2))).2) := by
  unfold tailC
  rw [hp, if_neg (by simp), h]
  simp only
  rw [if_neg (by omega), show i + 4 - 2 = i + 2 by omega]
set_option maxRecDepth 20000 in
set_option maxHeartbeats 8000000 in
theorem tailRef (v : Value) (bs : List UInt8) (w : World) (hv : HoldsB w v bs) (hs : bs.length < 4294967281) :
    Calls Tryz.prog 75 #[v] w fun e w' => ∃ lv, e = .returned (tlV (tailC bs) lv) ∧ OwnF w lv (tailC bs).1 w' := by
  have HV := hide' hv
  obtain ⟨ao, cap, rfl, h0, hcp, hc⟩ := hv
  have C := hide' hc
  obtain ⟨n, en⟩ : ∃ n, n = bs.length := ⟨_, rfl⟩
  have N : Hid (bs.length = n) := en.symm
  rw [N.out] at hs hcp ⊢
  obtain ⟨TC, hTC⟩ : ∃ TC, TC = tailC bs := ⟨_, rfl⟩
  have HT := hide' hTC
  rw [← hTC]
  cases hp : pairB bs with
  | true =>
    have RE : Hid (TC = ([], 2, 0)) := by unfold Hid; rw [HT.out]; unfold tailC; rw [if_pos hp]
    have h2 := pair_len hp
    rw [N.out] at h2
    have G0 : Hid (0 < bs.length) := by unfold Hid; rw [N.out]; omega
    have G1 : Hid (1 < bs.length) := by unfold Hid; rw [N.out]; omega
    obtain ⟨b, off, hao, hblt, hcell⟩ := C.out (fun e => by have := G0.out; rw [e] at this; simp at this)
    subst hao
    have PF := pair_first bs G0.out G1.out
    rw [hp] at PF
    have PF' := PF.symm
    rw [Bool.and_eq_true] at PF'
    obtain ⟨q0, q1⟩ := PF'
    have ck0 : w.cell? ⟨b, off, none⟩ = some (.int .u8 ((bs[0]'G0.out).toNat : Int)) := hcell 0 G0.out
    have ck1 : w.cell? ⟨b, off + 1, none⟩ = some (.int .u8 ((bs[1]'G1.out).toNat : Int)) := hcell 1 G1.out
    have b0 := byte_lt (bs[0]'G0.out)
    have b1 := byte_lt (bs[1]'G1.out)
    have hn2 : (2 : Int) ≤ (n : Int) := by omega
    generalize (bs[0]'G0.out).toNat = c0 at ck0 b0 q0
    generalize (bs[1]'G1.out).toNat = c1 at ck1 b1 q1
    clear hp hc h0 en hTC hcell PF C HV
    go_enter Tryz.func75, Tryz.ntmps75
    go_wp2_with fail
    go_ret3
    rw [RE.out]
    exact ⟨.slice none 0 0, rfl, ownF_nil _ _ (Below.refl _ _)⟩
  | false =>
    obtain ⟨r1, hr1⟩ : ∃ r1, r1 = (endOf bs 0).1 := ⟨_, rfl⟩
    obtain ⟨r2, hr2⟩ : ∃ r2, r2 = (endOf bs 0).2 := ⟨_, rfl⟩
    have HR : Hid (endOf bs 0 = (r1, r2)) := by unfold Hid; rw [hr1, hr2]
    have TN := hide' (fun h0 => HT.out.trans (tail_no bs (r1, r2) hp HR.out h0))
    have TA := hide' (fun i (h : (r1, r2) = (i + 4, 0)) => HT.out.trans (tail_at bs i hp (HR.out.trans h)))
    have cP := hide' (fun k (hk : k ≤ n) => holdsB_take HV.out k (by rw [N.out]; exact hk))
    have key : n < 2 ∨ (2 ≤ n ∧ ∃ b off c0, ao = some ⟨b, off, none⟩ ∧ w.cell? ⟨b, off, none⟩ = some (.int .u8 ((c0 : Nat) : Int)) ∧ c0 < 256 ∧ ((c0 : Int) == 13) = false) ∨
        (2 ≤ n ∧ ∃ b off c0 c1, ao = some ⟨b, off, none⟩ ∧ w.cell? ⟨b, off, none⟩ = some (.int .u8 ((c0 : Nat) : Int)) ∧ c0 < 256 ∧ ((c0 : Int) == 13) = true ∧ w.cell? ⟨b, off + 1, none⟩ = some (.int .u8 ((c1 : Nat) : Int)) ∧ c1 < 256 ∧ ((c1 : Int) == 10) = false) := by
      rcases Nat.lt_or_ge n 2 with h2 | h2
      · exact .inl h2
      · right
        have G0 : 0 < bs.length := by rw [N.out]; omega
        have G1 : 1 < bs.length := by rw [N.out]; omega
        obtain ⟨b, off, hao, hblt, hcell⟩ := C.out (fun e => by rw [e] at G0; simp at G0)
        have PF := pair_first bs G0 G1
        rw [hp] at PF
        have ck0 : w.cell? ⟨b, off, none⟩ = some (.int .u8 ((bs[0]'G0).toNat : Int)) := hcell 0 G0
        have ck1 : w.cell? ⟨b, off + 1, none⟩ = some (.int .u8 ((bs[1]'G1).toNat : Int)) := hcell 1 G1
        cases q0 : (((bs[0]'G0).toNat : Int) == 13) with
        | false => exact .inl ⟨h2, b, off, _, hao, ck0, UInt8.toNat_lt _, q0⟩
        | true =>
          rw [q0, Bool.true_and] at PF
          exact .inr ⟨h2, b, off, _, _, hao, ck0, UInt8.toNat_lt _, q0, ck1, UInt8.toNat_lt _, PF.symm⟩
    clear hr1 hr2 hp hc h0 en hTC HT
    rcases key with h2 | ⟨h2, fb, fo, fc0, fao, fk0, fl0, fq0⟩ | ⟨h2, fb, fo, fc0, fc1, fao, fk0, fl0, fq0, fk1, fl1, fq1⟩
    · have hn2 : (n : Int) < 2 := by omega
      go_enter Tryz.func75, Tryz.ntmps75
      go_wp2_with fail
      go_loop [5] (fun iv => ∃ i : Nat, i ≤ n ∧ iv = .int .i64 i ∧ Hid (endOf bs i = (r1, r2))) (fun iv => n - (intOf iv).toNat)
      case atStart => exact ⟨0, Nat.zero_le _, rfl, HR⟩
      case round =>
        obtain ⟨i, hi, rfl, HE⟩ := hrel
        by_cases hlt : i + 3 < n
        · obtain ⟨b, off, hao, hblt, hcell⟩ := C.out (fun e => by have := N.out; rw [e] at this; simp at this; omega)
          subst hao
          have G0 : Hid (i < bs.length) := by unfold Hid; rw [N.out]; omega
          have G1 : Hid (i + 1 < bs.length) := by unfold Hid; rw [N.out]; omega
          have G2 : Hid (i + 2 < bs.length) := by unfold Hid; rw [N.out]; omega
          have G3 : Hid (i + 3 < bs.length) := by unfold Hid; rw [N.out]; omega
          have ck0 : w.cell? ⟨b, off + i, none⟩ = some (.int .u8 ((bs[i]'G0.out).toNat : Int)) := hcell i G0.out
          have ck1 : w.cell? ⟨b, off + (i + 1), none⟩ = some (.int .u8 ((bs[i + 1]'G1.out).toNat : Int)) := hcell (i + 1) G1.out
          have ck2 : w.cell? ⟨b, off + (i + 2), none⟩ = some (.int .u8 ((bs[i + 2]'G2.out).toNat : Int)) := hcell (i + 2) G2.out
          have ck3 : w.cell? ⟨b, off + (i + 3), none⟩ = some (.int .u8 ((bs[i + 3]'G3.out).toNat : Int)) := hcell (i + 3) G3.out
          have b0 := byte_lt (bs[i]'G0.out)
          have b1 := byte_lt (bs[i + 1]'G1.out)
          have b2 := byte_lt (bs[i + 2]'G2.out)
          have b3 := byte_lt (bs[i + 3]'G3.out)
          have FP := four_pre bs i G0.out G1.out G2.out G3.out
          have tl : decide ((i : Int) + 3 < (n : Int)) = true := decide_eq_true (by omega)
          have NX := fun ho => hide' ((end_next bs i G0.out ho).trans HE.out)
          have HH := fun ho => (end_here bs i ho).symm.trans HE.out
          obtain ⟨pv, s1, HP⟩ := cP.out (i + 2) (by omega)
          have hpl : (bs.take (i + 2)).length < 4294967281 := by rw [List.length_take, N.out]; omega
          have cF := parseRef pv (bs.take (i + 2)) w HP hpl
          have TAi := hide' (TA.out i)
          generalize (bs[i]'G0.out).toNat = c0 at ck0 b0 FP
          generalize (bs[i + 1]'G1.out).toNat = c1 at ck1 b1 FP
          generalize (bs[i + 2]'G2.out).toNat = c2 at ck2 b2 FP
          generalize (bs[i + 3]'G3.out).toNat = c3 at ck3 b3 FP
          rw [N.out] at s1
          have S1 : ∀ W, Sem.run Tryz.prog (Instr.slice 22 (.slice (some ⟨b, off, none⟩) n cap) none (some (.int .i64 ((i : Int) + 2))) none) W = .ok pv W := by
            intro W
            have := s1 W
            rwa [Int.natCast_add] at this
          clear hcell s1 HP hpl
          cases q0 : ((c0 : Int) == 13) with
          | false =>
            have NE := NX (by rw [FP, q0]; simp)
            clear NX HH FP cF TAi S1
            go_wp2_with fail
            go_round
            case rel => exact ⟨i + 1, by omega, by go_num, NE⟩
            case measure => simp [intOf]; omega
          | true =>
            cases q1 : ((c1 : Int) == 10) with
            | false =>
              have NE := NX (by rw [FP, q1]; simp)
              clear NX HH FP cF TAi S1
              go_wp2_with fail
              go_round
              case rel => exact ⟨i + 1, by omega, by go_num, NE⟩
              case measure => simp [intOf]; omega
            | true =>
              cases q2 : ((c2 : Int) == 13) with
              | false =>
                have NE := NX (by rw [FP, q2]; simp)
                clear NX HH FP cF TAi S1
                go_wp2_with fail
                go_round
                case rel => exact ⟨i + 1, by omega, by go_num, NE⟩
                case measure => simp [intOf]; omega
              | true =>
                cases q3 : ((c3 : Int) == 10) with
                | false =>
                  have NE := NX (by rw [FP, q3]; simp)
                  clear NX HH FP cF TAi S1
                  go_wp2_with fail
                  go_round
                  case rel => exact ⟨i + 1, by omega, by go_num, NE⟩
                  case measure => simp [intOf]; omega
                | true =>
                  have EH := HH (by rw [FP, q0, q1, q2, q3]; rfl)
                  clear NX HH FP
                  by_cases h8 : 8192 < i + 4
                  · rw [if_pos h8] at EH
                    have e1 : r1 = 0 := (congrArg Prod.fst EH).symm
                    have e2 : r2 = 51 := (congrArg Prod.snd EH).symm
                    have RE : Hid (TC = ([], 0, 51)) := by unfold Hid; rw [TN.out e1, e2]
                    have t8 : decide ((8192 : Int) < (i : Int) + 4) = true := decide_eq_true (by omega)
                    clear EH cF TAi S1 e1 e2
                    go_wp2_with fail
                    go_ret3
                    rw [RE.out]
                    exact ⟨.slice none 0 0, rfl, ownF_nil _ _ (Below.refl _ _)⟩
                  · rw [if_neg h8] at EH
                    have RE := hide' (TAi.out EH.symm)
                    have t8 : decide ((8192 : Int) < (i : Int) + 4) = false := decide_eq_false (by omega)
                    have H8 := hide' h8
                    generalize parseOf (bs.take (i + 2)) = f at RE cF
                    obtain ⟨fs, fe⟩ := f
                    simp only at RE cF
                    have CF := hide' cF
                    clear EH h8 cF TAi
                    go_wp2_with fail
                    refine CF.out.mono ?_
                    rintro e w2 ⟨lv, rfl, ho⟩
                    have O2 := hide' ho
                    clear ho CF
                    by_cases g2 : fe = 0
                    · subst g2
                      rw [if_pos rfl] at RE
                      go_wp2_with fail
                      go_ret3
                      rw [RE.out]
                      exact ⟨lv, rfl, O2.out⟩
                    · have t2' : (fe != 0) = true := by simpa using g2
                      rw [if_neg g2] at RE
                      clear g2
                      go_wp2_with fail
                      go_ret3
                      rw [RE.out]
                      exact ⟨.slice none 0 0, rfl, ownF_nil _ _ O2.out.2⟩
        · have EH := (end_short' bs i (by rw [N.out]; omega)).symm.trans HE.out
          rw [N.out] at EH
          have tl : decide ((i : Int) + 3 < (n : Int)) = false := decide_eq_false (by omega)
          have HL := hide' hlt
          clear hlt
          by_cases h8 : 8192 ≤ n
          · rw [if_pos h8] at EH
            have e1 : r1 = 0 := (congrArg Prod.fst EH).symm
            have e2 : r2 = 51 := (congrArg Prod.snd EH).symm
            have RE : Hid (TC = ([], 0, 51)) := by unfold Hid; rw [TN.out e1, e2]
            have t8 : decide ((8192 : Int) ≤ (n : Int)) = true := decide_eq_true (by omega)
            clear EH e1 e2
            go_wp2_with fail
            go_ret3
            rw [RE.out]
            exact ⟨.slice none 0 0, rfl, ownF_nil _ _ (Below.refl _ _)⟩
          · rw [if_neg h8] at EH
            have e1 : r1 = 0 := (congrArg Prod.fst EH).symm
            have e2 : r2 = 0 := (congrArg Prod.snd EH).symm
            have RE : Hid (TC = ([], 0, 0)) := by unfold Hid; rw [TN.out e1, e2]
            have t8 : decide ((8192 : Int) ≤ (n : Int)) = false := decide_eq_false (by omega)
            have H8 := hide' h8
            clear EH h8 e1 e2
            go_wp2_with fail
            go_ret3
            rw [RE.out]
            exact ⟨.slice none 0 0, rfl, ownF_nil _ _ (Below.refl _ _)⟩
    · subst fao
      have hn2 : (2 : Int) ≤ (n : Int) := by omega
      go_enter Tryz.func75, Tryz.ntmps75
      go_wp2_with fail
      go_loop [5] (fun iv => ∃ i : Nat, i ≤ n ∧ iv = .int .i64 i ∧ Hid (endOf bs i = (r1, r2))) (fun iv => n - (intOf iv).toNat)
      case atStart => exact ⟨0, Nat.zero_le _, rfl, HR⟩
      case round =>
        obtain ⟨i, hi, rfl, HE⟩ := hrel
        by_cases hlt : i + 3 < n
        · obtain ⟨b, off, hao, hblt, hcell⟩ := C.out (fun e => by have := N.out; rw [e] at this; simp at this; omega)
          have hao2 : fb = b ∧ fo = off := by simpa using hao
          obtain ⟨rfl, rfl⟩ := hao2
          have G0 : Hid (i < bs.length) := by unfold Hid; rw [N.out]; omega
          have G1 : Hid (i + 1 < bs.length) := by unfold Hid; rw [N.out]; omega
          have G2 : Hid (i + 2 < bs.length) := by unfold Hid; rw [N.out]; omega
          have G3 : Hid (i + 3 < bs.length) := by unfold Hid; rw [N.out]; omega
          have ck0 : w.cell? ⟨fb, fo + i, none⟩ = some (.int .u8 ((bs[i]'G0.out).toNat : Int)) := hcell i G0.out
          have ck1 : w.cell? ⟨fb, fo + (i + 1), none⟩ = some (.int .u8 ((bs[i + 1]'G1.out).toNat : Int)) := hcell (i + 1) G1.out
          have ck2 : w.cell? ⟨fb, fo + (i + 2), none⟩ = some (.int .u8 ((bs[i + 2]'G2.out).toNat : Int)) := hcell (i + 2) G2.out
          have ck3 : w.cell? ⟨fb, fo + (i + 3), none⟩ = some (.int .u8 ((bs[i + 3]'G3.out).toNat : Int)) := hcell (i + 3) G3.out
          have b0 := byte_lt (bs[i]'G0.out)
          have b1 := byte_lt (bs[i + 1]'G1.out)
          have b2 := byte_lt (bs[i + 2]'G2.out)
          have b3 := byte_lt (bs[i + 3]'G3.out)
          have FP := four_pre bs i G0.out G1.out G2.out G3.out
          have tl : decide ((i : Int) + 3 < (n : Int)) = true := decide_eq_true (by omega)
          have NX := fun ho => hide' ((end_next bs i G0.out ho).trans HE.out)
          have HH := fun ho => (end_here bs i ho).symm.trans HE.out
          obtain ⟨pv, s1, HP⟩ := cP.out (i + 2) (by omega)
          have hpl : (bs.take (i + 2)).length < 4294967281 := by rw [List.length_take, N.out]; omega
          have cF := parseRef pv (bs.take (i + 2)) w HP hpl
          have TAi := hide' (TA.out i)
          generalize (bs[i]'G0.out).toNat = c0 at ck0 b0 FP
          generalize (bs[i + 1]'G1.out).toNat = c1 at ck1 b1 FP
          generalize (bs[i + 2]'G2.out).toNat = c2 at ck2 b2 FP
          generalize (bs[i + 3]'G3.out).toNat = c3 at ck3 b3 FP
          rw [N.out] at s1
          have S1 : ∀ W, Sem.run Tryz.prog (Instr.slice 22 (.slice (some ⟨fb, fo, none⟩) n cap) none (some (.int .i64 ((i : Int) + 2))) none) W = .ok pv W := by
            intro W
            have := s1 W
            rwa [Int.natCast_add] at this
          clear hcell s1 HP hpl fk0 fq0
          cases q0 : ((c0 : Int) == 13) with
          | false =>
            have NE := NX (by rw [FP, q0]; simp)
            clear NX HH FP cF TAi S1
            go_wp2_with fail
            go_round
            case rel => exact ⟨i + 1, by omega, by go_num, NE⟩
            case measure => simp [intOf]; omega
          | true =>
            cases q1 : ((c1 : Int) == 10) with
            | false =>
              have NE := NX (by rw [FP, q1]; simp)
              clear NX HH FP cF TAi S1
              go_wp2_with fail
              go_round
              case rel => exact ⟨i + 1, by omega, by go_num, NE⟩
              case measure => simp [intOf]; omega
            | true =>
              cases q2 : ((c2 : Int) == 13) with
              | false =>
                have NE := NX (by rw [FP, q2]; simp)
                clear NX HH FP cF TAi S1
                go_wp2_with fail
                go_round
                case rel => exact ⟨i + 1, by omega, by go_num, NE⟩
                case measure => simp [intOf]; omega
              | true =>
                cases q3 : ((c3 : Int) == 10) with
                | false =>
                  have NE := NX (by rw [FP, q3]; simp)
                  clear NX HH FP cF TAi S1
                  go_wp2_with fail
                  go_round
                  case rel => exact ⟨i + 1, by omega, by go_num, NE⟩
                  case measure => simp [intOf]; omega
                | true =>
                  have EH := HH (by rw [FP, q0, q1, q2, q3]; rfl)
                  clear NX HH FP
                  by_cases h8 : 8192 < i + 4
                  · rw [if_pos h8] at EH
                    have e1 : r1 = 0 := (congrArg Prod.fst EH).symm
                    have e2 : r2 = 51 := (congrArg Prod.snd EH).symm
                    have RE : Hid (TC = ([], 0, 51)) := by unfold Hid; rw [TN.out e1, e2]
                    have t8 : decide ((8192 : Int) < (i : Int) + 4) = true := decide_eq_true (by omega)
                    clear EH cF TAi S1 e1 e2
                    go_wp2_with fail
                    go_ret3
                    rw [RE.out]
                    exact ⟨.slice none 0 0, rfl, ownF_nil _ _ (Below.refl _ _)⟩
                  · rw [if_neg h8] at EH
                    have RE := hide' (TAi.out EH.symm)
                    have t8 : decide ((8192 : Int) < (i : Int) + 4) = false := decide_eq_false (by omega)
                    have H8 := hide' h8
                    generalize parseOf (bs.take (i + 2)) = f at RE cF
                    obtain ⟨fs, fe⟩ := f
                    simp only at RE cF
                    have CF := hide' cF
                    clear EH h8 cF TAi
                    go_wp2_with fail
                    refine CF.out.mono ?_
                    rintro e w2 ⟨lv, rfl, ho⟩
                    have O2 := hide' ho
                    clear ho CF
                    by_cases g2 : fe = 0
                    · subst g2
                      rw [if_pos rfl] at RE
                      go_wp2_with fail
                      go_ret3
                      rw [RE.out]
                      exact ⟨lv, rfl, O2.out⟩
                    · have t2' : (fe != 0) = true := by simpa using g2
                      rw [if_neg g2] at RE
                      clear g2
                      go_wp2_with fail
                      go_ret3
                      rw [RE.out]
                      exact ⟨.slice none 0 0, rfl, ownF_nil _ _ O2.out.2⟩
        · have EH := (end_short' bs i (by rw [N.out]; omega)).symm.trans HE.out
          rw [N.out] at EH
          have tl : decide ((i : Int) + 3 < (n : Int)) = false := decide_eq_false (by omega)
          have HL := hide' hlt
          clear hlt
          by_cases h8 : 8192 ≤ n
          · rw [if_pos h8] at EH
            have e1 : r1 = 0 := (congrArg Prod.fst EH).symm
            have e2 : r2 = 51 := (congrArg Prod.snd EH).symm
            have RE : Hid (TC = ([], 0, 51)) := by unfold Hid; rw [TN.out e1, e2]
            have t8 : decide ((8192 : Int) ≤ (n : Int)) = true := decide_eq_true (by omega)
            clear EH e1 e2
            go_wp2_with fail
            go_ret3
            rw [RE.out]
            exact ⟨.slice none 0 0, rfl, ownF_nil _ _ (Below.refl _ _)⟩
          · rw [if_neg h8] at EH
            have e1 : r1 = 0 := (congrArg Prod.fst EH).symm
            have e2 : r2 = 0 := (congrArg Prod.snd EH).symm
            have RE : Hid (TC = ([], 0, 0)) := by unfold Hid; rw [TN.out e1, e2]
            have t8 : decide ((8192 : Int) ≤ (n : Int)) = false := decide_eq_false (by omega)
            have H8 := hide' h8
            clear EH h8 e1 e2
            go_wp2_with fail
            go_ret3
            rw [RE.out]
            exact ⟨.slice none 0 0, rfl, ownF_nil _ _ (Below.refl _ _)⟩
    · subst fao
      have hn2 : (2 : Int) ≤ (n : Int) := by omega
      go_enter Tryz.func75, Tryz.ntmps75
      go_wp2_with fail
      go_loop [5] (fun iv => ∃ i : Nat, i ≤ n ∧ iv = .int .i64 i ∧ Hid (endOf bs i = (r1, r2))) (fun iv => n - (intOf iv).toNat)
      case atStart => exact ⟨0, Nat.zero_le _, rfl, HR⟩
      case round =>
        obtain ⟨i, hi, rfl, HE⟩ := hrel
        by_cases hlt : i + 3 < n
        · obtain ⟨b, off, hao, hblt, hcell⟩ := C.out (fun e => by have := N.out; rw [e] at this; simp at this; omega)
          have hao2 : fb = b ∧ fo = off := by simpa using hao
          obtain ⟨rfl, rfl⟩ := hao2
          have G0 : Hid (i < bs.length) := by unfold Hid; rw [N.out]; omega
          have G1 : Hid (i + 1 < bs.length) := by unfold Hid; rw [N.out]; omega
          have G2 : Hid (i + 2 < bs.length) := by unfold Hid; rw [N.out]; omega
          have G3 : Hid (i + 3 < bs.length) := by unfold Hid; rw [N.out]; omega
          have ck0 : w.cell? ⟨fb, fo + i, none⟩ = some (.int .u8 ((bs[i]'G0.out).toNat : Int)) := hcell i G0.out
          have ck1 : w.cell? ⟨fb, fo + (i + 1), none⟩ = some (.int .u8 ((bs[i + 1]'G1.out).toNat : Int)) := hcell (i + 1) G1.out
          have ck2 : w.cell? ⟨fb, fo + (i + 2), none⟩ = some (.int .u8 ((bs[i + 2]'G2.out).toNat : Int)) := hcell (i + 2) G2.out
          have ck3 : w.cell? ⟨fb, fo + (i + 3), none⟩ = some (.int .u8 ((bs[i + 3]'G3.out).toNat : Int)) := hcell (i + 3) G3.out
          have b0 := byte_lt (bs[i]'G0.out)
          have b1 := byte_lt (bs[i + 1]'G1.out)
          have b2 := byte_lt (bs[i + 2]'G2.out)
          have b3 := byte_lt (bs[i + 3]'G3.out)
          have FP := four_pre bs i G0.out G1.out G2.out G3.out
          have tl : decide ((i : Int) + 3 < (n : Int)) = true := decide_eq_true (by omega)
          have NX := fun ho => hide' ((end_next bs i G0.out ho).trans HE.out)
          have HH := fun ho => (end_here bs i ho).symm.trans HE.out
          obtain ⟨pv, s1, HP⟩ := cP.out (i + 2) (by omega)
          have hpl : (bs.take (i + 2)).length < 4294967281 := by rw [List.length_take, N.out]; omega
          have cF := parseRef pv (bs.take (i + 2)) w HP hpl
          have TAi := hide' (TA.out i)
          generalize (bs[i]'G0.out).toNat = c0 at ck0 b0 FP
          generalize (bs[i + 1]'G1.out).toNat = c1 at ck1 b1 FP
          generalize (bs[i + 2]'G2.out).toNat = c2 at ck2 b2 FP
          generalize (bs[i + 3]'G3.out).toNat = c3 at ck3 b3 FP
          rw [N.out] at s1
          have S1 : ∀ W, Sem.run Tryz.prog (Instr.slice 22 (.slice (some ⟨fb, fo, none⟩) n cap) none (some (.int .i64 ((i : Int) + 2))) none) W = .ok pv W := by
            intro W
            have := s1 W
            rwa [Int.natCast_add] at this
          clear hcell s1 HP hpl fk0 fq0 fk1 fq1
          cases q0 : ((c0 : Int) == 13) with
          | false =>
            have NE := NX (by rw [FP, q0]; simp)
            clear NX HH FP cF TAi S1
            go_wp2_with fail
            go_round
            case rel => exact ⟨i + 1, by omega, by go_num, NE⟩
            case measure => simp [intOf]; omega
          | true =>
            cases q1 : ((c1 : Int) == 10) with
            | false =>
              have NE := NX (by rw [FP, q1]; simp)
              clear NX HH FP cF TAi S1
              go_wp2_with fail
              go_round
              case rel => exact ⟨i + 1, by omega, by go_num, NE⟩
              case measure => simp [intOf]; omega
            | true =>
              cases q2 : ((c2 : Int) == 13) with
              | false =>
                have NE := NX (by rw [FP, q2]; simp)
                clear NX HH FP cF TAi S1
                go_wp2_with fail
                go_round
                case rel => exact ⟨i + 1, by omega, by go_num, NE⟩
                case measure => simp [intOf]; omega
              | true =>
                cases q3 : ((c3 : Int) == 10) with
                | false =>
                  have NE := NX (by rw [FP, q3]; simp)
                  clear NX HH FP cF TAi S1
                  go_wp2_with fail
                  go_round
                  case rel => exact ⟨i + 1, by omega, by go_num, NE⟩
                  case measure => simp [intOf]; omega
                | true =>
                  have EH := HH (by rw [FP, q0, q1, q2, q3]; rfl)
                  clear NX HH FP
                  by_cases h8 : 8192 < i + 4
                  · rw [if_pos h8] at EH
                    have e1 : r1 = 0 := (congrArg Prod.fst EH).symm
                    have e2 : r2 = 51 := (congrArg Prod.snd EH).symm
                    have RE : Hid (TC = ([], 0, 51)) := by unfold Hid; rw [TN.out e1, e2]
                    have t8 : decide ((8192 : Int) < (i : Int) + 4) = true := decide_eq_true (by omega)
                    clear EH cF TAi S1 e1 e2
                    go_wp2_with fail
                    go_ret3
                    rw [RE.out]
                    exact ⟨.slice none 0 0, rfl, ownF_nil _ _ (Below.refl _ _)⟩
                  · rw [if_neg h8] at EH
                    have RE := hide' (TAi.out EH.symm)
                    have t8 : decide ((8192 : Int) < (i : Int) + 4) = false := decide_eq_false (by omega)
                    have H8 := hide' h8
                    generalize parseOf (bs.take (i + 2)) = f at RE cF
                    obtain ⟨fs, fe⟩ := f
                    simp only at RE cF
                    have CF := hide' cF
                    clear EH h8 cF TAi
                    go_wp2_with fail
                    refine CF.out.mono ?_
                    rintro e w2 ⟨lv, rfl, ho⟩
                    have O2 := hide' ho
                    clear ho CF
                    by_cases g2 : fe = 0
                    · subst g2
                      rw [if_pos rfl] at RE
                      go_wp2_with fail
                      go_ret3
                      rw [RE.out]
                      exact ⟨lv, rfl, O2.out⟩
                    · have t2' : (fe != 0) = true := by simpa using g2
                      rw [if_neg g2] at RE
                      clear g2
                      go_wp2_with fail
                      go_ret3
                      rw [RE.out]
                      exact ⟨.slice none 0 0, rfl, ownF_nil _ _ O2.out.2⟩
        · have EH := (end_short' bs i (by rw [N.out]; omega)).symm.trans HE.out
          rw [N.out] at EH
          have tl : decide ((i : Int) + 3 < (n : Int)) = false := decide_eq_false (by omega)
          have HL := hide' hlt
          clear hlt
          by_cases h8 : 8192 ≤ n
          · rw [if_pos h8] at EH
            have e1 : r1 = 0 := (congrArg Prod.fst EH).symm
            have e2 : r2 = 51 := (congrArg Prod.snd EH).symm
            have RE : Hid (TC = ([], 0, 51)) := by unfold Hid; rw [TN.out e1, e2]
            have t8 : decide ((8192 : Int) ≤ (n : Int)) = true := decide_eq_true (by omega)
            clear EH e1 e2
            go_wp2_with fail
            go_ret3
            rw [RE.out]
            exact ⟨.slice none 0 0, rfl, ownF_nil _ _ (Below.refl _ _)⟩
          · rw [if_neg h8] at EH
            have e1 : r1 = 0 := (congrArg Prod.fst EH).symm
            have e2 : r2 = 0 := (congrArg Prod.snd EH).symm
            have RE : Hid (TC = ([], 0, 0)) := by unfold Hid; rw [TN.out e1, e2]
            have t8 : decide ((8192 : Int) ≤ (n : Int)) = false := decide_eq_false (by omega)
            have H8 := hide' h8
            clear EH h8 e1 e2
            go_wp2_with fail
            go_ret3
            rw [RE.out]
            exact ⟨.slice none 0 0, rfl, ownF_nil _ _ (Below.refl _ _)⟩
theorem ds_zero {b : List UInt8} {s : Nat} {out : List UInt8} {fs : FL} {n : Nat} (h : DS b 0 s out fs n) (s2 : Nat) (fs2 : FL) (hf : fs2 = []) : DS b 0 s2 out fs2 n := by
  obtain ⟨h1, h2, h3 | h3 | h3 | h3⟩ := h
  · exact ⟨h1, h2, .inl ⟨rfl, hf, h3.2.2⟩⟩
  · exact absurd h3.1 (by decide)
  · exact absurd h3.1 (by decide)
  · exact absurd h3.1 (by decide)
set_option maxRecDepth 20000 in
set_option maxHeartbeats 8000000 in
theorem decRef (v : Value) (bs : List UInt8) (w : World) (hv : HoldsB w v bs) (hs : bs.length < 4294967281) :
    Calls Tryz.prog 46 #[v] w fun e w' => ∃ dv lv, e = .returned (decV (decOf bs) dv lv) ∧ Own w dv (decOf bs).1 w' ∧ OwnF w lv (decOf bs).2.1 w' := by
  have HV := hide' hv
  obtain ⟨ao, cap, rfl, h0, hcp, hc⟩ := hv
  have C := hide' hc
  obtain ⟨N, hN⟩ : ∃ N, N = bs.length := ⟨_, rfl⟩
  have HN := hide' hN
  rw [← hN] at hs hcp ⊢
  clear hN h0 hc
  obtain ⟨D, hD⟩ : ∃ D, D = decOf bs := ⟨_, rfl⟩
  have HD := hide' hD
  rw [← hD]
  clear hD
  go_enter Tryz.func46, Tryz.ntmps46
  go_wp2_with fail
  go_loopw [6, 7] (fun ov av wr => ∃ (n : Nat) (out : List UInt8), av = .int .i64 n ∧ n ≤ N ∧ out.length ≤ 65536 ∧ Hid (Own w ov out wr) ∧ Hid (DS bs 0 0 out [] n)) (fun _ av _ => N - (intOf av).toNat)
  case atStart => exact ⟨0, [], rfl, Nat.zero_le _, by simp, own_empty w, ds_start bs⟩
  case round =>
    obtain ⟨n, out, rfl, hn, hol, OW, ds⟩ := hrel
    have hb := OW.out.2
    have HB := hide' hb
    have sl := fun W => from_run ao N cap n hn hcp W
    have HS := holdsB_suf HV.out n (by rw [← HN.out]; exact hn)
    rw [← HN.out] at HS
    obtain ⟨vs, hvs⟩ : ∃ vs, vs = Lib.fromV ao N cap n := ⟨_, rfl⟩
    rw [← hvs] at HS sl
    have dl : (bs.drop n).length = N - n := by rw [List.length_drop, HN.out]
    have cL := lineRef vs (bs.drop n) wr (holdsB_mono HS hb) (by omega)
    unfold lnV at cL
    have st := ds_size ds.out
    have ls := line_size (bs.drop n)
    have key : ((lineC (bs.drop n)).2.1 = 0 ∧ ((lineC (bs.drop n)).2.2 = 0 ∨ (lineC (bs.drop n)).2.2 = 70)) ∨ ((lineC (bs.drop n)).2.1 ≠ 0 ∧ (lineC (bs.drop n)).2.2 = 0 ∧ (lineC (bs.drop n)).2.1 ≤ N - n) := by
      rcases lineC_cases (bs.drop n) with e | e | ⟨s, e, hlt, _⟩
      · rw [e]; exact .inl ⟨rfl, .inl rfl⟩
      · rw [e]; exact .inl ⟨rfl, .inr rfl⟩
      · rw [e]; exact .inr ⟨by simp, rfl, by show lenL (bs.drop n) + 1 ≤ N - n; omega⟩
    obtain ⟨da, dc, hov⟩ := row_slice OW.out.1
    subst hov
    generalize lineC (bs.drop n) = L at cL st ls key
    obtain ⟨l1, l2, l3⟩ := L
    simp only at cL st ls key
    have CL := hide' cL
    have ST := hide' st
    clear cL st hb hvs HS dl ds
    have hN2 : N < 4294967281 := hs
    rcases key with ⟨rfl, hl3⟩ | ⟨hz, rfl, hle⟩
    · have RR := hide' (HD.out.trans (ST.out.1 rfl))
      clear ST
      rcases hl3 with rfl | rfl
      all_goals
        go_wp2_with fail
        refine CL.out.mono ?_
        rintro e w1 ⟨rfl, ew⟩
        rw [ew]
        clear ew w1 CL
        go_wp2_with fail
        exact bodyPost_ret (v := decV D (.slice none 0 0) (.slice none 0 0)) (by rw [RR.out]; simp [results, decV, Tryz.results46, go_sem]) rfl ⟨.slice none 0 0, .slice none 0 0, rfl, by rw [RR.out]; exact own_nil _ _ HB.out, by rw [RR.out]; exact ownF_nil _ _ HB.out⟩
    · have hz' : ((l2 : Int) == 0) = false := by simp; omega
      have D1 := hide' (ST.out.2 hz)
      have hn2 : n + l2 ≤ N := by omega
      have sl2 := fun W (x : Int) (hx : x = ((n + l2 : Nat) : Int)) => (show Sem.run Tryz.prog (Instr.slice 22 (.slice ao N cap) (some (.int .i64 x)) none none) W = .ok (Lib.fromV ao N cap (n + l2)) W by rw [hx]; exact from_run ao N cap (n + l2) hn2 hcp W)
      have HS2 := holdsB_suf HV.out (n + l2) (by rw [← HN.out]; exact hn2)
      rw [← HN.out] at HS2
      obtain ⟨vs2, hvs2⟩ : ∃ vs2, vs2 = Lib.fromV ao N cap (n + l2) := ⟨_, rfl⟩
      rw [← hvs2] at HS2 sl2
      have sl3 := fun W => sl2 W ((n : Int) + (l2 : Int)) (by omega)
      have dl2 : (bs.drop (n + l2)).length = N - (n + l2) := by rw [List.length_drop, HN.out]
      clear ST sl2 hvs2
      by_cases hl1 : l1 = 0
      · subst hl1
        have st := ds_tail D1.out
        have cT := tailRef vs2 (bs.drop (n + l2)) wr (holdsB_mono HS2 HB.out) (by omega)
        have key : ((tailC (bs.drop (n + l2))).2.1 = 0) ∨ ((tailC (bs.drop (n + l2))).2.1 ≠ 0 ∧ (tailC (bs.drop (n + l2))).2.2 = 0 ∧ (tailC (bs.drop (n + l2))).2.1 ≤ N - (n + l2)) := by
          rcases Nat.eq_zero_or_pos (tailC (bs.drop (n + l2))).2.1 with h | h
          · exact .inl h
          · right
            rcases tail_need (bs.drop (n + l2)) with e | e | ⟨h1, h2, h3⟩
            · rw [e] at h; simp at h
            · exfalso
              have := (st.2 (by omega))
              obtain ⟨_, _, q | q | q | q⟩ := this
              · exact absurd q.1 (by decide)
              · exact absurd q.1 (by decide)
              · exact absurd q.1 (by decide)
              · have h7 : (tailC (bs.drop (n + l2))).2.1 = 0 := by
                  unfold tailC at e ⊢
                  split
                  · rename_i q; rw [if_pos q] at e; simp at e
                  · rename_i q
                    rw [if_neg q] at e
                    split
                    · rfl
                    · rename_i q2
                      rw [if_neg q2] at e
                      split
                      · rename_i q3; rw [if_pos q3] at e; simp at e
                      · rfl
                omega
            · exact ⟨by omega, h3, by omega⟩
        unfold tlV at cT
        generalize tailC (bs.drop (n + l2)) = T at cT st key
        obtain ⟨t1, t2, t3⟩ := T
        simp only at cT st key
        have CT := hide' cT
        have ST := hide' st
        clear cT st HS2 dl2 D1
        have z0 : (((0 : Nat) : Int) == 0) = true := rfl
        rcases key with rfl | ⟨tz, rfl, tle⟩
        · have RR := hide' (HD.out.trans (ST.out.1 rfl))
          clear ST
          go_wp2_with fail
          refine CL.out.mono ?_
          rintro e w1 ⟨rfl, ew⟩
          rw [ew]
          clear ew w1 CL
          go_wp2_with fail
          refine CT.out.mono ?_
          rintro e w2 ⟨lv, rfl, ho⟩
          have B2 := hide' (bt' HB.out ho.2)
          clear ho CT
          by_cases t30 : t3 = 0
          · subst t30
            go_wp2_with fail
            exact bodyPost_ret (v := decV D (.slice none 0 0) (.slice none 0 0)) (by rw [RR.out]; simp [results, decV, Tryz.results46, go_sem]) rfl ⟨.slice none 0 0, .slice none 0 0, rfl, by rw [RR.out]; exact own_nil _ _ B2.out, by rw [RR.out]; exact ownF_nil _ _ B2.out⟩
          · have t30' : (t3 != 0) = true := by simpa using t30
            clear t30
            go_wp2_with fail
            exact bodyPost_ret (v := decV D (.slice none 0 0) (.slice none 0 0)) (by rw [RR.out]; simp [results, decV, Tryz.results46, go_sem]) rfl ⟨.slice none 0 0, .slice none 0 0, rfl, by rw [RR.out]; exact own_nil _ _ B2.out, by rw [RR.out]; exact ownF_nil _ _ B2.out⟩
        · have RR := hide' (HD.out.trans (ds_end (ST.out.2 tz)))
          have tz' : ((t2 : Int) == 0) = false := by simp; omega
          clear ST
          go_wp2_with fail
          refine CL.out.mono ?_
          rintro e w1 ⟨rfl, ew⟩
          rw [ew]
          clear ew w1 CL
          go_wp2_with fail
          refine CT.out.mono ?_
          rintro e w2 ⟨lv, rfl, ho⟩
          have O2 := hide' (own_mono OW.out ho.2)
          have F2 := hide' (ownF_base ho HB.out)
          clear ho CT
          go_wp2_with fail
          exact bodyPost_ret (v := decV D (.slice da out.length dc) lv) (by rw [RR.out]; simp [results, decV, Tryz.results46, go_sem]) rfl ⟨.slice da out.length dc, lv, rfl, by rw [RR.out]; exact O2.out, by rw [RR.out]; exact F2.out⟩
      · have hl1' : ((l1 : Int) == 0) = false := by simp; omega
        have D1' := D1.out
        rw [nxOf_pos hl1] at D1'
        have ST := hide' (ds_data D1')
        have DL2 := hide' dl2
        clear D1 D1' dl2 sl3
        obtain ⟨m, hm⟩ : ∃ m, m = n + l2 := ⟨_, rfl⟩
        have HM := hide' hm
        rw [← hm] at hn2
        have hnm : (n : Int) + (l2 : Int) = (m : Int) := by omega
        obtain ⟨k, hk⟩ : ∃ k, k = out.length := ⟨_, rfl⟩
        have HK := hide' hk
        rw [← hk] at hol
        clear hm hk
        by_cases c1 : 65536 < k + l1
        · have RR := hide' (HD.out.trans (ST.out.1 (by rw [← HK.out]; exact c1)))
          have c1' : (65536 : Int) < (k : Int) + (l1 : Int) := by omega
          clear ST
          rw [← HK.out]
          go_wp2_with fail
          refine CL.out.mono ?_
          rintro e w1 ⟨rfl, ew⟩
          rw [ew]
          clear ew w1 CL
          go_wp2_with fail
          exact bodyPost_ret (v := decV D (.slice none 0 0) (.slice none 0 0)) (by rw [RR.out]; simp [results, decV, Tryz.results46, go_sem]) rfl ⟨.slice none 0 0, .slice none 0 0, rfl, by rw [RR.out]; exact own_nil _ _ HB.out, by rw [RR.out]; exact ownF_nil _ _ HB.out⟩
        · have c1' : (k : Int) + (l1 : Int) ≤ 65536 := by omega
          by_cases c2 : N - m < l1 + 2
          · have RR := hide' (HD.out.trans (ST.out.2.1 (by rw [← HK.out]; omega) (by rw [DL2.out, ← HM.out]; exact c2)))
            have c2' : (N : Int) - (m : Int) < (l1 : Int) + 2 := by omega
            clear ST c1
            rw [← HK.out]
            go_wp2_with fail
            refine CL.out.mono ?_
            rintro e w1 ⟨rfl, ew⟩
            rw [ew]
            clear ew w1 CL
            go_wp2_with fail
            exact bodyPost_ret (v := decV D (.slice none 0 0) (.slice none 0 0)) (by rw [RR.out]; simp [results, decV, Tryz.results46, go_sem]) rfl ⟨.slice none 0 0, .slice none 0 0, rfl, by rw [RR.out]; exact own_nil _ _ HB.out, by rw [RR.out]; exact ownF_nil _ _ HB.out⟩
          · have c2' : (l1 : Int) + 2 ≤ (N : Int) - (m : Int) := by omega
            have G0 : Hid (m + l1 < bs.length) := by unfold Hid; rw [← HN.out]; omega
            have G1 : Hid (m + l1 + 1 < bs.length) := by unfold Hid; rw [← HN.out]; omega
            obtain ⟨b, off, hao, hblt, hcell⟩ := C.out (fun e => by have := G0.out; rw [e] at this; simp at this)
            subst hao
            have PT := pair_two bs (m + l1) G0.out G1.out
            have ck0 : wr.cell? ⟨b, off + (m + l1), none⟩ = some (.int .u8 ((bs[m + l1]'G0.out).toNat : Int)) := by rw [HB.out.cell (p := ⟨b, off + (m + l1), none⟩) hblt]; exact hcell _ G0.out
            have ck1 : wr.cell? ⟨b, off + (m + l1 + 1), none⟩ = some (.int .u8 ((bs[m + l1 + 1]'G1.out).toNat : Int)) := by rw [HB.out.cell (p := ⟨b, off + (m + l1 + 1), none⟩) hblt]; exact hcell _ G1.out
            have b0 := byte_lt (bs[m + l1]'G0.out)
            have b1 := byte_lt (bs[m + l1 + 1]'G1.out)
            have ed : (bs.drop (n + l2)).drop l1 = bs.drop (m + l1) := by rw [List.drop_drop, ← HM.out]
            have R3 := hide' (fun (h : pairB (bs.drop (m + l1)) = false) => HD.out.trans (ST.out.2.2.1 (by rw [← HK.out]; omega) (by rw [DL2.out, ← HM.out]; omega) (by rw [ed]; exact h)))
            have R4 := hide' (fun (h : pairB (bs.drop (m + l1)) = true) => ST.out.2.2.2 (by rw [← HK.out]; omega) (by rw [DL2.out, ← HM.out]; omega) (by rw [ed]; exact h))
            generalize (bs[m + l1]'G0.out).toNat = d0 at ck0 b0 PT
            generalize (bs[m + l1 + 1]'G1.out).toNat = d1 at ck1 b1 PT
            clear hcell ST ed c1 c2
            have key : ((d0 : Int) != 13) = true ∨ (((d0 : Int) != 13) = false ∧ ((d1 : Int) != 10) = true) ∨ (((d0 : Int) != 13) = false ∧ ((d1 : Int) != 10) = false) := by
              cases ((d0 : Int) != 13) <;> cases ((d1 : Int) != 10) <;> simp
            rcases key with q0 | ⟨q0, q1⟩ | ⟨q0, q1⟩
            · have q0' : ((d0 : Int) == 13) = false := by
                have : ((d0 : Int) != 13) = ! ((d0 : Int) == 13) := rfl
                rw [this] at q0
                simpa using q0
              have RR := hide' (R3.out (by rw [PT, q0']; rfl))
              clear R3 R4 PT
              rw [← HK.out]
              go_wp2_with fail
              refine CL.out.mono ?_
              rintro e w1 ⟨rfl, ew⟩
              rw [ew]
              clear ew w1 CL
              go_wp2_with fail
              exact bodyPost_ret (v := decV D (.slice none 0 0) (.slice none 0 0)) (by rw [RR.out]; simp [results, decV, Tryz.results46, go_sem]) rfl ⟨.slice none 0 0, .slice none 0 0, rfl, by rw [RR.out]; exact own_nil _ _ HB.out, by rw [RR.out]; exact ownF_nil _ _ HB.out⟩
            · have q1' : ((d1 : Int) == 10) = false := by
                have : ((d1 : Int) != 10) = ! ((d1 : Int) == 10) := rfl
                rw [this] at q1
                simpa using q1
              have RR := hide' (R3.out (by rw [PT, q1']; simp))
              clear R3 R4 PT
              rw [← HK.out]
              go_wp2_with fail
              refine CL.out.mono ?_
              rintro e w1 ⟨rfl, ew⟩
              rw [ew]
              clear ew w1 CL
              go_wp2_with fail
              exact bodyPost_ret (v := decV D (.slice none 0 0) (.slice none 0 0)) (by rw [RR.out]; simp [results, decV, Tryz.results46, go_sem]) rfl ⟨.slice none 0 0, .slice none 0 0, rfl, by rw [RR.out]; exact own_nil _ _ HB.out, by rw [RR.out]; exact ownF_nil _ _ HB.out⟩
            · have q0' : ((d0 : Int) == 13) = true := by
                have : ((d0 : Int) != 13) = ! ((d0 : Int) == 13) := rfl
                rw [this] at q0
                simpa using q0
              have q1' : ((d1 : Int) == 10) = true := by
                have : ((d1 : Int) != 10) = ! ((d1 : Int) == 10) := rfl
                rw [this] at q1
                simpa using q1
              have DN := hide' (R4.out (by rw [PT, q0', q1']; rfl))
              have s4 := fun W (y : Int) (hy : y = ((m + l1 : Nat) : Int)) => cutp_at b off N cap m y (m + l1) hy (by omega) (by omega) (by omega) hcp W
              rw [show m + l1 - m = l1 by omega] at s4
              have s5 := fun W => s4 W ((m : Int) + (l1 : Int)) (by omega)
              have hq : HoldsB wr (.slice (some ⟨b, off + m, none⟩) l1 (cap - m)) ((bs.drop m).take l1) := by
                have e2 : Lib.fromV (some ⟨b, off, none⟩) bs.length cap m = .slice (some ⟨b, off + m, none⟩) (bs.length - m) (cap - m) := by
                  unfold Lib.fromV
                  rw [if_neg (by have := HN.out; omega)]
                  simp [Addr.add]
                  have h9 := HM.out
                  omega
                have HS' := holdsB_suf (i := m) HV.out (by rw [← HN.out]; omega)
                rw [e2, ← List.length_drop] at HS'
                exact holdsB_mono (holdsB_pre HS' l1 (by rw [List.length_drop, ← HN.out]; omega)) HB.out
              have HQ := hide' hq
              have hql : ((bs.drop m).take l1).length = l1 := by rw [List.length_take, List.length_drop, ← HN.out]; omega
              have HQL := hide' hql
              rw [← HM.out] at DN
              generalize (bs.drop m).take l1 = qs at HQ DN HQL
              clear R3 R4 PT hq hql s4 q0' q1'
              rw [← HK.out]
              go_wp2_with fail
              refine CL.out.mono ?_
              rintro e w1 ⟨rfl, ew⟩
              rw [ew]
              clear ew w1 CL
              have OW2 := OW.out
              rw [← HK.out] at OW2
              go_wp2_with (at_builtin; refine appAllB rfl (.tmp 84) (.tmp 90) rfl w _ out rfl OW2 (.slice (some ⟨b, off + m, none⟩) l1 (cap - m)) qs rfl HQ.out (by rw [HQL.out, ← HK.out]; omega) ?_; intro v2 w2 hown2)
              have O2 := hide' hown2
              clear hown2 OW2
              go_wp2_with fail
              go_roundw
              case rel => exact ⟨m + (l1 + 2), out ++ qs, by go_num, by omega, by rw [List.length_append, HQL.out, ← HK.out]; omega, O2, ds_zero DN.out 0 [] rfl⟩
              case measure => simp [intOf]; omega
end Go.Proofs.YtmikgpmnffdnnabGreatDoor
