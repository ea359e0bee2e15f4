/- The contract of Encode. -/
import Derived.Test.YtobkmepamgdccaaGreatDoorChYa
import Derived.Test.YtobkmepamgdccaaGreatDoorChR
import Derived.Test.YtobkmepamgdccaaGreatDoorBf
namespace Go.Proofs.YtobkmepamgdccaaGreatDoor
open Go.RowKit
def sliceLen (v : Value) : Nat := match v with
  | .slice _ n _ => n
  | _ => 0
theorem enc_len : ∀ (f : Nat) (d : List UInt8) (s : Nat), 0 < s → d.length ≤ 65536 → (encC f d s).length ≤ 13 * d.length := by
  intro f
  induction f with
  | zero => intro d s _ _; simp [encC]
  | succ f ih =>
    intro d s hs hd
    by_cases h : d = []
    · subst h; simp [encC]
    · rw [enc_next h]
      have h0 : 0 < d.length := List.length_pos_iff.2 h
      have ht : (d.take s).length = min s d.length := by rw [List.length_take]
      have h1 := (hexOf_facts (d.take s).length (by rw [ht]; omega)).2.1
      have h2 := ih (d.drop s) s hs (by rw [List.length_drop]; omega)
      rw [List.length_drop] at h2
      simp only [List.length_append, List.length_cons]
      omega
theorem take_min (q : List UInt8) (s n : Nat) (h : n = min s q.length) : q.take s = q.take n ∧ q.drop s = q.drop n := by
  rcases Nat.le_total s q.length with h1 | h1
  · have : n = s := by omega
    subst this
    exact ⟨rfl, rfl⟩
  · have : n = q.length := by omega
    subst this
    rw [List.take_of_length_le h1, List.take_of_length_le (Nat.le_refl _), List.drop_of_length_le h1, List.drop_of_length_le (Nat.le_refl _)]
    exact ⟨rfl, rfl⟩
/-- what is still to be written -/
def Left (EE out q : List UInt8) (S : Nat) : Prop := ∃ f, q.length < f ∧ EE = out ++ encC f q S
theorem left_done {EE out q : List UInt8} {S : Nat} (h : Left EE out q S) (hq : q.length = 0) : EE = out := by
  obtain ⟨f, _, e⟩ := h
  obtain rfl : q = [] := List.eq_nil_of_length_eq_zero hq
  rw [e]
  cases f <;> simp [encC]
theorem left_next {EE out q : List UInt8} {S n : Nat} (h : Left EE out q S) (hq : 0 < q.length) (hS : 0 < S) (hn : n = min S q.length) : Left EE (out ++ hexOf (q.take n).length ++ [13, 10] ++ q.take n ++ [13, 10]) (q.drop n) S := by
  obtain ⟨f, hf, e⟩ := h
  obtain ⟨f, rfl⟩ : ∃ g, f = g + 1 := ⟨f - 1, by omega⟩
  obtain ⟨t1, t2⟩ := take_min q S n hn
  refine ⟨f, by rw [List.length_drop]; omega, ?_⟩
  rw [e, enc_next (fun h => by rw [h] at hq; simp at hq), t1, t2]
  simp
theorem left_len {EE out q : List UInt8} {S : Nat} (h : Left EE out q S) : out.length ≤ EE.length := by
  obtain ⟨f, _, e⟩ := h
  rw [e, List.length_append]
  omega
theorem enc_bad1 (d : List UInt8) (s : Int) (fs : FL) (h : s < 1 ∨ 65536 < s) : encOf d s fs = ([], 70) := by unfold encOf; rw [if_pos h]
theorem enc_bad2 (d : List UInt8) (s : Int) (fs : FL) (h : ¬ (s < 1 ∨ 65536 < s)) (h2 : 65536 < d.length) : encOf d s fs = ([], 71) := by unfold encOf; rw [if_neg h, if_pos h2]
theorem enc_bad3 (d : List UInt8) (s : Int) (fs : FL) (h : ¬ (s < 1 ∨ 65536 < s)) (h2 : ¬ 65536 < d.length) (h3 : (printP fs).2 ≠ 0) : encOf d s fs = ([], (printP fs).2) := by unfold encOf; rw [if_neg h, if_neg h2, if_pos h3]
theorem enc_bad4 (d : List UInt8) (s : Int) (fs : FL) (h : ¬ (s < 1 ∨ 65536 < s)) (h2 : ¬ 65536 < d.length) (h3 : (printP fs).2 = 0) (h4 : 8192 < (printP fs).1.length + 2) : encOf d s fs = ([], 51) := by unfold encOf; rw [if_neg h, if_neg h2, if_neg (by rw [h3]; simp), if_pos h4]
theorem enc_good (d : List UInt8) (s : Int) (fs : FL) (h : ¬ (s < 1 ∨ 65536 < s)) (h2 : ¬ 65536 < d.length) (h3 : (printP fs).2 = 0) (h4 : ¬ 8192 < (printP fs).1.length + 2) : encOf d s fs = (encC (d.length + 1) d s.toNat ++ lastC (printP fs).1, 0) := by unfold encOf; rw [if_neg h, if_neg h2, if_neg (by rw [h3]; simp), if_neg h4]
theorem last_parts (EE t : List UInt8) : EE ++ lastC t = EE ++ [48, 13, 10] ++ t ++ [13, 10] := by unfold lastC; simp
set_option maxRecDepth 20000 in
set_option maxHeartbeats 8000000 in
theorem encTok (v tv : Value) (d : List UInt8) (s : Int) (fs : FL) (w : World) (hv : HoldsB w v d) (ht : HoldsF w tv fs) (hd : d.length ≤ 1000000000) (hfit : Fit fs) (hl : fs.length ≤ 140737488351232) (hP : (printOf fs).length ≤ 8000000) (Z : Bru w) :
    Calls Tryz.prog 16 #[v, .int .i64 s, tv] w fun e w' => ∃ u, e = .returned (.tuple #[u, .int .i64 (encOf d s fs).2]) ∧ Own w u (encOf d s fs).1 w' := by
  have HV := hide' hv
  obtain ⟨ao, cap, rfl, h0, hcp, _⟩ := hv
  obtain ⟨n, hn⟩ : ∃ n, n = d.length := ⟨_, rfl⟩
  have NN : Hid (d.length = n) := hn.symm
  rw [← hn] at hd hcp HV ⊢
  have CP := hide' (printTok tv fs w ht hfit hl (by omega))
  have lp1 : (printP fs).1.length ≤ 8000000 := by
    unfold printP
    split
    · simp
    · split
      · simp
      · exact hP
  have ZV := hide' Z
  have htv : ∃ ta tc, tv = .slice ta fs.length tc := by
    obtain ⟨ta, tc, _, _, e, _⟩ := holdsF_parts ht
    exact ⟨ta, tc, e⟩
  obtain ⟨ta, tc, rfl⟩ := htv
  obtain ⟨R, hR⟩ : ∃ R, R = encOf d s fs := ⟨_, rfl⟩
  have HR := hide' hR
  rw [← hR]
  clear hR hn ht hfit hP Z h0
  by_cases h1 : s < 1 ∨ 65536 < s
  · have RE := hide' (HR.out.trans (enc_bad1 d s fs h1))
    have key : s < 1 ∨ (¬ s < 1 ∧ 65536 < s) := by omega
    clear h1
    rcases key with k | ⟨k1, k2⟩
    · go_enter Tryz.func16, Tryz.ntmps16
      go_wp2_with fail
      go_ret2
      rw [RE.out]
      exact ⟨.slice none 0 0, rfl, own_nil _ _ (Below.refl _ _)⟩
    · have k1' : decide (s < 1) = false := decide_eq_false k1
      clear k1
      go_enter Tryz.func16, Tryz.ntmps16
      go_wp2_with fail
      go_ret2
      rw [RE.out]
      exact ⟨.slice none 0 0, rfl, own_nil _ _ (Below.refl _ _)⟩
  · have s1 : 1 ≤ s := by omega
    have s2 : s ≤ 65536 := by omega
    by_cases h2 : 65536 < n
    · have RE := hide' (HR.out.trans (enc_bad2 d s fs h1 (by rw [NN.out]; exact h2)))
      have h2' : (65536 : Int) < (n : Int) := by omega
      clear h1 h2
      go_enter Tryz.func16, Tryz.ntmps16
      go_wp2_with fail
      go_ret2
      rw [RE.out]
      exact ⟨.slice none 0 0, rfl, own_nil _ _ (Below.refl _ _)⟩
    · have h2' : (n : Int) ≤ 65536 := by omega
      have R3 := hide' (fun h => HR.out.trans (enc_bad3 d s fs h1 (by rw [NN.out]; exact h2) h))
      have R4 := hide' (fun h h4 => HR.out.trans (enc_bad4 d s fs h1 (by rw [NN.out]; exact h2) h h4))
      have R5 := hide' (fun h h4 => HR.out.trans (enc_good d s fs h1 (by rw [NN.out]; exact h2) h h4))
      generalize printP fs = PP at CP lp1 R3 R4 R5
      obtain ⟨pr, pe⟩ := PP
      simp only at CP lp1 R3 R4 R5
      clear h1 h2
      go_enter Tryz.func16, Tryz.ntmps16
      go_wp2_with fail
      refine CP.out.mono ?_
      rintro e w2 ⟨pv, rfl, ho⟩
      have B2 := hide' ho.2
      have HP2 := hide' (holdsB_own ho)
      have HV2 := hide' (holdsB_mono HV.out ho.2)
      have Z2 := hide' (bru_below ZV.out ho.2)
      obtain ⟨pa, pc, hpv⟩ := row_slice ho.1
      subst hpv
      clear ho CP
      by_cases g1 : pe = 0
      · subst g1
        by_cases g2 : 8192 < pr.length + 2
        · have RE := hide' (R4.out rfl g2)
          have t2 : decide ((8192 : Int) < (pr.length : Int) + 2) = true := decide_eq_true (by omega)
          have G2 := hide' g2
          clear R3 R4 R5 g2
          go_wp2_with fail
          go_ret2
          rw [RE.out]
          exact ⟨.slice none 0 0, rfl, own_nil _ _ B2.out⟩
        · have RE := hide' (R5.out rfl g2)
          have t2 : decide ((8192 : Int) < (pr.length : Int) + 2) = false := decide_eq_false (by omega)
          obtain ⟨S, hS⟩ : ∃ S : Nat, s = (S : Int) := ⟨s.toNat, by omega⟩
          subst hS
          have hS0 : 0 < S := by omega
          have EL := enc_len (d.length + 1) d S hS0 (by rw [NN.out]; omega)
          have LF : Hid (Left (encC (d.length + 1) d S) [] d S) := ⟨d.length + 1, by omega, rfl⟩
          rw [Int.toNat_natCast] at RE
          have prl : pr.length ≤ 8192 := by omega
          generalize encC (d.length + 1) d S = EE at RE EL LF
          rw [NN.out] at EL
          have G2 := hide' g2
          clear R3 R4 R5 g2
          go_wp2_with fail
          go_loopw [0, 10] (fun v0 cv wr => ∃ (q : List UInt8) (a0 : Option Addr) (m c0 : Nat) (out : List UInt8), v0 = .slice a0 m c0 ∧ m ≤ 65536 ∧ m ≤ c0 ∧ Hid (q.length = m) ∧ Hid (HoldsB w2 (.slice a0 m c0) q) ∧ Hid (Own w2 cv out wr) ∧ Hid (Left EE out q S)) (fun v0 _ _ => sliceLen v0)
          case atStart => exact ⟨d, ao, n, cap, [], rfl, by omega, hcp, NN, HV2, own_nil _ _ (Below.refl _ _), LF⟩
          case round =>
            obtain ⟨q, a0, m, c0, out, rfl, hm, hmc, QL, HQ, OW, LQ⟩ := hrel
            have ll := left_len LQ.out
            obtain ⟨ca, cc, hcv⟩ := row_slice OW.out.1
            subst hcv
            have OL : Hid (out.length ≤ 851968) := by unfold Hid; omega
            clear ll
            by_cases hm0 : m = 0
            · have e0 := left_done LQ.out (by rw [QL.out]; exact hm0)
              rw [e0] at RE
              rw [last_parts] at RE
              have hm0' : (m : Int) = 0 := by omega
              have tm : decide ((0 : Int) < (m : Int)) = false := decide_eq_false (by omega)
              have HP3 := hide' (holdsB_mono HP2.out OW.out.2)
              have L2 : Hid ((out ++ [48, 13, 10]).length ≤ 851971) := by unfold Hid; rw [List.length_append, show ([48, 13, 10] : List UInt8).length = 3 from rfl]; have h5 := OL.out; omega
              have L3 : Hid ((out ++ [48, 13, 10] ++ pr).length ≤ 8851971) := by unfold Hid; rw [List.length_append]; have h5 := L2.out; omega
              clear e0 hm0
              go_wp2_with (first
                | (at_builtin; refine appStr rfl (.tmp 48) (.const (.string ⟨#[48, 13, 10]⟩)) rfl w2 _ out rfl OW.out [48, 13, 10] rfl (by have h5 := OL.out; rw [show ([48, 13, 10] : List UInt8).length = 3 from rfl]; omega) ?_; intro v3 w3 ho3 _; have O3 := hide' ho3; have HP4 := hide' (holdsB_mono HP2.out ho3.2); clear ho3)
                | (at_builtin; refine appAllB rfl (.tmp 50) (.tmp 51) rfl w2 _ (out ++ [48, 13, 10]) rfl O3.out _ pr rfl HP4.out (by have h5 := L2.out; omega) ?_; intro v4 w4 ho4; have O4 := hide' ho4; clear ho4)
                | (at_builtin; refine appStr rfl (.tmp 53) (.const (.string ⟨#[13, 10]⟩)) rfl w2 _ (out ++ [48, 13, 10] ++ pr) rfl O4.out [13, 10] rfl (by have h5 := L3.out; rw [show ([13, 10] : List UInt8).length = 2 from rfl]; omega) ?_; intro v5 w5 ho5 _))
              go_ret2
              rw [RE.out]
              exact ⟨v5, rfl, own_base ho5 B2.out⟩
            · have tm : decide ((0 : Int) < (m : Int)) = true := decide_eq_true (by omega)
              obtain ⟨k, hk⟩ : ∃ k, k = min S m := ⟨_, rfl⟩
              have hk0 : 0 < k := by omega
              have hkm : k ≤ m := by omega
              have hmin : min (S : Int) (m : Int) = (k : Int) := by omega
              have LN := hide' (left_next (n := k) LQ.out (by rw [QL.out]; omega) hS0 (by rw [QL.out]; exact hk))
              have hq2 := HQ.out
              rw [← QL.out] at hq2
              obtain ⟨dv, sd, HDn⟩ := holdsB_take hq2 k (by rw [QL.out]; exact hkm)
              rw [QL.out] at sd
              have sf := fun W => from_run a0 m c0 k hkm hmc W
              have HSu := holdsB_suf hq2 k (by rw [QL.out]; exact hkm)
              rw [QL.out] at HSu
              obtain ⟨a1, c1, ef, hf0, hfc, _⟩ := HSu
              have HSu' := holdsB_suf hq2 k (by rw [QL.out]; exact hkm)
              rw [QL.out, ef] at HSu'
              have hdl : (q.drop k).length = m - k := by rw [List.length_drop, QL.out]
              rw [ef, hdl] at sf
              rw [hdl] at HSu' hfc
              have htl : (q.take k).length = k := by rw [List.length_take, QL.out]; omega
              have CA := hide' (appChunkC w2 (.slice ca out.length cc) dv out (q.take k) wr OW.out HDn (by rw [htl]; exact hk0) (by rw [htl]; omega) (by have h5 := OL.out; omega) Z2.out)
              have QD := hide' hdl
              have HS3 := hide' HSu'
              generalize out ++ hexOf (q.take k).length ++ [13, 10] ++ q.take k ++ [13, 10] = out2 at LN CA
              generalize q.drop k = q2 at LN QD HS3
              clear hdl htl HDn HSu' ef hq2 LQ hf0 hk
              go_wp2_with fail
              refine CA.out.mono ?_
              rintro e w3 ⟨v3, rfl, ho3⟩
              have O3 := hide' ho3
              clear ho3 CA
              go_wp2_with fail
              go_roundw
              case rel => exact ⟨q2, a1, m - k, c1, out2, rfl, by omega, hfc, QD, HS3, O3, LN⟩
              case measure => simp [sliceLen]; omega
      · have t1 : (pe != 0) = true := by simpa using g1
        have RE := hide' (R3.out g1)
        clear R3 R4 R5 g1
        go_wp2_with fail
        go_ret2
        rw [RE.out]
        exact ⟨.slice none 0 0, rfl, own_nil _ _ B2.out⟩
end Go.Proofs.YtobkmepamgdccaaGreatDoor
