/- The contracts of the document's line and tail. -/
import Derived.Test.YtmikgpmnffdnnabGreatDoorChI
import Derived.Test.YtmikgpmnffdnnabGreatDoorBm
import Derived.Test.YtmikgpmnffdnnabGreatDoorBf
namespace Go.Proofs.YtmikgpmnffdnnabGreatDoor
open Go.RowKit
theorem len_at (l : List UInt8) (k : Nat) (hk : k ≤ l.length) (ha : (l.take k).all no10 = true) (h : ∀ h : k < l.length, no10 l[k] = false) : lenL l = k := by
  have hw := while_app no10 (l.take k) (l.drop k) (fun c hc => List.all_eq_true.1 ha c hc) (fun c r e => by
    have hlt : k < l.length := by
      rcases Nat.lt_or_ge k l.length with h | h
      · exact h
      · rw [List.drop_eq_nil_of_le h] at e; cases e
    rw [List.drop_eq_getElem_cons hlt] at e
    injection e with e1 e2
    rw [← e1]; exact h hlt)
  rw [List.take_append_drop] at hw
  unfold lenL
  rw [hw.1, List.length_take]
  omega
def lnV (r : Nat × Nat × Int) : Value := .tuple #[.int .i64 (r.1 : Int), .int .i64 (r.2.1 : Int), .int .i64 r.2.2]
theorem line_13 (b : List UInt8) (h : lenL b < b.length) (h0 : lenL b = 0 ∨ ¬ b.getD (lenL b - 1) 0 = 13) : lineC b = (0, 0, 70) := by
  unfold lineC
  rw [if_neg (by omega), if_pos]
  rcases h0 with h0 | h0
  · exact .inr (.inl h0)
  · exact .inr (.inr (.inl h0))
theorem line_sz (b : List UInt8) (h : lenL b < b.length) (h0 : lenL b ≠ 0) (h1 : b.getD (lenL b - 1) 0 = 13) (h2 : lenL b + 1 ≤ 200) : lineC b = if sizeC (b.take (lenL b - 1)) < 0 then (0, 0, 70) else ((sizeC (b.take (lenL b - 1))).toNat, lenL b + 1, 0) := by
  unfold lineC
  rw [if_neg (by omega)]
  split
  · rename_i q
    rw [if_pos]
    rcases q with q | q | q | q
    · omega
    · exact absurd q h0
    · exact absurd h1 q
    · exact q
  · rename_i q
    rw [if_neg (fun e => q (.inr (.inr (.inr e))))]
set_option maxRecDepth 20000 in
set_option maxHeartbeats 4000000 in
theorem lineRef (v : Value) (l : List UInt8) (w : World) (hv : HoldsB w v l) (hs : l.length < 4294967281) :
    Calls Tryz.prog 74 #[v] w fun e w' => e = .returned (lnV (lineC l)) ∧ w' = w := by
  have HV := hide' hv
  obtain ⟨ao, cap, rfl, h0, hcp, hc⟩ := hv
  have CE : Hid (∀ {k : Nat}, k < l.length → ∃ b off, ao = some ⟨b, off, none⟩ ∧ ∀ j (h : j < l.length), w.cell? ⟨b, off + j, none⟩ = some (B l[j])) := by
    intro k hk
    obtain ⟨b, off, rfl, _, hcell⟩ := hc (fun e => by rw [e] at hk; simp at hk)
    exact ⟨b, off, rfl, hcell⟩
  obtain ⟨n, hn⟩ : ∃ n, n = l.length := ⟨_, rfl⟩
  have NN : Hid (l.length = n) := hn.symm
  rw [← hn] at hs hcp ⊢
  obtain ⟨R, hR⟩ : ∃ R, R = lnV (lineC l) := ⟨_, rfl⟩
  have HR := hide' hR
  rw [← hR]
  clear hc hn hR h0
  go_enter Tryz.func74, Tryz.ntmps74
  go_wp2_with fail
  go_loop [5] (fun kv => ∃ k : Nat, k ≤ n ∧ kv = .int .i64 k ∧ Hid ((l.take k).all no10 = true)) (fun kv => n - (intOf kv).toNat)
  case atStart => exact ⟨0, Nat.zero_le _, rfl, rfl⟩
  case round =>
    obtain ⟨k, hk, rfl, HA⟩ := hrel
    by_cases hkn : k < n
    · have G : Hid (k < l.length) := by unfold Hid; rw [NN.out]; exact hkn
      obtain ⟨b, off, hao, hcell⟩ := CE.out (k := k) G.out
      subst hao
      have x1 : w.cell? ⟨b, off + k, none⟩ = some (.int .u8 ((l[k]'G.out).toNat : Int)) := hcell k G.out
      have bb := byte_lt (l[k]'G.out)
      by_cases h10 : (l[k]'G.out) = 10
      · have hc10 : ((l[k]'G.out).toNat : Int) = 10 := by rw [h10]; rfl
        have LN := len_at l k (Nat.le_of_lt G.out) HA.out (fun _ => (no10_iff _).2 h10)
        have hne : ((k : Int) == (n : Int)) = false := by simp; omega
        rw [hc10] at x1
        clear h10 hc10 HA bb
        by_cases h2 : 200 < k + 1
        · have RE : Hid (R = lnV (0, 0, 70)) := by unfold Hid; rw [HR.out, line_long l (by rw [LN]; exact G.out) (by rw [LN]; exact h2)]
          have h2' : (200 : Int) < (k : Int) + 1 := by omega
          clear LN h2 hcell
          go_wp2_with fail
          go_ret3
          rw [RE.out]
          exact ⟨rfl, rfl⟩
        · have h2' : (k : Int) + 1 ≤ 200 := by omega
          by_cases hk0 : k = 0
          · have RE : Hid (R = lnV (0, 0, 70)) := by unfold Hid; rw [HR.out, line_13 l (by rw [LN]; exact G.out) (.inl (by rw [LN]; exact hk0))]
            have k0 : (k : Int) = 0 := by omega
            have x1' : w.cell? ⟨b, off, none⟩ = some (.int .u8 10) := by
              rw [hk0, Nat.add_zero] at x1
              exact x1
            have hn0' : (0 : Int) < (n : Int) := by omega
            rw [k0] at hne ⊢
            clear LN h2 h2' hcell x1 hkn k0 hk0
            go_wp2_with fail
            go_ret3
            rw [RE.out]
            exact ⟨rfl, rfl⟩
          · have hk0' : ((k : Int) == 0) = false := by simp; omega
            have G1 : Hid (k - 1 < l.length) := by unfold Hid; rw [NN.out]; omega
            have x2 : w.cell? ⟨b, off + (k - 1), none⟩ = some (.int .u8 ((l[k - 1]'G1.out).toNat : Int)) := hcell (k - 1) G1.out
            have hgd : l.getD (k - 1) 0 = l[k - 1]'G1.out := by rw [List.getD_eq_getElem?_getD, List.getElem?_eq_getElem G1.out]; rfl
            have b1 := byte_lt (l[k - 1]'G1.out)
            have k1 : ((k : Int) - 1).toNat = k - 1 := by omega
            have kb0 : (0 : Int) ≤ (k : Int) - 1 := by omega
            have kb1 : (k : Int) - 1 < (n : Int) := by omega
            by_cases h13 : (l[k - 1]'G1.out) = 13
            · have hc13 : ((l[k - 1]'G1.out).toNat : Int) = 13 := by rw [h13]; rfl
              have LZ := line_sz l (by rw [LN]; exact G.out) (by rw [LN]; exact hk0) (by rw [LN, hgd]; exact h13) (by rw [LN]; omega)
              rw [LN] at LZ
              obtain ⟨pv, s1, HP⟩ := holdsB_take HV.out (k - 1) (by rw [NN.out]; omega)
              have cZ := hide' (sizeRef pv (l.take (k - 1)) w HP (by rw [List.length_take]; omega))
              rw [NN.out] at s1
              have S1 : ∀ W, Sem.run Tryz.prog (Instr.slice 22 (.slice (some ⟨b, off, none⟩) n cap) none (some (.int .i64 ((k : Int) - 1))) none) W = .ok pv W := by
                intro W
                have := s1 W
                rwa [show (((k - 1 : Nat) : Int)) = (k : Int) - 1 by omega] at this
              generalize sizeC (l.take (k - 1)) = sz at LZ cZ
              rw [hc13] at x2
              by_cases hz : sz < 0
              · have RE : Hid (R = lnV (0, 0, 70)) := by unfold Hid; rw [HR.out, LZ, if_pos hz]
                clear LN h2 hcell LZ s1 HP h13 hc13 hgd b1 hk0
                go_wp2_with (go_at_call 103; refine cZ.out.mono ?_; rintro e w9 ⟨rfl, ew⟩; rw [ew]; clear ew w9)
                go_ret3
                rw [RE.out]
                exact ⟨rfl, rfl⟩
              · have RE : Hid (R = lnV (sz.toNat, k + 1, 0)) := by unfold Hid; rw [HR.out, LZ, if_neg hz]
                have hz' : 0 ≤ sz := by omega
                have TN : Hid (((sz.toNat : Nat) : Int) = sz) := by unfold Hid; omega
                clear LN h2 hcell LZ s1 HP h13 hc13 hgd b1 hk0 hz
                go_wp2_with (go_at_call 103; refine cZ.out.mono ?_; rintro e w9 ⟨rfl, ew⟩; rw [ew]; clear ew w9)
                go_ret3
                rw [RE.out]
                unfold lnV
                simp only
                rw [TN.out]
                first | exact ⟨rfl, rfl⟩ | exact ⟨rfl, trivial⟩
            · have h13' : (((l[k - 1]'G1.out).toNat : Int) != 13) = true := by
                simp
                intro e
                exact h13 (UInt8.toNat_inj.1 (by show (l[k - 1]'G1.out).toNat = 13; omega))
              have h13'' : ((l[k - 1]'G1.out).toNat != 13) = true := by
                simp
                intro e
                exact h13 (UInt8.toNat_inj.1 (by show (l[k - 1]'G1.out).toNat = 13; omega))
              have RE : Hid (R = lnV (0, 0, 70)) := by unfold Hid; rw [HR.out, line_13 l (by rw [LN]; exact G.out) (.inr (by rw [LN, hgd]; exact h13))]
              clear LN h2 hcell h13 hgd hk0
              generalize (l[k - 1]'G1.out).toNat = c1 at x2 b1 h13' h13''
              go_wp2_with fail
              go_ret3
              rw [RE.out]
              exact ⟨rfl, rfl⟩
      · have hne : (((l[k]'G.out).toNat : Int) != 10) = true := by
          simp
          intro e
          exact h10 (UInt8.toNat_inj.1 (by show (l[k]'G.out).toNat = 10; omega))
        have hne2 : ((l[k]'G.out).toNat != 10) = true := by
          simp
          intro e
          exact h10 (UInt8.toNat_inj.1 (by show (l[k]'G.out).toNat = 10; omega))
        have AA : Hid ((l.take (k + 1)).all no10 = true) := by
          unfold Hid
          rw [List.take_succ_eq_append_getElem G.out, List.all_append, HA.out]
          simp [no10, h10]
        clear h10 HA hcell
        generalize (l[k]'G.out).toNat = c at x1 bb hne hne2
        go_wp2_with fail
        go_round
        case rel => exact ⟨k + 1, by omega, by go_num, AA⟩
        case measure => simp [intOf]; omega
    · have hkk : k = n := by omega
      subst hkk
      have LN := len_at l k (by rw [NN.out]; exact hk) HA.out (fun h => by rw [NN.out] at h; omega)
      have heq : ((k : Int) == (k : Int)) = true := by simp
      clear HA hkn
      by_cases h2 : 200 ≤ k
      · have RE : Hid (R = lnV (0, 0, 70)) := by unfold Hid; rw [HR.out, line_no2 l (by rw [LN, NN.out]) (by rw [NN.out]; exact h2)]
        have h2' : (200 : Int) ≤ (k : Int) := by omega
        clear LN
        go_wp2_with fail
        go_ret3
        rw [RE.out]
        exact ⟨rfl, rfl⟩
      · have RE : Hid (R = lnV (0, 0, 0)) := by unfold Hid; rw [HR.out, line_no l (by rw [LN, NN.out]) (by rw [NN.out]; omega)]
        have h2' : ¬ (200 : Int) ≤ (k : Int) := by omega
        clear LN
        go_wp2_with fail
        go_ret3
        rw [RE.out]
        exact ⟨rfl, rfl⟩
def tlV (r : FL × Nat × Int) (lv : Value) : Value := .tuple #[lv, .int .i64 (r.2.1 : Int), .int .i64 r.2.2]
theorem pair_first (bs : List UInt8) (h0 : 0 < bs.length) (h1 : 1 < bs.length) : pairB bs = (((bs[0].toNat : Int) == 13) && ((bs[1].toNat : Int) == 10)) := pair_two bs 0 h0 h1
theorem pair_short (bs : List UInt8) (h : bs.length ≤ 1) : pairB bs = false := pair_end bs 0 (by omega)
end Go.Proofs.YtmikgpmnffdnnabGreatDoor
