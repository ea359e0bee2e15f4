/- The contract of the document's Response. -/
import Derived.Test.YtenegcoapejbmaaGreatDoorBm
import Derived.Test.YtenegcoapejbmaaGreatDoorBf
namespace Go.Proofs.YtenegcoapejbmaaGreatDoor
open Go.RowKit
def stN (s : ByteArray) : Nat → Int
  | 0 => 0
  | m + 1 => stN s m * 10 + ((s.data.toList.getD (9 + m) 0).toNat : Int) - 48
theorem stN_at (s : ByteArray) (m : Nat) (h : 9 + m < s.size) : stN s (m + 1) = stN s m * 10 + (s[9 + m].toNat : Int) - 48 := by
  show stN s m * 10 + ((s.data.toList.getD (9 + m) 0).toNat : Int) - 48 = _
  rw [List.getD_eq_getElem?_getD, ba_get s _ h]; rfl
theorem stN_three (s : ByteArray) (h : 12 ≤ s.size) : stN s 3 = num3 [s[9], s[10], s[11]] := by
  rw [stN_at s 2 (by omega), stN_at s 1 (by omega), stN_at s 0 (by omega), num_three s (by omega) (by omega) (by omega)]
  show ((0 * 10 + (s[9].toNat : Int) - 48) * 10 + (s[10].toNat : Int) - 48) * 10 + (s[11].toNat : Int) - 48 = _
  omega
theorem cut_13 (s : ByteArray) (h : 12 < s.size) (w : World) : Sem.run Tryz.prog (Instr.slice 9 (.string s) (some (.int .i64 13)) none none) w = .ok (.string ⟨(s.data.toList.drop 13).toArray⟩) w := cut_from1 s 12 (by omega) w
set_option maxRecDepth 20000 in
set_option maxHeartbeats 4000000 in
theorem refRespNone (v : Value) (bs : List UInt8) (w : World) (hv : HoldsB w v bs) (hs : bs.length < 4294967281) (h0 : (endOf bs 0).1 = 0) :
    Calls Tryz.prog 15 #[v] w fun e w' => ∃ lv, e = .returned (respV (respOf bs) lv) ∧ OwnF w lv (respOf bs).1.fs w' := by
  have b0 := below_alloc' w (.cells #[.int .i64 0, .string ⟨#[]⟩, .int .i64 0, .slice none 0 0] 27)
  have B0 := hide' b0
  have cE := hide' (endRef _ bs 0 _ (holdsB_mono hv b0) (Nat.zero_le _) hs)
  obtain ⟨ao, cap, rfl, _⟩ := hv
  have R := hide' (resp_none bs h0)
  rw [R.out]
  have er := end_zero bs _ h0
  rw [h0] at cE
  generalize (endOf bs 0).2 = ee at cE er ⊢
  generalize bs.length = n at cE hs ⊢
  clear h0 R b0
  go_enter Tryz.func15, Tryz.ntmps15
  go_wp2_with fail
  refine cE.out.mono ?_
  rintro e w1 ⟨rfl, rfl⟩
  rcases er with te | te
  · subst te
    go_wp2_with fail
    exact bodyPost_ret (v := respV (Rs.zero, 0, 0) (.slice none 0 0)) (by simp [results, Tryz.results15, go_sem, respV, rsV, Rs.zero]) rfl ⟨_, rfl, ownF_nil _ _ B0.out⟩
  · subst te
    go_wp2_with fail
    exact bodyPost_ret (v := respV (Rs.zero, 0, 51) (.slice none 0 0)) (by simp [results, Tryz.results15, go_sem, respV, rsV, Rs.zero]) rfl ⟨_, rfl, ownF_nil _ _ B0.out⟩
set_option maxRecDepth 20000 in
set_option maxHeartbeats 40000000 in
theorem refRespSome (v : Value) (bs : List UInt8) (w : World) (hv : HoldsB w v bs) (hs : bs.length < 4294967281) (h0 : (endOf bs 0).1 ≠ 0) :
    Calls Tryz.prog 15 #[v] w fun e w' => ∃ lv, e = .returned (respV (respOf bs) lv) ∧ OwnF w lv (respOf bs).1.fs w' := by
  have b0 := below_alloc' w (.cells #[.int .i64 0, .string ⟨#[]⟩, .int .i64 0, .slice none 0 0] 27)
  have Q0 := hide' (quad_lit w (.int .i64 0) (.string ⟨#[]⟩) (.int .i64 0) (.slice none 0 0) 27)
  have B0 := hide' b0
  have HV := hide' (holdsB_mono hv b0)
  have cE := hide' (endRef _ bs 0 _ HV.out (Nat.zero_le _) hs)
  obtain ⟨i, hi, he, hc, hl⟩ := end_facts bs _ h0
  have R := resp_some bs (0 + i + 4) (by omega) he
  rw [he] at cE
  simp only at cE
  obtain ⟨j, hj, hji, hhl⟩ := headH_index bs 0 i hi hl
  have eh : headH bs 0 (0 + i + 4) = bs.take (i + 2) := by
    unfold headH
    rw [List.drop_zero, show 0 + i + 4 - 2 = i + 2 by omega]
  obtain ⟨pv, hpr, HH⟩ := holdsB_take HV.out (i + 2) (by omega)
  rw [← eh] at HH
  have EL : lineH (headH bs 0 (0 + i + 4)) = (headH bs 0 (0 + i + 4)).take j := by unfold lineH; rw [hj, Int.toNat_natCast]
  have EB : blkH (headH bs 0 (0 + i + 4)) = (headH bs 0 (0 + i + 4)).drop (j + 2) := by unfold blkH; rw [hj, Int.toNat_natCast]
  rw [EL, EB] at R
  generalize headH bs 0 (0 + i + 4) = H at R HH hj hhl
  clear EL EB eh
  have cS := splitRef _ H j _ HH hj (by omega)
  have l1 : (H.take j).length ≤ bs.length := by rw [List.length_take]; omega
  have l2 : (H.drop (j + 2)).length ≤ bs.length := by rw [List.length_drop]; omega
  generalize H.take j = ln at R cS l1
  generalize H.drop (j + 2) = bk at R cS l2
  have hbk : bk.length < 4294967281 := by omega
  have cF := hide' (fun W (bv : Value) (hb : HoldsB W bv bk) => parseRef bv bk W hb hbk)
  have fl := parse_len bk
  obtain ⟨lb, hlb⟩ : ∃ lb : ByteArray, lb = ⟨ln.toArray⟩ := ⟨_, rfl⟩
  have hln : lb.data.toList = ln := by rw [hlb]
  have hsz : lb.size = ln.length := by rw [hlb]; exact size_l ln
  rw [← hlb] at cS
  rw [← hln] at R
  obtain ⟨N, hN⟩ : ∃ N, N = 0 + i + 4 := ⟨_, rfl⟩
  rw [← hN] at cE R
  have s5 : ∀ W, Sem.run Tryz.prog (Instr.slice 22 v none (some (.int .i64 ((N : Int) - 2))) none) W = .ok pv W := by
    intro W
    have := hpr W
    rwa [show ((i + 2 : Nat) : Int) = (N : Int) - 2 by omega] at this
  have hNb : N ≤ 8192 := by omega
  have hN0 : ((N : Int) == 0) = false := by simp; omega
  have CS := hide' cS
  generalize parseOf bk = f at R cF fl
  obtain ⟨fs, fe⟩ := f
  simp only at cF fl
  have RH := hide' R
  have hlbb : lb.size < 4294967281 := by omega
  obtain ⟨ao, cap, hvv, _⟩ := hv
  rw [hvv] at cE s5 ⊢
  generalize bs.length = n at cE s5 ⊢
  clear h0 b0 HV hi he hc hl hhl HH hj hN cS hji l1 l2 hbk R hln hsz hlb hpr hvv
  go_enter Tryz.func15, Tryz.ntmps15
  go_wp2_with fail
  refine cE.out.mono ?_
  rintro e w1 ⟨rfl, rfl⟩
  go_wp2_with fail
  refine CS.out.mono ?_
  rintro e w2 ⟨bv, rfl, hbv, b2⟩
  have B2 := hide' (bt' B0.out b2)
  have Q2 := hide' (quad_below Q0.out b2)
  have H2 := hide' hbv
  clear b2 hbv cE CS s5
  by_cases hA : lb.size < 12
  · have NS := no_short lb hA
    have R' : Hid (respOf bs = (Rs.zero, 0, 50)) := by unfold Hid; rw [RH.out, NS]; exact resp_line (Rs.zero, 50) (fs, fe) N (by decide)
    have tA : decide ((lb.size : Int) < 12) = true := decide_eq_true (by omega)
    clear NS
    obtain ⟨h0, h1, h2, h3, e0, e1, e2, e3, hz⟩ := Q2.out
    go_wp2_with fail
    obtain ⟨q0', q1', q2', q3'⟩ := quad_store Q2.out (.int .i64 0) (.string ⟨#[]⟩) (.int .i64 0) (.slice none 0 0)
    have qb := put4_below B2.out (Nat.le_refl _) (.int .i64 0) (.string ⟨#[]⟩) (.int .i64 0) (.slice none 0 0)
    unfold put4 at q0' q1' q2' q3' qb
    exact bodyPost_ret (v := respV (Rs.zero, 0, 50) (.slice none 0 0)) (by simp [results, Tryz.results15, go_sem, q0', q1', q2', q3', respV, rsV, Rs.zero]) rfl ⟨.slice none 0 0, by rw [R'.out], by rw [R'.out]; exact ownF_nil _ _ qb⟩
  · have tA : decide ((lb.size : Int) < 12) = false := decide_eq_false (by omega)
    have h8s : 8 < lb.size := by omega
    have c8 := byte_lt lb[8]
    by_cases h8 : lb[8] = 32
    · have H8 := hide' h8
      have t8 : ((lb[8].toNat : Int) != 32) = false := by rw [h8]; decide
      have t8' : (lb[8].toNat != 32) = false := by rw [h8]; decide
      clear h8
      go_wp2_with fail
      go_loop [9, 10] (fun sv iv => ∃ (k : Nat) (n : Int), 9 ≤ k ∧ k ≤ 12 ∧ iv = .int .i64 k ∧ sv = .int .i64 n ∧ 0 ≤ n ∧ n ≤ 999 ∧ Hid ((k ≤ 11 → n ≤ 99) ∧ (k ≤ 10 → n ≤ 9) ∧ (k ≤ 9 → n ≤ 0)) ∧ Hid (n = stN lb (k - 9)) ∧ Hid (∀ j, 9 ≤ j → j < k → ∀ h : j < lb.size, dig lb[j] = true)) (fun _ iv => 12 - (intOf iv).toNat)
      case atStart => exact ⟨9, 0, by omega, by omega, rfl, rfl, by omega, by omega, ⟨by omega, by omega, by omega⟩, rfl, fun j h1 h2 => absurd h1 (by omega)⟩
      case round =>
        obtain ⟨k, nn, hk9, hk12, rfl, rfl, n0, n9, NB, HNN, HD⟩ := hrel
        by_cases hlt : k < 12
        · have tk : decide ((k : Int) < 12) = true := decide_eq_true (by omega)
          have hks : k < lb.size := by omega
          have cb := byte_lt lb[k]
          have hbad : dig lb[k] = false → Hid (respOf bs = (Rs.zero, 0, 50)) := by
            intro h
            have e9 : 9 + (k - 9) = k := by omega
            have := no_digit lb (k - 9) (by omega) (by omega) (by simp only [e9]; exact h)
            unfold Hid; rw [RH.out, this]; exact resp_line (Rs.zero, 50) (fs, fe) N (by decide)
          have hstep : stN lb (k + 1 - 9) = nn * 10 + (lb[k].toNat : Int) - 48 := by
            have e9 : 9 + (k - 9) = k := by omega
            have := stN_at lb (k - 9) (by omega)
            rw [← HNN.out] at this
            rw [show k + 1 - 9 = k - 9 + 1 by omega, this]
            simp only [e9]
          by_cases a1 : (lb[k].toNat : Int) < 48
          · have R' := hbad (by unfold dig digI; simp; omega)
            have t1 : decide ((lb[k].toNat : Int) < 48) = true := by simpa using a1
            clear hbad hstep
            obtain ⟨h0, h1, h2, h3, e0, e1, e2, e3, hz⟩ := Q2.out
            go_wp2_with fail
            obtain ⟨q0', q1', q2', q3'⟩ := quad_store Q2.out (.int .i64 0) (.string ⟨#[]⟩) (.int .i64 0) (.slice none 0 0)
            have qb := put4_below B2.out (Nat.le_refl _) (.int .i64 0) (.string ⟨#[]⟩) (.int .i64 0) (.slice none 0 0)
            unfold put4 at q0' q1' q2' q3' qb
            exact bodyPost_ret (v := respV (Rs.zero, 0, 50) (.slice none 0 0)) (by simp [results, Tryz.results15, go_sem, q0', q1', q2', q3', respV, rsV, Rs.zero]) rfl ⟨.slice none 0 0, by rw [R'.out], by rw [R'.out]; exact ownF_nil _ _ qb⟩
          · have t1 : decide ((lb[k].toNat : Int) < 48) = false := by simpa using a1
            by_cases a2 : (57 : Int) < (lb[k].toNat : Int)
            · have R' := hbad (by unfold dig digI; simp; omega)
              have t2 : decide ((57 : Int) < (lb[k].toNat : Int)) = true := by simpa using a2
              clear hbad hstep
              obtain ⟨h0, h1, h2, h3, e0, e1, e2, e3, hz⟩ := Q2.out
              go_wp2_with fail
              obtain ⟨q0', q1', q2', q3'⟩ := quad_store Q2.out (.int .i64 0) (.string ⟨#[]⟩) (.int .i64 0) (.slice none 0 0)
              have qb := put4_below B2.out (Nat.le_refl _) (.int .i64 0) (.string ⟨#[]⟩) (.int .i64 0) (.slice none 0 0)
              unfold put4 at q0' q1' q2' q3' qb
              exact bodyPost_ret (v := respV (Rs.zero, 0, 50) (.slice none 0 0)) (by simp [results, Tryz.results15, go_sem, q0', q1', q2', q3', respV, rsV, Rs.zero]) rfl ⟨.slice none 0 0, by rw [R'.out], by rw [R'.out]; exact ownF_nil _ _ qb⟩
            · have t2 : decide ((57 : Int) < (lb[k].toNat : Int)) = false := by simpa using a2
              have hd : dig lb[k] = true := by unfold dig digI; simp; omega
              have HD2 : Hid (∀ j, 9 ≤ j → j < k + 1 → ∀ h : j < lb.size, dig lb[j] = true) := by
                intro j h1 h2 h
                by_cases hj : j = k
                · subst hj; exact hd
                · exact HD.out j h1 (by omega) h
              have HS : Hid (nn * 10 + (lb[k].toNat : Int) - 48 = stN lb (k + 1 - 9)) := hstep.symm
              have NB2 : Hid ((k + 1 ≤ 11 → nn * 10 + (lb[k].toNat : Int) - 48 ≤ 99) ∧ (k + 1 ≤ 10 → nn * 10 + (lb[k].toNat : Int) - 48 ≤ 9) ∧ (k + 1 ≤ 9 → nn * 10 + (lb[k].toNat : Int) - 48 ≤ 0)) := by
                have := NB.out
                exact ⟨by omega, by omega, by omega⟩
              have nb : nn * 10 + (lb[k].toNat : Int) - 48 ≤ 999 ∧ 0 ≤ nn * 10 + (lb[k].toNat : Int) - 48 := by have := NB.out; omega
              clear hbad hstep hd
              go_wp2_with fail
              go_round
              case rel => exact ⟨k + 1, nn * 10 + (lb[k].toNat : Int) - 48, by omega, by omega, by go_num, by go_num, nb.2, nb.1, NB2, HS, HD2⟩
              case measure => simp [intOf]; omega
        · have hk : k = 12 := by omega
          subst hk
          have tk : decide (((12 : Nat) : Int) < 12) = false := rfl
          have d9 := HD.out 9 (by omega) (by omega) (by omega)
          have d10 := HD.out 10 (by omega) (by omega) (by omega)
          have d11 := HD.out 11 (by omega) (by omega) (by omega)
          have hn3 : nn = num3 [lb[9], lb[10], lb[11]] := by rw [HNN.out]; exact stN_three lb (by omega)
          have good := hide' (fun u ht hu => good_line lb (by omega) H8.out d9 d10 d11 u ht hu)
          rw [← hn3] at good
          clear HNN HD NB d9 d10 d11 hn3 H8 hlt
          by_cases h12 : 12 < lb.size
          · have t12 : decide ((12 : Int) < (lb.size : Int)) = true := decide_eq_true (by omega)
            have cb := byte_lt lb[12]
            have ng := hide' (no_gap lb h12)
            have nt := hide' (no_text lb h12)
            by_cases hg : lb[12] = 32
            · have t13 : ((lb[12].toNat : Int) != 32) = false := by rw [hg]; decide
              have t14 : (lb[12].toNat != 32) = false := by rw [hg]; decide
              have sl13 := fun W => cut_13 lb h12 W
              have hll : (lb.data.toList.drop 13).length ≤ lb.size := by rw [List.length_drop]; simp
              have cX : ∀ W, Calls Tryz.prog 30 #[.string ⟨(lb.data.toList.drop 13).toArray⟩] W fun e w' => e = .returned (.bool ((lb.data.toList.drop 13).all txt)) ∧ w' = W := fun W => textsRef ⟨(lb.data.toList.drop 13).toArray⟩ (by rw [size_l]; omega) W
              have CX := hide' cX
              have G2 : Hid ((lb.data.toList.drop 13).all txt = true → _) := fun h => good.out (lb.data.toList.drop 13) (.inr ⟨h12, hg, rfl⟩) h
              clear cX good ng hg hll
              generalize lb.data.toList.drop 13 = uu at sl13 CX G2 nt
              go_wp2_with fail
              refine (CX.out _).mono ?_
              rintro e w4 ⟨rfl, rfl⟩
              cases hx : uu.all txt with
              | false =>
                have NT := nt.out hx
                have R' : Hid (respOf bs = (Rs.zero, 0, 50)) := by unfold Hid; rw [RH.out, NT]; exact resp_line (Rs.zero, 50) (fs, fe) N (by decide)
                clear NT hx
                obtain ⟨h0, h1, h2, h3, e0, e1, e2, e3, hz⟩ := Q2.out
                go_wp2_with fail
                obtain ⟨q0', q1', q2', q3'⟩ := quad_store Q2.out (.int .i64 0) (.string ⟨#[]⟩) (.int .i64 0) (.slice none 0 0)
                have qb := put4_below B2.out (Nat.le_refl _) (.int .i64 0) (.string ⟨#[]⟩) (.int .i64 0) (.slice none 0 0)
                unfold put4 at q0' q1' q2' q3' qb
                exact bodyPost_ret (v := respV (Rs.zero, 0, 50) (.slice none 0 0)) (by simp [results, Tryz.results15, go_sem, q0', q1', q2', q3', respV, rsV, Rs.zero]) rfl ⟨.slice none 0 0, by rw [R'.out], by rw [R'.out]; exact ownF_nil _ _ qb⟩
              | true =>
                have GL := hide' (G2.out hx)
                clear hx G2 nt CX
                generalize hvm : verM (lb.data.toList.take 8) = vm at GL
                have k3 : ∀ W, Calls Tryz.prog 31 #[.string ⟨(lb.data.toList.take 8).toArray⟩] W fun e w' => e = .returned (.tuple #[.int .i64 vm.1, .int .i64 vm.2]) ∧ w' = W := fun W => by
                  have := versionRef ⟨(lb.data.toList.take 8).toArray⟩ (by rw [size_l, List.length_take]; omega) W
                  rw [show (⟨(lb.data.toList.take 8).toArray⟩ : ByteArray).data.toList = lb.data.toList.take 8 from rfl, hvm] at this
                  exact this
                have sl8 : ∀ W, Sem.run Tryz.prog (Instr.slice 9 (.string lb) none (some (.int .i64 8)) none) W = .ok (.string ⟨(lb.data.toList.take 8).toArray⟩) W := fun W => cut_to lb 8 (by omega) W
                obtain ⟨qk, qe⟩ := vm
                simp only at k3 GL
                have K3 := hide' k3
                generalize lb.data.toList.take 8 = vv at K3 sl8
                clear k3 hvm
                go_wp2_with fail
                refine (K3.out _).mono ?_
                rintro e w4 ⟨rfl, rfl⟩
                clear sl8 K3
                by_cases g0 : qe = 0
                · subst g0
                  rw [if_pos rfl] at GL
                  by_cases g1 : nn < 100
                  · have R' : Hid (respOf bs = (Rs.zero, 0, 53)) := by
                      unfold Hid; rw [RH.out, GL.out, if_neg (by unfold goodS; simp; omega)]; exact resp_line (Rs.zero, 53) (fs, fe) N (by decide)
                    have t1 : decide (nn < 100) = true := by simpa using g1
                    clear GL
                    obtain ⟨h0, h1, h2, h3, e0, e1, e2, e3, hz⟩ := Q2.out
                    go_wp2_with fail
                    obtain ⟨q0', q1', q2', q3'⟩ := quad_store Q2.out (.int .i64 0) (.string ⟨#[]⟩) (.int .i64 0) (.slice none 0 0)
                    have qb := put4_below B2.out (Nat.le_refl _) (.int .i64 0) (.string ⟨#[]⟩) (.int .i64 0) (.slice none 0 0)
                    unfold put4 at q0' q1' q2' q3' qb
                    exact bodyPost_ret (v := respV (Rs.zero, 0, 53) (.slice none 0 0)) (by simp [results, Tryz.results15, go_sem, q0', q1', q2', q3', respV, rsV, Rs.zero]) rfl ⟨.slice none 0 0, by rw [R'.out], by rw [R'.out]; exact ownF_nil _ _ qb⟩
                  · have t1 : decide (nn < 100) = false := by simpa using g1
                    by_cases g2 : 599 < nn
                    · have R' : Hid (respOf bs = (Rs.zero, 0, 53)) := by
                        unfold Hid; rw [RH.out, GL.out, if_neg (by unfold goodS; simp; omega)]; exact resp_line (Rs.zero, 53) (fs, fe) N (by decide)
                      have t2 : decide (599 < nn) = true := by simpa using g2
                      clear GL
                      obtain ⟨h0, h1, h2, h3, e0, e1, e2, e3, hz⟩ := Q2.out
                      go_wp2_with fail
                      obtain ⟨q0', q1', q2', q3'⟩ := quad_store Q2.out (.int .i64 0) (.string ⟨#[]⟩) (.int .i64 0) (.slice none 0 0)
                      have qb := put4_below B2.out (Nat.le_refl _) (.int .i64 0) (.string ⟨#[]⟩) (.int .i64 0) (.slice none 0 0)
                      unfold put4 at q0' q1' q2' q3' qb
                      exact bodyPost_ret (v := respV (Rs.zero, 0, 53) (.slice none 0 0)) (by simp [results, Tryz.results15, go_sem, q0', q1', q2', q3', respV, rsV, Rs.zero]) rfl ⟨.slice none 0 0, by rw [R'.out], by rw [R'.out]; exact ownF_nil _ _ qb⟩
                    · have t2 : decide (599 < nn) = false := by simpa using g2
                      have RG : Hid (respOf bs = respG (⟨nn, uu, qk, []⟩, 0) (fs, fe) N) := by
                        unfold Hid; rw [RH.out, GL.out, if_pos (by unfold goodS; simp; omega)]
                      clear GL
                      go_wp2_with fail
                      refine (cF.out _ _ H2.out).mono ?_
                      rintro e w5 ⟨lv, rfl, ho⟩
                      obtain ⟨la, lc, lb', lo, hlv, _⟩ := holdsF_parts (holdsF_own ho)
                      subst hlv
                      have B5 := hide' (bt' B2.out ho.2)
                      have Q5 := hide' (quad_below Q2.out ho.2)
                      have R5 := hide' ho.1
                      clear ho
                      obtain ⟨h0, h1, h2, h3, e0, e1, e2, e3, hz⟩ := Q5.out
                      by_cases g3 : fe = 0
                      · subst g3
                        have R' := hide' (RG.out.trans (resp_good (⟨nn, uu, qk, []⟩, 0) (fs, 0) N rfl rfl))
                        clear RG
                        go_wp2_with fail
                        (
                          obtain ⟨q0', q1', q2', q3'⟩ := quad_store Q5.out (.int .i64 nn) (.string ⟨uu.toArray⟩) (.int .i64 qk) (.slice la fs.length lc)
                          have qb := put4_below B5.out (Nat.le_refl _) (.int .i64 nn) (.string ⟨uu.toArray⟩) (.int .i64 qk) (.slice la fs.length lc)
                          have qr := row_base (row_put (v0 := .int .i64 nn) (v1 := .string ⟨uu.toArray⟩) (v2 := .int .i64 qk) (v3 := .slice la fs.length lc) R5.out (b := w.heap.size) (by have h := Q2.out.2.2.2.2.2.2.2.2; exact h)) B2.out.size
                          unfold put4 at q0' q1' q2' q3' qb qr
                          exact bodyPost_ret (v := respV (⟨nn, uu, qk, fs⟩, N, 0) (.slice la fs.length lc)) (by simp [results, Tryz.results15, go_sem, q0', q1', q2', q3', respV, rsV]) rfl ⟨.slice la fs.length lc, by rw [R'.out], by rw [R'.out]; exact ⟨qr, qb⟩⟩)
                      · have t3 : (fe != 0) = true := by simpa using g3
                        have R' := hide' (RG.out.trans (resp_fields (⟨nn, uu, qk, []⟩, 0) (fs, fe) N rfl g3))
                        clear RG g3
                        go_wp2_with fail
                        obtain ⟨q0', q1', q2', q3'⟩ := quad_store Q5.out (.int .i64 0) (.string ⟨#[]⟩) (.int .i64 0) (.slice none 0 0)
                        have qb := put4_below B5.out (Nat.le_refl _) (.int .i64 0) (.string ⟨#[]⟩) (.int .i64 0) (.slice none 0 0)
                        unfold put4 at q0' q1' q2' q3' qb
                        exact bodyPost_ret (v := respV (Rs.zero, 0, fe) (.slice none 0 0)) (by simp [results, Tryz.results15, go_sem, q0', q1', q2', q3', respV, rsV, Rs.zero]) rfl ⟨.slice none 0 0, by rw [R'.out], by rw [R'.out]; exact ownF_nil _ _ qb⟩
                · rw [if_neg g0] at GL
                  have R' : Hid (respOf bs = (Rs.zero, 0, qe)) := by unfold Hid; rw [RH.out, GL.out]; exact resp_line (Rs.zero, qe) (fs, fe) N g0
                  have t2 : (qe != 0) = true := by simpa using g0
                  clear GL g0
                  obtain ⟨h0, h1, h2, h3, e0, e1, e2, e3, hz⟩ := Q2.out
                  go_wp2_with fail
                  obtain ⟨q0', q1', q2', q3'⟩ := quad_store Q2.out (.int .i64 0) (.string ⟨#[]⟩) (.int .i64 0) (.slice none 0 0)
                  have qb := put4_below B2.out (Nat.le_refl _) (.int .i64 0) (.string ⟨#[]⟩) (.int .i64 0) (.slice none 0 0)
                  unfold put4 at q0' q1' q2' q3' qb
                  exact bodyPost_ret (v := respV (Rs.zero, 0, qe) (.slice none 0 0)) (by simp [results, Tryz.results15, go_sem, q0', q1', q2', q3', respV, rsV, Rs.zero]) rfl ⟨.slice none 0 0, by rw [R'.out], by rw [R'.out]; exact ownF_nil _ _ qb⟩
            · have NG := ng.out hg
              have R' : Hid (respOf bs = (Rs.zero, 0, 50)) := by unfold Hid; rw [RH.out, NG]; exact resp_line (Rs.zero, 50) (fs, fe) N (by decide)
              have t13 : ((lb[12].toNat : Int) != 32) = true := by
                simp; intro e; exact hg (UInt8.toNat_inj.1 (by show lb[12].toNat = 32; omega))
              have t14 : (lb[12].toNat != 32) = true := by
                simp; intro e; exact hg (UInt8.toNat_inj.1 (by show lb[12].toNat = 32; omega))
              clear NG hg good ng nt
              obtain ⟨h0, h1, h2, h3, e0, e1, e2, e3, hz⟩ := Q2.out
              go_wp2_with fail
              obtain ⟨q0', q1', q2', q3'⟩ := quad_store Q2.out (.int .i64 0) (.string ⟨#[]⟩) (.int .i64 0) (.slice none 0 0)
              have qb := put4_below B2.out (Nat.le_refl _) (.int .i64 0) (.string ⟨#[]⟩) (.int .i64 0) (.slice none 0 0)
              unfold put4 at q0' q1' q2' q3' qb
              exact bodyPost_ret (v := respV (Rs.zero, 0, 50) (.slice none 0 0)) (by simp [results, Tryz.results15, go_sem, q0', q1', q2', q3', respV, rsV, Rs.zero]) rfl ⟨.slice none 0 0, by rw [R'.out], by rw [R'.out]; exact ownF_nil _ _ qb⟩
          · have t12 : decide ((12 : Int) < (lb.size : Int)) = false := decide_eq_false (by omega)
            have hs12 : lb.size = 12 := by omega
            have GL := hide' (good.out [] (.inl ⟨hs12, rfl⟩) rfl)
            clear good hs12
            generalize hvm : verM (lb.data.toList.take 8) = vm at GL
            have k3 : ∀ W, Calls Tryz.prog 31 #[.string ⟨(lb.data.toList.take 8).toArray⟩] W fun e w' => e = .returned (.tuple #[.int .i64 vm.1, .int .i64 vm.2]) ∧ w' = W := fun W => by
              have := versionRef ⟨(lb.data.toList.take 8).toArray⟩ (by rw [size_l, List.length_take]; omega) W
              rw [show (⟨(lb.data.toList.take 8).toArray⟩ : ByteArray).data.toList = lb.data.toList.take 8 from rfl, hvm] at this
              exact this
            have sl8 : ∀ W, Sem.run Tryz.prog (Instr.slice 9 (.string lb) none (some (.int .i64 8)) none) W = .ok (.string ⟨(lb.data.toList.take 8).toArray⟩) W := fun W => cut_to lb 8 (by omega) W
            obtain ⟨qk, qe⟩ := vm
            simp only at k3 GL
            have K3 := hide' k3
            generalize lb.data.toList.take 8 = vv at K3 sl8
            clear k3 hvm
            go_wp2_with fail
            refine (K3.out _).mono ?_
            rintro e w4 ⟨rfl, rfl⟩
            clear sl8 K3
            by_cases g0 : qe = 0
            · subst g0
              rw [if_pos rfl] at GL
              by_cases g1 : nn < 100
              · have R' : Hid (respOf bs = (Rs.zero, 0, 53)) := by
                  unfold Hid; rw [RH.out, GL.out, if_neg (by unfold goodS; simp; omega)]; exact resp_line (Rs.zero, 53) (fs, fe) N (by decide)
                have t1 : decide (nn < 100) = true := by simpa using g1
                clear GL
                obtain ⟨h0, h1, h2, h3, e0, e1, e2, e3, hz⟩ := Q2.out
                go_wp2_with fail
                obtain ⟨q0', q1', q2', q3'⟩ := quad_store Q2.out (.int .i64 0) (.string ⟨#[]⟩) (.int .i64 0) (.slice none 0 0)
                have qb := put4_below B2.out (Nat.le_refl _) (.int .i64 0) (.string ⟨#[]⟩) (.int .i64 0) (.slice none 0 0)
                unfold put4 at q0' q1' q2' q3' qb
                exact bodyPost_ret (v := respV (Rs.zero, 0, 53) (.slice none 0 0)) (by simp [results, Tryz.results15, go_sem, q0', q1', q2', q3', respV, rsV, Rs.zero]) rfl ⟨.slice none 0 0, by rw [R'.out], by rw [R'.out]; exact ownF_nil _ _ qb⟩
              · have t1 : decide (nn < 100) = false := by simpa using g1
                by_cases g2 : 599 < nn
                · have R' : Hid (respOf bs = (Rs.zero, 0, 53)) := by
                    unfold Hid; rw [RH.out, GL.out, if_neg (by unfold goodS; simp; omega)]; exact resp_line (Rs.zero, 53) (fs, fe) N (by decide)
                  have t2 : decide (599 < nn) = true := by simpa using g2
                  clear GL
                  obtain ⟨h0, h1, h2, h3, e0, e1, e2, e3, hz⟩ := Q2.out
                  go_wp2_with fail
                  obtain ⟨q0', q1', q2', q3'⟩ := quad_store Q2.out (.int .i64 0) (.string ⟨#[]⟩) (.int .i64 0) (.slice none 0 0)
                  have qb := put4_below B2.out (Nat.le_refl _) (.int .i64 0) (.string ⟨#[]⟩) (.int .i64 0) (.slice none 0 0)
                  unfold put4 at q0' q1' q2' q3' qb
                  exact bodyPost_ret (v := respV (Rs.zero, 0, 53) (.slice none 0 0)) (by simp [results, Tryz.results15, go_sem, q0', q1', q2', q3', respV, rsV, Rs.zero]) rfl ⟨.slice none 0 0, by rw [R'.out], by rw [R'.out]; exact ownF_nil _ _ qb⟩
                · have t2 : decide (599 < nn) = false := by simpa using g2
                  have RG : Hid (respOf bs = respG (⟨nn, [], qk, []⟩, 0) (fs, fe) N) := by
                    unfold Hid; rw [RH.out, GL.out, if_pos (by unfold goodS; simp; omega)]
                  clear GL
                  go_wp2_with fail
                  refine (cF.out _ _ H2.out).mono ?_
                  rintro e w5 ⟨lv, rfl, ho⟩
                  obtain ⟨la, lc, lb', lo, hlv, _⟩ := holdsF_parts (holdsF_own ho)
                  subst hlv
                  have B5 := hide' (bt' B2.out ho.2)
                  have Q5 := hide' (quad_below Q2.out ho.2)
                  have R5 := hide' ho.1
                  clear ho
                  obtain ⟨h0, h1, h2, h3, e0, e1, e2, e3, hz⟩ := Q5.out
                  by_cases g3 : fe = 0
                  · subst g3
                    have R' := hide' (RG.out.trans (resp_good (⟨nn, [], qk, []⟩, 0) (fs, 0) N rfl rfl))
                    clear RG
                    go_wp2_with fail
                    (
                      obtain ⟨q0', q1', q2', q3'⟩ := quad_store Q5.out (.int .i64 nn) (.string ⟨#[]⟩) (.int .i64 qk) (.slice la fs.length lc)
                      have qb := put4_below B5.out (Nat.le_refl _) (.int .i64 nn) (.string ⟨#[]⟩) (.int .i64 qk) (.slice la fs.length lc)
                      have qr := row_base (row_put (v0 := .int .i64 nn) (v1 := .string ⟨#[]⟩) (v2 := .int .i64 qk) (v3 := .slice la fs.length lc) R5.out (b := w.heap.size) (by have h := Q2.out.2.2.2.2.2.2.2.2; exact h)) B2.out.size
                      unfold put4 at q0' q1' q2' q3' qb qr
                      exact bodyPost_ret (v := respV (⟨nn, [], qk, fs⟩, N, 0) (.slice la fs.length lc)) (by simp [results, Tryz.results15, go_sem, q0', q1', q2', q3', respV, rsV]) rfl ⟨.slice la fs.length lc, by rw [R'.out], by rw [R'.out]; exact ⟨qr, qb⟩⟩)
                  · have t3 : (fe != 0) = true := by simpa using g3
                    have R' := hide' (RG.out.trans (resp_fields (⟨nn, [], qk, []⟩, 0) (fs, fe) N rfl g3))
                    clear RG g3
                    go_wp2_with fail
                    obtain ⟨q0', q1', q2', q3'⟩ := quad_store Q5.out (.int .i64 0) (.string ⟨#[]⟩) (.int .i64 0) (.slice none 0 0)
                    have qb := put4_below B5.out (Nat.le_refl _) (.int .i64 0) (.string ⟨#[]⟩) (.int .i64 0) (.slice none 0 0)
                    unfold put4 at q0' q1' q2' q3' qb
                    exact bodyPost_ret (v := respV (Rs.zero, 0, fe) (.slice none 0 0)) (by simp [results, Tryz.results15, go_sem, q0', q1', q2', q3', respV, rsV, Rs.zero]) rfl ⟨.slice none 0 0, by rw [R'.out], by rw [R'.out]; exact ownF_nil _ _ qb⟩
            · rw [if_neg g0] at GL
              have R' : Hid (respOf bs = (Rs.zero, 0, qe)) := by unfold Hid; rw [RH.out, GL.out]; exact resp_line (Rs.zero, qe) (fs, fe) N g0
              have t2 : (qe != 0) = true := by simpa using g0
              clear GL g0
              obtain ⟨h0, h1, h2, h3, e0, e1, e2, e3, hz⟩ := Q2.out
              go_wp2_with fail
              obtain ⟨q0', q1', q2', q3'⟩ := quad_store Q2.out (.int .i64 0) (.string ⟨#[]⟩) (.int .i64 0) (.slice none 0 0)
              have qb := put4_below B2.out (Nat.le_refl _) (.int .i64 0) (.string ⟨#[]⟩) (.int .i64 0) (.slice none 0 0)
              unfold put4 at q0' q1' q2' q3' qb
              exact bodyPost_ret (v := respV (Rs.zero, 0, qe) (.slice none 0 0)) (by simp [results, Tryz.results15, go_sem, q0', q1', q2', q3', respV, rsV, Rs.zero]) rfl ⟨.slice none 0 0, by rw [R'.out], by rw [R'.out]; exact ownF_nil _ _ qb⟩
    · have NB8 := no_blank lb h8s h8
      have R' : Hid (respOf bs = (Rs.zero, 0, 50)) := by unfold Hid; rw [RH.out, NB8]; exact resp_line (Rs.zero, 50) (fs, fe) N (by decide)
      have t8 : ((lb[8].toNat : Int) != 32) = true := by
        simp; intro e; exact h8 (UInt8.toNat_inj.1 (by show lb[8].toNat = 32; omega))
      have t8' : (lb[8].toNat != 32) = true := by
        simp; intro e; exact h8 (UInt8.toNat_inj.1 (by show lb[8].toNat = 32; omega))
      clear NB8 h8
      obtain ⟨h0, h1, h2, h3, e0, e1, e2, e3, hz⟩ := Q2.out
      go_wp2_with fail
      obtain ⟨q0', q1', q2', q3'⟩ := quad_store Q2.out (.int .i64 0) (.string ⟨#[]⟩) (.int .i64 0) (.slice none 0 0)
      have qb := put4_below B2.out (Nat.le_refl _) (.int .i64 0) (.string ⟨#[]⟩) (.int .i64 0) (.slice none 0 0)
      unfold put4 at q0' q1' q2' q3' qb
      exact bodyPost_ret (v := respV (Rs.zero, 0, 50) (.slice none 0 0)) (by simp [results, Tryz.results15, go_sem, q0', q1', q2', q3', respV, rsV, Rs.zero]) rfl ⟨.slice none 0 0, by rw [R'.out], by rw [R'.out]; exact ownF_nil _ _ qb⟩
theorem refResp (v : Value) (bs : List UInt8) (w : World) (hv : HoldsB w v bs) (hs : bs.length < 4294967281) :
    Calls Tryz.prog 15 #[v] w fun e w' => ∃ lv, e = .returned (respV (respOf bs) lv) ∧ OwnF w lv (respOf bs).1.fs w' := by
  by_cases h0 : (endOf bs 0).1 = 0
  · exact refRespNone v bs w hv hs h0
  · exact refRespSome v bs w hv hs h0
end Go.Proofs.YtenegcoapejbmaaGreatDoor
