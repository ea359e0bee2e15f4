/- The contract of the document's Parse at texts of 33 bytes. -/
import Derived.Test.YtipcmbonhkelbabGreatDoorXg
import Derived.Test.YtipcmbonhkelbabGreatDoorXe
import Derived.Deep.QuietTactic
import Derived.BigQuiet
namespace Go.Proofs.YtipcmbonhkelbabGreatDoor
open Go.RowKit
set_option maxRecDepth 20000 in
set_option maxHeartbeats 2000000 in
theorem refP33 (s : ByteArray) (hs : s.size = 33) (D Yr Y H I S j : Int) (hD : refNum (seg s 11 13) = D) (hY : refNum (seg s 18 20) = Yr) (hH : refNum (seg s 21 23) = H) (hI : refNum (seg s 24 26) = I) (hS : refNum (seg s 27 29) = S)
    (hYY : (70 ≤ Yr ∧ Y = Yr + 1900) ∨ (0 ≤ Yr ∧ Yr < 70 ∧ Y = Yr + 2000) ∨ (Yr < 0 ∧ Y = Yr)) (j0 : 0 ≤ j) (j1 : j ≤ 12)
    (he : 1 ≤ j → s.extract 14 17 = ⟨(moL j).toArray⟩) (hne : ∀ i : Int, 1 ≤ i → i ≤ 12 → ¬ i = j → ¬ s.extract 14 17 = ⟨(moL i).toArray⟩) (v e : Int)
    (hq : ((¬ Valid Y j D ∨ (Valid Y j D ∧ H < 0) ∨ (Valid Y j D ∧ 0 ≤ H ∧ 23 < H) ∨ (Valid Y j D ∧ 0 ≤ H ∧ H ≤ 23 ∧ I < 0) ∨ (Valid Y j D ∧ 0 ≤ H ∧ H ≤ 23 ∧ 0 ≤ I ∧ 59 < I) ∨ (Valid Y j D ∧ 0 ≤ H ∧ H ≤ 23 ∧ 0 ≤ I ∧ I ≤ 59 ∧ S < 0) ∨ (Valid Y j D ∧ 0 ≤ H ∧ H ≤ 23 ∧ 0 ≤ I ∧ I ≤ 59 ∧ 0 ≤ S ∧ 59 < S)) ∧ v = 0 ∧ e = 20) ∨
      ((Valid Y j D ∧ 0 ≤ H ∧ H ≤ 23 ∧ 0 ≤ I ∧ I ≤ 59 ∧ 0 ≤ S ∧ S ≤ 59) ∧
        ((s = ⟨(showL (dayOf Y j D) (H * 3600 + I * 60 + S) Y j D).toArray⟩ ∧ v = dayOf Y j D * 86400 + H * 3600 + I * 60 + S ∧ e = 0) ∨
         (¬ s = ⟨(showL (dayOf Y j D) (H * 3600 + I * 60 + S) Y j D).toArray⟩ ∧ s = ⟨(dash2L (dayOf Y j D) (H * 3600 + I * 60 + S) Y j D).toArray⟩ ∧ v = dayOf Y j D * 86400 + H * 3600 + I * 60 + S ∧ e = 0) ∨
         (¬ s = ⟨(showL (dayOf Y j D) (H * 3600 + I * 60 + S) Y j D).toArray⟩ ∧ ¬ s = ⟨(dash2L (dayOf Y j D) (H * 3600 + I * 60 + S) Y j D).toArray⟩ ∧ s = ⟨(blankL (dayOf Y j D) (H * 3600 + I * 60 + S) Y j D).toArray⟩ ∧ v = dayOf Y j D * 86400 + H * 3600 + I * 60 + S ∧ e = 0) ∨
         (¬ s = ⟨(showL (dayOf Y j D) (H * 3600 + I * 60 + S) Y j D).toArray⟩ ∧ ¬ s = ⟨(dash2L (dayOf Y j D) (H * 3600 + I * 60 + S) Y j D).toArray⟩ ∧ ¬ s = ⟨(blankL (dayOf Y j D) (H * 3600 + I * 60 + S) Y j D).toArray⟩ ∧ v = 0 ∧ e = 20)))) (w : World) :
    Calls Tryz.prog 50 #[.string s] w fun x w' => x = .returned (.tuple #[.int .i64 v, .int .i64 e]) ∧ Below w.heap.size w w' := by
  have bD : -1 ≤ D ∧ D ≤ 100000000 := by rw [← hD]; exact refNum_in _ (by rw [seg_lenD s _ _ (by omega) (by omega)]; omega)
  have bY : -1 ≤ Yr ∧ Yr ≤ 100000000 := by rw [← hY]; exact refNum_in _ (by rw [seg_lenD s _ _ (by omega) (by omega)]; omega)
  have bH : -1 ≤ H ∧ H ≤ 100000000 := by rw [← hH]; exact refNum_in _ (by rw [seg_lenD s _ _ (by omega) (by omega)]; omega)
  have bI : -1 ≤ I ∧ I ≤ 100000000 := by rw [← hI]; exact refNum_in _ (by rw [seg_lenD s _ _ (by omega) (by omega)]; omega)
  have bS : -1 ≤ S ∧ S ≤ 100000000 := by rw [← hS]; exact refNum_in _ (by rw [seg_lenD s _ _ (by omega) (by omega)]; omega)
  have cD := hide (digitsRef s 11 13 (by omega) (by omega) (by omega) (by omega))
  have cY := hide (digitsRef s 18 20 (by omega) (by omega) (by omega) (by omega))
  have cH := hide (digitsRef s 21 23 (by omega) (by omega) (by omega) (by omega))
  have cI := hide (digitsRef s 24 26 (by omega) (by omega) (by omega) (by omega))
  have cS := hide (digitsRef s 27 29 (by omega) (by omega) (by omega) (by omega))
  rw [hD] at cD
  rw [hY] at cY
  rw [hH] at cH
  rw [hI] at cI
  rw [hS] at cS
  clear hD hY hH hI hS
  obtain ⟨x, hx⟩ : ∃ x, s.extract 14 17 = x := ⟨_, rfl⟩
  rw [hx] at he
  have hne2 : ∀ i : Int, 1 ≤ i → i ≤ 12 → ¬ i = j → ¬ x = ⟨(moL i).toArray⟩ := by rw [← hx]; exact hne
  have zx : x.size = 3 := by rw [← hx, ext_size _ _ _ (by omega)]
  clear hne
  replace he := hide he
  replace hne2 := hide hne2
  replace hq := hide hq
  obtain ⟨V, E, hV, bV⟩ := dayV_one Y j D
  have cN := hide (fun w => dayRefV hV w)
  have HV := hide hV
  clear hV
  rcases hYY with ⟨y1, rfl⟩ | ⟨y1, y2, rfl⟩ | ⟨y1, rfl⟩
  · go_enter Tryz.func50, Tryz.ntmps50
    go_wp2_with fail
    refine (cD.out _).mono ?_
    rintro x1 w1 ⟨rfl, rfl⟩
    go_wp2_with fail
    refine (cY.out _).mono ?_
    rintro x1 w1 ⟨rfl, rfl⟩
    go_wp2_with fail
    go_loopw [9, 10] (fun mv iv wr => ∃ (k : Nat) (m0 : Int), 1 ≤ k ∧ k ≤ 13 ∧ iv = .int .i64 k ∧ mv = .int .i64 m0 ∧ Hid (m0 = if j < (k : Int) then j else 0) ∧ ∃ q, Hid (wr = w1.drewN q)) (fun _ iv _ => 13 - (intOf iv).toNat)
    case atStart => exact ⟨1, 0, by omega, by omega, rfl, rfl, by unfold Hid; split <;> omega, 0, rfl⟩
    case round =>
      obtain ⟨k, m0, k0, k1, rfl, rfl, hm, q, hw⟩ := hrel
      by_cases h12 : k ≤ 12
      · have cM := hide (fun W => monthRef (k : Int) (by omega) (by omega) W)
        have h12' : (k : Int) ≤ 12 := by omega
        by_cases hkj : (k : Int) = j
        · have hxe := he.out (by omega)
          rw [← hkj] at hxe
          have M1 : Hid ((k : Int) = if j < ((k + 1 : Nat) : Int) then j else 0) := by unfold Hid; rw [if_pos (by omega)]; exact hkj
          replace hkj := hide hkj
          generalize (⟨(moL (k : Int)).toArray⟩ : ByteArray) = z at cM hxe
          subst hxe
          go_wp2_with fail
          go_quiet (first | (go_at_call 70; exact Calls.quiet_of_same (cM.out _)))
          go_wp2_with fail
          go_roundw
          case rel => exact ⟨k + 1, k, by omega, by omega, by go_num, rfl, M1, q + nq, by unfold Hid; rw [hw.out, World.drewN_drewN]⟩
          case measure => simp [intOf]; omega
        · have hxn := ne_list (hne2.out (k : Int) (by omega) (by omega) hkj)
          have M1 : Hid (m0 = if j < ((k + 1 : Nat) : Int) then j else 0) := by
            unfold Hid; rw [hm.out]
            by_cases hj : j < (k : Int)
            · rw [if_pos hj, if_pos (by omega)]
            · rw [if_neg hj, if_neg (by omega)]
          replace hkj := hide hkj
          generalize (⟨(moL (k : Int)).toArray⟩ : ByteArray) = z at cM hxn
          go_wp2_with fail
          go_quiet (first | (go_at_call 70; exact Calls.quiet_of_same (cM.out _)))
          go_wp2_with fail
          go_roundw
          case rel => exact ⟨k + 1, m0, by omega, by omega, by go_num, rfl, M1, q + nq, by unfold Hid; rw [hw.out, World.drewN_drewN]⟩
          case measure => simp [intOf]; omega
      · have h13 : ¬ (k : Int) ≤ 12 := by omega
        have B0 : Hid (Below w1.heap.size w1 wr) := by unfold Hid; rw [hw.out]; exact below_drawn2 (Below.refl _ _) _
        have m0j : m0 = j := by rw [hm.out, if_pos (by omega)]
        subst m0j
        clear hm hw he hne2
        go_wp2_with fail
        refine (cH.out _).mono ?_
        rintro x1 w2 ⟨rfl, rfl⟩
        go_wp2_with fail
        refine (cI.out _).mono ?_
        rintro x1 w2 ⟨rfl, rfl⟩
        go_wp2_with fail
        refine (cS.out _).mono ?_
        rintro x1 w2 ⟨rfl, rfl⟩
        go_wp2_with fail
        refine (cN.out _).mono ?_
        rintro x1 w3 ⟨rfl, b3⟩
        have B3 : Hid (Below w1.heap.size w1 w3) := B0.out.trans (b3.mono B0.out.size)
        clear b3 B0 cH cI cS cN cD cY
        rcases hq.out with ⟨hbad, hv0, he0⟩ | ⟨⟨hv, g1, g2, g3, g4, g5, g6⟩, hform⟩
        · replace hv0 := hide hv0
          replace he0 := hide he0
          clear hq
          rcases hbad with h | ⟨hv, h1⟩ | ⟨hv, h1, h2⟩ | ⟨hv, h1, h2, h3⟩ | ⟨hv, h1, h2, h3, h4⟩ | ⟨hv, h1, h2, h3, h4, h5⟩ | ⟨hv, h1, h2, h3, h4, h5, h6⟩
          · obtain ⟨rfl, rfl⟩ : V = 0 ∧ E = 20 := by
              rcases HV.out with ⟨a, _⟩ | ⟨_, a, b⟩
              · exact absurd a h
              · exact ⟨a, b⟩
            clear h HV
            go_wp2_with fail
            go_ret2
            rw [hv0.out, he0.out]
            exact ⟨rfl, B3.out⟩
          · obtain rfl : E = 0 := by
              rcases HV.out with ⟨_, _, a⟩ | ⟨a, _⟩
              · exact a
              · exact absurd hv a
            clear hv HV
            go_wp2_with fail
            go_ret2
            rw [hv0.out, he0.out]
            exact ⟨rfl, B3.out⟩
          · obtain rfl : E = 0 := by
              rcases HV.out with ⟨_, _, a⟩ | ⟨a, _⟩
              · exact a
              · exact absurd hv a
            clear hv HV
            go_wp2_with fail
            go_ret2
            rw [hv0.out, he0.out]
            exact ⟨rfl, B3.out⟩
          · obtain rfl : E = 0 := by
              rcases HV.out with ⟨_, _, a⟩ | ⟨a, _⟩
              · exact a
              · exact absurd hv a
            clear hv HV
            go_wp2_with fail
            go_ret2
            rw [hv0.out, he0.out]
            exact ⟨rfl, B3.out⟩
          · obtain rfl : E = 0 := by
              rcases HV.out with ⟨_, _, a⟩ | ⟨a, _⟩
              · exact a
              · exact absurd hv a
            clear hv HV
            go_wp2_with fail
            go_ret2
            rw [hv0.out, he0.out]
            exact ⟨rfl, B3.out⟩
          · obtain rfl : E = 0 := by
              rcases HV.out with ⟨_, _, a⟩ | ⟨a, _⟩
              · exact a
              · exact absurd hv a
            clear hv HV
            go_wp2_with fail
            go_ret2
            rw [hv0.out, he0.out]
            exact ⟨rfl, B3.out⟩
          · obtain rfl : E = 0 := by
              rcases HV.out with ⟨_, _, a⟩ | ⟨a, _⟩
              · exact a
              · exact absurd hv a
            clear hv HV
            go_wp2_with fail
            go_ret2
            rw [hv0.out, he0.out]
            exact ⟨rfl, B3.out⟩
        · obtain ⟨hV1, rfl⟩ : V = dayOf (Yr + 1900) m0 D ∧ E = 0 := by
            rcases HV.out with ⟨_, a, b⟩ | ⟨a, _⟩
            · exact ⟨a, b⟩
            · exact absurd hv a
          have hr := dayOf_range hv
          rw [← hV1] at hform hr
          have cF := hide (fun W => formsRef (V * 86400 + H * 3600 + I * 60 + S) (Yr + 1900) m0 D (by omega) (by omega) hv (by rw [← hV1]; omega) W)
          rw [show (V * 86400 + H * 3600 + I * 60 + S) / 86400 = V by omega, show (V * 86400 + H * 3600 + I * 60 + S) % 86400 = H * 3600 + I * 60 + S by omega] at cF
          clear hq HV hv hV1
          generalize (⟨(showL V (H * 3600 + I * 60 + S) (Yr + 1900) m0 D).toArray⟩ : ByteArray) = A at cF hform
          generalize (⟨(dash2L V (H * 3600 + I * 60 + S) (Yr + 1900) m0 D).toArray⟩ : ByteArray) = B at cF hform
          generalize (⟨(blankL V (H * 3600 + I * 60 + S) (Yr + 1900) m0 D).toArray⟩ : ByteArray) = C at cF hform
          replace hform := hide hform
          go_wp2_with fail
          refine (cF.out _).mono ?_
          rintro x1 w4 ⟨rfl, b4⟩
          have B4 : Hid (Below w1.heap.size w1 w4) := B3.out.trans (b4.mono B3.out.size)
          clear b4 cF
          have B5 : Hid (Below w1.heap.size w1 (w4.alloc (.cells #[.string A, .string B, .string C] 101))) := B4.out.alloc B4.out.size _
          rcases hform.out with ⟨p1, hv0, he0⟩ | ⟨p1, p2, hv0, he0⟩ | ⟨p1, p2, p3, hv0, he0⟩ | ⟨p1, p2, p3, hv0, he0⟩
          · have q1 : (s.toList == A.toList) = true := by rw [p1]; simp
            replace hv0 := hide hv0
            replace he0 := hide he0
            clear hform p1
            go_wp2_with fail
            go_ret2
            rw [hv0.out, he0.out]
            exact ⟨rfl, B5.out⟩
          · have q1 := ne_list p1
            have q2 : (s.toList == B.toList) = true := by rw [p2]; simp
            replace hv0 := hide hv0
            replace he0 := hide he0
            clear hform p1 p2
            go_wp2_with fail
            go_ret2
            rw [hv0.out, he0.out]
            exact ⟨rfl, B5.out⟩
          · have q1 := ne_list p1
            have q2 := ne_list p2
            have q3 : (s.toList == C.toList) = true := by rw [p3]; simp
            replace hv0 := hide hv0
            replace he0 := hide he0
            clear hform p1 p2 p3
            go_wp2_with fail
            go_ret2
            rw [hv0.out, he0.out]
            exact ⟨rfl, B5.out⟩
          · have q1 := ne_list p1
            have q2 := ne_list p2
            have q3 := ne_list p3
            replace hv0 := hide hv0
            replace he0 := hide he0
            clear hform p1 p2 p3
            go_wp2_with fail
            go_ret2
            rw [hv0.out, he0.out]
            exact ⟨rfl, B5.out⟩
  · go_enter Tryz.func50, Tryz.ntmps50
    go_wp2_with fail
    refine (cD.out _).mono ?_
    rintro x1 w1 ⟨rfl, rfl⟩
    go_wp2_with fail
    refine (cY.out _).mono ?_
    rintro x1 w1 ⟨rfl, rfl⟩
    go_wp2_with fail
    go_loopw [9, 10] (fun mv iv wr => ∃ (k : Nat) (m0 : Int), 1 ≤ k ∧ k ≤ 13 ∧ iv = .int .i64 k ∧ mv = .int .i64 m0 ∧ Hid (m0 = if j < (k : Int) then j else 0) ∧ ∃ q, Hid (wr = w1.drewN q)) (fun _ iv _ => 13 - (intOf iv).toNat)
    case atStart => exact ⟨1, 0, by omega, by omega, rfl, rfl, by unfold Hid; split <;> omega, 0, rfl⟩
    case round =>
      obtain ⟨k, m0, k0, k1, rfl, rfl, hm, q, hw⟩ := hrel
      by_cases h12 : k ≤ 12
      · have cM := hide (fun W => monthRef (k : Int) (by omega) (by omega) W)
        have h12' : (k : Int) ≤ 12 := by omega
        by_cases hkj : (k : Int) = j
        · have hxe := he.out (by omega)
          rw [← hkj] at hxe
          have M1 : Hid ((k : Int) = if j < ((k + 1 : Nat) : Int) then j else 0) := by unfold Hid; rw [if_pos (by omega)]; exact hkj
          replace hkj := hide hkj
          generalize (⟨(moL (k : Int)).toArray⟩ : ByteArray) = z at cM hxe
          subst hxe
          go_wp2_with fail
          go_quiet (first | (go_at_call 70; exact Calls.quiet_of_same (cM.out _)))
          go_wp2_with fail
          go_roundw
          case rel => exact ⟨k + 1, k, by omega, by omega, by go_num, rfl, M1, q + nq, by unfold Hid; rw [hw.out, World.drewN_drewN]⟩
          case measure => simp [intOf]; omega
        · have hxn := ne_list (hne2.out (k : Int) (by omega) (by omega) hkj)
          have M1 : Hid (m0 = if j < ((k + 1 : Nat) : Int) then j else 0) := by
            unfold Hid; rw [hm.out]
            by_cases hj : j < (k : Int)
            · rw [if_pos hj, if_pos (by omega)]
            · rw [if_neg hj, if_neg (by omega)]
          replace hkj := hide hkj
          generalize (⟨(moL (k : Int)).toArray⟩ : ByteArray) = z at cM hxn
          go_wp2_with fail
          go_quiet (first | (go_at_call 70; exact Calls.quiet_of_same (cM.out _)))
          go_wp2_with fail
          go_roundw
          case rel => exact ⟨k + 1, m0, by omega, by omega, by go_num, rfl, M1, q + nq, by unfold Hid; rw [hw.out, World.drewN_drewN]⟩
          case measure => simp [intOf]; omega
      · have h13 : ¬ (k : Int) ≤ 12 := by omega
        have B0 : Hid (Below w1.heap.size w1 wr) := by unfold Hid; rw [hw.out]; exact below_drawn2 (Below.refl _ _) _
        have m0j : m0 = j := by rw [hm.out, if_pos (by omega)]
        subst m0j
        clear hm hw he hne2
        go_wp2_with fail
        refine (cH.out _).mono ?_
        rintro x1 w2 ⟨rfl, rfl⟩
        go_wp2_with fail
        refine (cI.out _).mono ?_
        rintro x1 w2 ⟨rfl, rfl⟩
        go_wp2_with fail
        refine (cS.out _).mono ?_
        rintro x1 w2 ⟨rfl, rfl⟩
        go_wp2_with fail
        refine (cN.out _).mono ?_
        rintro x1 w3 ⟨rfl, b3⟩
        have B3 : Hid (Below w1.heap.size w1 w3) := B0.out.trans (b3.mono B0.out.size)
        clear b3 B0 cH cI cS cN cD cY
        rcases hq.out with ⟨hbad, hv0, he0⟩ | ⟨⟨hv, g1, g2, g3, g4, g5, g6⟩, hform⟩
        · replace hv0 := hide hv0
          replace he0 := hide he0
          clear hq
          rcases hbad with h | ⟨hv, h1⟩ | ⟨hv, h1, h2⟩ | ⟨hv, h1, h2, h3⟩ | ⟨hv, h1, h2, h3, h4⟩ | ⟨hv, h1, h2, h3, h4, h5⟩ | ⟨hv, h1, h2, h3, h4, h5, h6⟩
          · obtain ⟨rfl, rfl⟩ : V = 0 ∧ E = 20 := by
              rcases HV.out with ⟨a, _⟩ | ⟨_, a, b⟩
              · exact absurd a h
              · exact ⟨a, b⟩
            clear h HV
            go_wp2_with fail
            go_ret2
            rw [hv0.out, he0.out]
            exact ⟨rfl, B3.out⟩
          · obtain rfl : E = 0 := by
              rcases HV.out with ⟨_, _, a⟩ | ⟨a, _⟩
              · exact a
              · exact absurd hv a
            clear hv HV
            go_wp2_with fail
            go_ret2
            rw [hv0.out, he0.out]
            exact ⟨rfl, B3.out⟩
          · obtain rfl : E = 0 := by
              rcases HV.out with ⟨_, _, a⟩ | ⟨a, _⟩
              · exact a
              · exact absurd hv a
            clear hv HV
            go_wp2_with fail
            go_ret2
            rw [hv0.out, he0.out]
            exact ⟨rfl, B3.out⟩
          · obtain rfl : E = 0 := by
              rcases HV.out with ⟨_, _, a⟩ | ⟨a, _⟩
              · exact a
              · exact absurd hv a
            clear hv HV
            go_wp2_with fail
            go_ret2
            rw [hv0.out, he0.out]
            exact ⟨rfl, B3.out⟩
          · obtain rfl : E = 0 := by
              rcases HV.out with ⟨_, _, a⟩ | ⟨a, _⟩
              · exact a
              · exact absurd hv a
            clear hv HV
            go_wp2_with fail
            go_ret2
            rw [hv0.out, he0.out]
            exact ⟨rfl, B3.out⟩
          · obtain rfl : E = 0 := by
              rcases HV.out with ⟨_, _, a⟩ | ⟨a, _⟩
              · exact a
              · exact absurd hv a
            clear hv HV
            go_wp2_with fail
            go_ret2
            rw [hv0.out, he0.out]
            exact ⟨rfl, B3.out⟩
          · obtain rfl : E = 0 := by
              rcases HV.out with ⟨_, _, a⟩ | ⟨a, _⟩
              · exact a
              · exact absurd hv a
            clear hv HV
            go_wp2_with fail
            go_ret2
            rw [hv0.out, he0.out]
            exact ⟨rfl, B3.out⟩
        · obtain ⟨hV1, rfl⟩ : V = dayOf (Yr + 2000) m0 D ∧ E = 0 := by
            rcases HV.out with ⟨_, a, b⟩ | ⟨a, _⟩
            · exact ⟨a, b⟩
            · exact absurd hv a
          have hr := dayOf_range hv
          rw [← hV1] at hform hr
          have cF := hide (fun W => formsRef (V * 86400 + H * 3600 + I * 60 + S) (Yr + 2000) m0 D (by omega) (by omega) hv (by rw [← hV1]; omega) W)
          rw [show (V * 86400 + H * 3600 + I * 60 + S) / 86400 = V by omega, show (V * 86400 + H * 3600 + I * 60 + S) % 86400 = H * 3600 + I * 60 + S by omega] at cF
          clear hq HV hv hV1
          generalize (⟨(showL V (H * 3600 + I * 60 + S) (Yr + 2000) m0 D).toArray⟩ : ByteArray) = A at cF hform
          generalize (⟨(dash2L V (H * 3600 + I * 60 + S) (Yr + 2000) m0 D).toArray⟩ : ByteArray) = B at cF hform
          generalize (⟨(blankL V (H * 3600 + I * 60 + S) (Yr + 2000) m0 D).toArray⟩ : ByteArray) = C at cF hform
          replace hform := hide hform
          go_wp2_with fail
          refine (cF.out _).mono ?_
          rintro x1 w4 ⟨rfl, b4⟩
          have B4 : Hid (Below w1.heap.size w1 w4) := B3.out.trans (b4.mono B3.out.size)
          clear b4 cF
          have B5 : Hid (Below w1.heap.size w1 (w4.alloc (.cells #[.string A, .string B, .string C] 101))) := B4.out.alloc B4.out.size _
          rcases hform.out with ⟨p1, hv0, he0⟩ | ⟨p1, p2, hv0, he0⟩ | ⟨p1, p2, p3, hv0, he0⟩ | ⟨p1, p2, p3, hv0, he0⟩
          · have q1 : (s.toList == A.toList) = true := by rw [p1]; simp
            replace hv0 := hide hv0
            replace he0 := hide he0
            clear hform p1
            go_wp2_with fail
            go_ret2
            rw [hv0.out, he0.out]
            exact ⟨rfl, B5.out⟩
          · have q1 := ne_list p1
            have q2 : (s.toList == B.toList) = true := by rw [p2]; simp
            replace hv0 := hide hv0
            replace he0 := hide he0
            clear hform p1 p2
            go_wp2_with fail
            go_ret2
            rw [hv0.out, he0.out]
            exact ⟨rfl, B5.out⟩
          · have q1 := ne_list p1
            have q2 := ne_list p2
            have q3 : (s.toList == C.toList) = true := by rw [p3]; simp
            replace hv0 := hide hv0
            replace he0 := hide he0
            clear hform p1 p2 p3
            go_wp2_with fail
            go_ret2
            rw [hv0.out, he0.out]
            exact ⟨rfl, B5.out⟩
          · have q1 := ne_list p1
            have q2 := ne_list p2
            have q3 := ne_list p3
            replace hv0 := hide hv0
            replace he0 := hide he0
            clear hform p1 p2 p3
            go_wp2_with fail
            go_ret2
            rw [hv0.out, he0.out]
            exact ⟨rfl, B5.out⟩
  · go_enter Tryz.func50, Tryz.ntmps50
    go_wp2_with fail
    refine (cD.out _).mono ?_
    rintro x1 w1 ⟨rfl, rfl⟩
    go_wp2_with fail
    refine (cY.out _).mono ?_
    rintro x1 w1 ⟨rfl, rfl⟩
    go_wp2_with fail
    go_loopw [9, 10] (fun mv iv wr => ∃ (k : Nat) (m0 : Int), 1 ≤ k ∧ k ≤ 13 ∧ iv = .int .i64 k ∧ mv = .int .i64 m0 ∧ Hid (m0 = if j < (k : Int) then j else 0) ∧ ∃ q, Hid (wr = w1.drewN q)) (fun _ iv _ => 13 - (intOf iv).toNat)
    case atStart => exact ⟨1, 0, by omega, by omega, rfl, rfl, by unfold Hid; split <;> omega, 0, rfl⟩
    case round =>
      obtain ⟨k, m0, k0, k1, rfl, rfl, hm, q, hw⟩ := hrel
      by_cases h12 : k ≤ 12
      · have cM := hide (fun W => monthRef (k : Int) (by omega) (by omega) W)
        have h12' : (k : Int) ≤ 12 := by omega
        by_cases hkj : (k : Int) = j
        · have hxe := he.out (by omega)
          rw [← hkj] at hxe
          have M1 : Hid ((k : Int) = if j < ((k + 1 : Nat) : Int) then j else 0) := by unfold Hid; rw [if_pos (by omega)]; exact hkj
          replace hkj := hide hkj
          generalize (⟨(moL (k : Int)).toArray⟩ : ByteArray) = z at cM hxe
          subst hxe
          go_wp2_with fail
          go_quiet (first | (go_at_call 70; exact Calls.quiet_of_same (cM.out _)))
          go_wp2_with fail
          go_roundw
          case rel => exact ⟨k + 1, k, by omega, by omega, by go_num, rfl, M1, q + nq, by unfold Hid; rw [hw.out, World.drewN_drewN]⟩
          case measure => simp [intOf]; omega
        · have hxn := ne_list (hne2.out (k : Int) (by omega) (by omega) hkj)
          have M1 : Hid (m0 = if j < ((k + 1 : Nat) : Int) then j else 0) := by
            unfold Hid; rw [hm.out]
            by_cases hj : j < (k : Int)
            · rw [if_pos hj, if_pos (by omega)]
            · rw [if_neg hj, if_neg (by omega)]
          replace hkj := hide hkj
          generalize (⟨(moL (k : Int)).toArray⟩ : ByteArray) = z at cM hxn
          go_wp2_with fail
          go_quiet (first | (go_at_call 70; exact Calls.quiet_of_same (cM.out _)))
          go_wp2_with fail
          go_roundw
          case rel => exact ⟨k + 1, m0, by omega, by omega, by go_num, rfl, M1, q + nq, by unfold Hid; rw [hw.out, World.drewN_drewN]⟩
          case measure => simp [intOf]; omega
      · have h13 : ¬ (k : Int) ≤ 12 := by omega
        have B0 : Hid (Below w1.heap.size w1 wr) := by unfold Hid; rw [hw.out]; exact below_drawn2 (Below.refl _ _) _
        have m0j : m0 = j := by rw [hm.out, if_pos (by omega)]
        subst m0j
        clear hm hw he hne2
        go_wp2_with fail
        refine (cH.out _).mono ?_
        rintro x1 w2 ⟨rfl, rfl⟩
        go_wp2_with fail
        refine (cI.out _).mono ?_
        rintro x1 w2 ⟨rfl, rfl⟩
        go_wp2_with fail
        refine (cS.out _).mono ?_
        rintro x1 w2 ⟨rfl, rfl⟩
        go_wp2_with fail
        refine (cN.out _).mono ?_
        rintro x1 w3 ⟨rfl, b3⟩
        have B3 : Hid (Below w1.heap.size w1 w3) := B0.out.trans (b3.mono B0.out.size)
        clear b3 B0 cH cI cS cN cD cY
        rcases hq.out with ⟨hbad, hv0, he0⟩ | ⟨⟨hv, g1, g2, g3, g4, g5, g6⟩, hform⟩
        · replace hv0 := hide hv0
          replace he0 := hide he0
          clear hq
          rcases hbad with h | ⟨hv, h1⟩ | ⟨hv, h1, h2⟩ | ⟨hv, h1, h2, h3⟩ | ⟨hv, h1, h2, h3, h4⟩ | ⟨hv, h1, h2, h3, h4, h5⟩ | ⟨hv, h1, h2, h3, h4, h5, h6⟩
          · obtain ⟨rfl, rfl⟩ : V = 0 ∧ E = 20 := by
              rcases HV.out with ⟨a, _⟩ | ⟨_, a, b⟩
              · exact absurd a h
              · exact ⟨a, b⟩
            clear h HV
            go_wp2_with fail
            go_ret2
            rw [hv0.out, he0.out]
            exact ⟨rfl, B3.out⟩
          · obtain rfl : E = 0 := by
              rcases HV.out with ⟨_, _, a⟩ | ⟨a, _⟩
              · exact a
              · exact absurd hv a
            clear hv HV
            go_wp2_with fail
            go_ret2
            rw [hv0.out, he0.out]
            exact ⟨rfl, B3.out⟩
          · obtain rfl : E = 0 := by
              rcases HV.out with ⟨_, _, a⟩ | ⟨a, _⟩
              · exact a
              · exact absurd hv a
            clear hv HV
            go_wp2_with fail
            go_ret2
            rw [hv0.out, he0.out]
            exact ⟨rfl, B3.out⟩
          · obtain rfl : E = 0 := by
              rcases HV.out with ⟨_, _, a⟩ | ⟨a, _⟩
              · exact a
              · exact absurd hv a
            clear hv HV
            go_wp2_with fail
            go_ret2
            rw [hv0.out, he0.out]
            exact ⟨rfl, B3.out⟩
          · obtain rfl : E = 0 := by
              rcases HV.out with ⟨_, _, a⟩ | ⟨a, _⟩
              · exact a
              · exact absurd hv a
            clear hv HV
            go_wp2_with fail
            go_ret2
            rw [hv0.out, he0.out]
            exact ⟨rfl, B3.out⟩
          · obtain rfl : E = 0 := by
              rcases HV.out with ⟨_, _, a⟩ | ⟨a, _⟩
              · exact a
              · exact absurd hv a
            clear hv HV
            go_wp2_with fail
            go_ret2
            rw [hv0.out, he0.out]
            exact ⟨rfl, B3.out⟩
          · obtain rfl : E = 0 := by
              rcases HV.out with ⟨_, _, a⟩ | ⟨a, _⟩
              · exact a
              · exact absurd hv a
            clear hv HV
            go_wp2_with fail
            go_ret2
            rw [hv0.out, he0.out]
            exact ⟨rfl, B3.out⟩
        · obtain ⟨hV1, rfl⟩ : V = dayOf Y m0 D ∧ E = 0 := by
            rcases HV.out with ⟨_, a, b⟩ | ⟨a, _⟩
            · exact ⟨a, b⟩
            · exact absurd hv a
          have hr := dayOf_range hv
          rw [← hV1] at hform hr
          have cF := hide (fun W => formsRef (V * 86400 + H * 3600 + I * 60 + S) Y m0 D (by omega) (by omega) hv (by rw [← hV1]; omega) W)
          rw [show (V * 86400 + H * 3600 + I * 60 + S) / 86400 = V by omega, show (V * 86400 + H * 3600 + I * 60 + S) % 86400 = H * 3600 + I * 60 + S by omega] at cF
          clear hq HV hv hV1
          generalize (⟨(showL V (H * 3600 + I * 60 + S) Y m0 D).toArray⟩ : ByteArray) = A at cF hform
          generalize (⟨(dash2L V (H * 3600 + I * 60 + S) Y m0 D).toArray⟩ : ByteArray) = B at cF hform
          generalize (⟨(blankL V (H * 3600 + I * 60 + S) Y m0 D).toArray⟩ : ByteArray) = C at cF hform
          replace hform := hide hform
          go_wp2_with fail
          refine (cF.out _).mono ?_
          rintro x1 w4 ⟨rfl, b4⟩
          have B4 : Hid (Below w1.heap.size w1 w4) := B3.out.trans (b4.mono B3.out.size)
          clear b4 cF
          have B5 : Hid (Below w1.heap.size w1 (w4.alloc (.cells #[.string A, .string B, .string C] 101))) := B4.out.alloc B4.out.size _
          rcases hform.out with ⟨p1, hv0, he0⟩ | ⟨p1, p2, hv0, he0⟩ | ⟨p1, p2, p3, hv0, he0⟩ | ⟨p1, p2, p3, hv0, he0⟩
          · have q1 : (s.toList == A.toList) = true := by rw [p1]; simp
            replace hv0 := hide hv0
            replace he0 := hide he0
            clear hform p1
            go_wp2_with fail
            go_ret2
            rw [hv0.out, he0.out]
            exact ⟨rfl, B5.out⟩
          · have q1 := ne_list p1
            have q2 : (s.toList == B.toList) = true := by rw [p2]; simp
            replace hv0 := hide hv0
            replace he0 := hide he0
            clear hform p1 p2
            go_wp2_with fail
            go_ret2
            rw [hv0.out, he0.out]
            exact ⟨rfl, B5.out⟩
          · have q1 := ne_list p1
            have q2 := ne_list p2
            have q3 : (s.toList == C.toList) = true := by rw [p3]; simp
            replace hv0 := hide hv0
            replace he0 := hide he0
            clear hform p1 p2 p3
            go_wp2_with fail
            go_ret2
            rw [hv0.out, he0.out]
            exact ⟨rfl, B5.out⟩
          · have q1 := ne_list p1
            have q2 := ne_list p2
            have q3 := ne_list p3
            replace hv0 := hide hv0
            replace he0 := hide he0
            clear hform p1 p2 p3
            go_wp2_with fail
            go_ret2
            rw [hv0.out, he0.out]
            exact ⟨rfl, B5.out⟩
end Go.Proofs.YtipcmbonhkelbabGreatDoor
