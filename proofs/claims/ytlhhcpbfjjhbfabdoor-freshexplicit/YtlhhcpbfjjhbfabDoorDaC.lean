/- The contracts of Civil and of the document's Civil. -/
import Derived.Test.YtlhhcpbfjjhbfabDoorDaD
namespace Go.Proofs.YtlhhcpbfjjhbfabDoor
open Go.RowKit
theorem days10000 (w : World) :
    Calls Tryd.prog 81 #[.int .i64 10000] w fun e w' => e = .returned (.int .i64 2932897) ∧ w' = w := by
  have h := daysBefore 10000 (by omega) (by omega) w
  rwa [yb_10000] at h
theorem civ_first {y m d : Int} (h : Valid y m d) : 1970 ≤ 1970 + dayOf y m d / 366 ∧ 1970 + dayOf y m d / 366 ≤ y := by
  obtain ⟨h1, h2, h3, h4, h5, h6⟩ := dayOf_in h
  have a := dayOf_range h
  have b := yb_upper (a := 1970) (b := y + 1) (by have := h.y0; omega)
  rw [yb_1970] at b
  have := h.d1
  unfold dayOf at *
  omega
theorem civ_year {y m d : Int} (h : Valid y m d) : yb y ≤ dayOf y m d ∧ dayOf y m d < yb (y + 1) ∧ (∀ k, 1970 ≤ k → k < y → yb (k + 1) ≤ dayOf y m d) := by
  obtain ⟨h1, h2, h3, h4, h5, h6⟩ := dayOf_in h
  have := h.d0; have := h.d1
  refine ⟨by unfold dayOf; omega, by unfold dayOf; omega, fun k _ hk => ?_⟩
  have := yb_mono (a := k + 1) (b := y) (by omega)
  unfold dayOf; omega
theorem civ_month {y m d : Int} (h : Valid y m d) {k : Int} (k0 : 1 ≤ k) (k1 : k < m) : mlen y k ≤ dayOf y m d - yb y - mb y k := by
  have a := mb_succ y k0 (show k ≤ 12 by have := h.m1; omega)
  have b := mb_mono y (a := k + 1) (b := m) (by omega) (by omega) (by have := h.m1; omega)
  have := h.d0
  unfold dayOf; omega
theorem civ_year2 {y m d : Int} (h : Valid y m d) : (∀ k, 1970 ≤ k → k < y → yb (k + 1) ≤ dayOf y m d) ∧ dayOf y m d < yb (y + 1) := ⟨(civ_year h).2.2, (civ_year h).2.1⟩
set_option maxHeartbeats 2000000 in
theorem civilRef (y m d : Int) (h : Valid y m d) (w : World) :
    Calls Tryd.prog 48 #[.int .i64 (dayOf y m d)] w fun e w' => e = .returned (.tuple #[.int .i64 y, .int .i64 m, .int .i64 d, .int .i64 0]) ∧ Below w.heap.size w w' := by
  have cM := hide (fun k (k0 : 1 ≤ k) (k1 : k < m) => civ_month h k0 k1)
  have HE := hide (show dayOf y m d - yb y - mb y m + 1 = d by unfold dayOf; omega)
  have hlast := hide (show dayOf y m d - yb y - mb y m < mlen y m by have := h.d1; unfold dayOf; omega)
  obtain ⟨q1, q2, q3⟩ := civ_year h
  obtain ⟨r1, r2⟩ := dayOf_range h
  obtain ⟨y0, y1, m0, m1, d0, d1⟩ := h
  have cL := hide (fun y k (y0 : 1970 ≤ y) (y1 : y ≤ 9999) (k0 : 1 ≤ k) (k1 : k ≤ 12) => lenRef y k (by omega) (by omega) k0 k1)
  have cY := hide (fun k (k0 : 0 ≤ k) (k1 : k ≤ 100000) => leapRef k k0 k1)
  generalize dayOf y m d = n at *
  replace q1 := hide q1
  replace q2 := hide q2
  replace q3 := hide q3
  go_enter Tryd.func48, Tryd.ntmps48
  go_wp2_with fail
  go_loop [0, 6, 7] (fun dv yv _ => ∃ k r : Int, 1970 ≤ k ∧ k ≤ y ∧ yv = .int .i64 k ∧ dv = .int .i64 r ∧ Hid (r = n - yb k)) (fun _ yv _ => (y - intOf yv).toNat)
  case atStart => exact ⟨1970, n, by omega, y0, rfl, rfl, by unfold Hid; rw [yb_1970]; omega⟩
  case round =>
    obtain ⟨k, r, k0, k1, rfl, rfl, hr⟩ := hrel
    have cK := cY.out k (by omega) (by omega)
    have hs := yb_succ k
    have br : -2932897 ≤ r ∧ r ≤ 2932897 := by have := hr.out; have := yb_in k0 (show k ≤ 10000 by omega); omega
    by_cases hlt : k < y
    · have t1 : yb (k + 1) ≤ n := q3.out k k0 hlt
      cases hl : leapB k with
      | true =>
        rw [hl] at cK hs
        simp only [if_true] at hs
        have t2 : 366 ≤ r := by have := hr.out; omega
        have R : Hid (r - 366 = n - yb (k + 1)) := by have := hr.out; unfold Hid; omega
        replace cK := hide cK
        clear hl hs t1
        go_wp2_with fail
        refine (cK.out _).mono ?_
        rintro e w1 ⟨rfl, rfl⟩
        go_wp2_with fail
        go_round
        case rel => exact ⟨k + 1, r - 366, by omega, by omega, rfl, rfl, R⟩
        case measure => simp [intOf]; omega
      | false =>
        rw [hl] at cK hs
        simp only [Bool.false_eq_true, if_false] at hs
        have t2 : 365 ≤ r := by have := hr.out; omega
        have R : Hid (r - 365 = n - yb (k + 1)) := by have := hr.out; unfold Hid; omega
        replace cK := hide cK
        clear hl hs t1
        go_wp2_with fail
        refine (cK.out _).mono ?_
        rintro e w1 ⟨rfl, rfl⟩
        go_wp2_with fail
        go_round
        case rel => exact ⟨k + 1, r - 365, by omega, by omega, rfl, rfl, R⟩
        case measure => simp [intOf]; omega
    · obtain rfl : k = y := by omega
      have t1 : n < yb (k + 1) := q2.out
      have q1' := q1.out
      have HR := hide (show r = n - yb k from hr.out)
      have t0 : 0 ≤ r := by have := hr.out; omega
      cases hl : leapB k with
      | true =>
        rw [hl] at cK hs
        simp only [if_true] at hs
        have t2 : r < 366 := by have := hr.out; omega
        replace cK := hide cK
        clear hl hs t1 q1 q2 q3 q1' hr
        go_wp2_with fail
        refine (cK.out _).mono ?_
        rintro e w1 ⟨rfl, rfl⟩
        go_wp2_with fail
        go_loopw [0, 8] (fun rv mv wr => ∃ j u : Int, 1 ≤ j ∧ j ≤ m ∧ mv = .int .i64 j ∧ rv = .int .i64 u ∧ Hid (u = n - yb k - mb k j) ∧ Hid (Below w1.heap.size w1 wr)) (fun _ mv _ => (m - intOf mv).toNat)
        case atStart => exact ⟨1, r, by omega, m0, rfl, rfl, by unfold Hid; rw [mb_1, HR.out]; omega, Below.refl _ _⟩
        case round =>
          obtain ⟨j, u, j0, j1, rfl, rfl, hu, hw⟩ := hrel
          have cJ := cL.out k j y0 y1 j0 (by omega)
          have bJ := mlen_in k j0 (show j ≤ 12 by omega)
          have bu : -400 ≤ u ∧ u ≤ 2932897 := by have := hu.out; have := HR.out; have := mb_in k j0 (show j ≤ 12 by omega); omega
          by_cases hjl : j < m
          · have t3 : mlen k j ≤ u := by rw [hu.out]; exact cM.out j j0 hjl
            have R : Hid (u - mlen k j = n - yb k - mb k (j + 1)) := by unfold Hid; rw [mb_succ k j0 (by omega), hu.out]; omega
            generalize mlen k j = Lj at cJ bJ R t3
            replace cJ := hide cJ
            go_wp2_with fail
            refine (cJ.out _).mono ?_
            rintro e w2 ⟨rfl, b2⟩
            have B2 : Hid (Below w1.heap.size w1 w2) := hw.out.trans (b2.mono hw.out.size)
            clear b2 hw
            go_wp2_with fail
            refine (cJ.out _).mono ?_
            rintro e w3 ⟨rfl, b3⟩
            have B3 : Hid (Below w1.heap.size w1 w3) := B2.out.trans (b3.mono B2.out.size)
            clear b3 B2
            go_wp2_with fail
            go_roundw
            case rel => exact ⟨j + 1, u - Lj, by omega, by omega, rfl, rfl, R, B3⟩
            case measure => simp [intOf]; omega
          · obtain rfl : j = m := by omega
            have t3 : u < mlen k j := by rw [hu.out]; exact hlast.out
            have E : Hid (u + 1 = d) := by unfold Hid; rw [hu.out]; exact HE.out
            generalize mlen k j = Lj at cJ bJ t3
            replace cJ := hide cJ
            clear cM HE hlast
            go_wp2_with fail
            refine (cJ.out _).mono ?_
            rintro e w2 ⟨rfl, b2⟩
            have B2 : Hid (Below w1.heap.size w1 w2) := hw.out.trans (b2.mono hw.out.size)
            clear b2 hw
            go_wp2_with fail
            exact bodyPost_ret (v := .tuple #[.int .i64 k, .int .i64 j, .int .i64 (u + 1), .int .i64 0]) (by simp [results, Tryd.results48, go_sem]) rfl ⟨by rw [E.out], B2.out⟩
      | false =>
        rw [hl] at cK hs
        simp only [Bool.false_eq_true, if_false] at hs
        have t2 : r < 365 := by have := hr.out; omega
        replace cK := hide cK
        clear hl hs t1 q1 q2 q3 q1' hr
        go_wp2_with fail
        refine (cK.out _).mono ?_
        rintro e w1 ⟨rfl, rfl⟩
        go_wp2_with fail
        go_loopw [0, 8] (fun rv mv wr => ∃ j u : Int, 1 ≤ j ∧ j ≤ m ∧ mv = .int .i64 j ∧ rv = .int .i64 u ∧ Hid (u = n - yb k - mb k j) ∧ Hid (Below w1.heap.size w1 wr)) (fun _ mv _ => (m - intOf mv).toNat)
        case atStart => exact ⟨1, r, by omega, m0, rfl, rfl, by unfold Hid; rw [mb_1, HR.out]; omega, Below.refl _ _⟩
        case round =>
          obtain ⟨j, u, j0, j1, rfl, rfl, hu, hw⟩ := hrel
          have cJ := cL.out k j y0 y1 j0 (by omega)
          have bJ := mlen_in k j0 (show j ≤ 12 by omega)
          have bu : -400 ≤ u ∧ u ≤ 2932897 := by have := hu.out; have := HR.out; have := mb_in k j0 (show j ≤ 12 by omega); omega
          by_cases hjl : j < m
          · have t3 : mlen k j ≤ u := by rw [hu.out]; exact cM.out j j0 hjl
            have R : Hid (u - mlen k j = n - yb k - mb k (j + 1)) := by unfold Hid; rw [mb_succ k j0 (by omega), hu.out]; omega
            generalize mlen k j = Lj at cJ bJ R t3
            replace cJ := hide cJ
            go_wp2_with fail
            refine (cJ.out _).mono ?_
            rintro e w2 ⟨rfl, b2⟩
            have B2 : Hid (Below w1.heap.size w1 w2) := hw.out.trans (b2.mono hw.out.size)
            clear b2 hw
            go_wp2_with fail
            refine (cJ.out _).mono ?_
            rintro e w3 ⟨rfl, b3⟩
            have B3 : Hid (Below w1.heap.size w1 w3) := B2.out.trans (b3.mono B2.out.size)
            clear b3 B2
            go_wp2_with fail
            go_roundw
            case rel => exact ⟨j + 1, u - Lj, by omega, by omega, rfl, rfl, R, B3⟩
            case measure => simp [intOf]; omega
          · obtain rfl : j = m := by omega
            have t3 : u < mlen k j := by rw [hu.out]; exact hlast.out
            have E : Hid (u + 1 = d) := by unfold Hid; rw [hu.out]; exact HE.out
            generalize mlen k j = Lj at cJ bJ t3
            replace cJ := hide cJ
            clear cM HE hlast
            go_wp2_with fail
            refine (cJ.out _).mono ?_
            rintro e w2 ⟨rfl, b2⟩
            have B2 : Hid (Below w1.heap.size w1 w2) := hw.out.trans (b2.mono hw.out.size)
            clear b2 hw
            go_wp2_with fail
            exact bodyPost_ret (v := .tuple #[.int .i64 k, .int .i64 j, .int .i64 (u + 1), .int .i64 0]) (by simp [results, Tryd.results48, go_sem]) rfl ⟨by rw [E.out], B2.out⟩
set_option maxHeartbeats 1000000 in
theorem civilRef_no (n : Int) (h : n < 0 ∨ 2932896 < n) (w : World) :
    Calls Tryd.prog 48 #[.int .i64 n] w fun e w' => e = .returned (.tuple #[.int .i64 0, .int .i64 0, .int .i64 0, .int .i64 20]) ∧ w' = w := by
  rcases h with h | h
  · go_enter Tryd.func48, Tryd.ntmps48
    go_wp2_with fail
    exact bodyPost_ret (v := .tuple #[.int .i64 0, .int .i64 0, .int .i64 0, .int .i64 20]) (by simp [results, Tryd.results48, go_sem]) rfl ⟨rfl, rfl⟩
  · have h0 : 0 ≤ n := by omega
    go_enter Tryd.func48, Tryd.ntmps48
    go_wp2_with fail
    exact bodyPost_ret (v := .tuple #[.int .i64 0, .int .i64 0, .int .i64 0, .int .i64 20]) (by simp [results, Tryd.results48, go_sem]) rfl ⟨rfl, rfl⟩
end Go.Proofs.YtlhhcpbfjjhbfabDoor
