/- The contracts of Day and of the document's Day. -/
import Derived.Test.YtlhhcpbfjjhbfabDoorDaL
namespace Go.Proofs.YtlhhcpbfjjhbfabDoor
open Go.RowKit
theorem mb_in (y : Int) {m : Int} (h0 : 1 ≤ m) (h1 : m ≤ 12) : 0 ≤ mb y m ∧ mb y m ≤ 366 := by
  have a := mb_mono y (a := 1) (b := m) (by omega) h0 (by omega)
  have b := mb_mono y (a := m) (b := 13) h0 (by omega) (by omega)
  rw [mb_1] at a
  rw [mb_13] at b
  refine ⟨a, ?_⟩
  split at b <;> omega
theorem yb_in {y : Int} (h0 : 1970 ≤ y) (h1 : y ≤ 10000) : 0 ≤ yb y ∧ yb y ≤ 2932897 := by
  have a := yb_mono h0
  have b := yb_mono h1
  rw [yb_1970] at a
  rw [yb_10000] at b
  omega
set_option maxHeartbeats 2000000 in
theorem dayCode (y m d : Int) (h : Valid y m d) (w : World) (V : LenVar w) :
    Calls Tryd.prog 72 #[.int .i64 y, .int .i64 m, .int .i64 d] w fun e w' => e = .returned (.tuple #[.int .i64 (dayOf y m d), .int .i64 0]) ∧ w' = w := by
  obtain ⟨y0, y1, m0, m1, d0, d1⟩ := h
  have cL := fun k (k0 : 1 ≤ k) (k1 : k ≤ 12) => monthLen y k (by omega) (by omega) k0 k1 w V
  have cB := daysBefore y (by omega) (by omega)
  have bL := mlen_in y m0 m1
  have bY := yb_in y0 (show y ≤ 10000 by omega)
  have c1 := cL m m0 m1
  have HD : Hid (∀ t, t = yb y + mb y m → t + d - 1 = dayOf y m d) := fun t e => by rw [e]; rfl
  generalize mlen y m = L at c1 bL d1
  clear V
  replace c1 := hide c1
  replace cB := hide cB
  replace cL := hide cL
  go_enter Tryd.func72, Tryd.ntmps72
  go_wp2_with fail
  refine c1.out.mono ?_
  clear c1
  rintro e w1 ⟨rfl, rfl⟩
  go_wp2_with fail
  refine (cB.out _).mono ?_
  rintro e w1 ⟨rfl, rfl⟩
  go_wp2_with fail
  go_loop [8, 9] (fun dv iv => ∃ k t : Int, 1 ≤ k ∧ k ≤ m ∧ iv = .int .i64 k ∧ dv = .int .i64 t ∧ Hid (t = yb y + mb y k)) (fun _ iv => (m - intOf iv).toNat)
  case atStart => exact ⟨1, yb y, by omega, m0, rfl, rfl, by unfold Hid; rw [mb_1]; omega⟩
  case round =>
    obtain ⟨k, t, k0, k1, rfl, rfl, ht⟩ := hrel
    have bt : 0 ≤ t ∧ t ≤ 2933333 := by have := ht.out; have := mb_in y k0 (show k ≤ 12 by omega); omega
    by_cases hlt : k < m
    · have cK := cL.out k k0 (by omega)
      have bK := mlen_in y k0 (show k ≤ 12 by omega)
      have R : Hid (t + mlen y k = yb y + mb y (k + 1)) := by unfold Hid; rw [mb_succ y k0 (by omega), ht.out]; omega
      generalize mlen y k = Lk at cK bK R
      replace cK := hide cK
      go_wp2_with fail
      refine cK.out.mono ?_
      rintro e w1 ⟨rfl, rfl⟩
      go_wp2_with fail
      go_round
      case rel => exact ⟨k + 1, t + Lk, by omega, by omega, rfl, rfl, R⟩
      case measure => simp [intOf]; omega
    · obtain rfl : k = m := by omega
      have E : Hid (t + d - 1 = dayOf y k d) := HD.out t ht.out
      clear HD ht
      go_wp2_with fail
      go_ret2
      rw [E.out]
      exact ⟨rfl, rfl⟩
set_option maxHeartbeats 2000000 in
theorem dayCode_no (y m d : Int) (h : ¬ Valid y m d) (w : World) (V : LenVar w) :
    Calls Tryd.prog 72 #[.int .i64 y, .int .i64 m, .int .i64 d] w fun e w' => e = .returned (.tuple #[.int .i64 0, .int .i64 20]) ∧ w' = w := by
  by_cases y0 : 1970 ≤ y
  · by_cases y1 : y ≤ 9999
    · by_cases m0 : 1 ≤ m
      · by_cases m1 : m ≤ 12
        · by_cases d0 : 1 ≤ d
          · have d1 : ¬ d ≤ mlen y m := fun d1 => h ⟨y0, y1, m0, m1, d0, d1⟩
            have c1 := monthLen y m (by omega) (by omega) m0 m1 w V
            have bL := mlen_in y m0 m1
            generalize mlen y m = L at c1 bL d1
            replace d1 : L < d := by omega
            replace c1 := hide c1
            clear h V
            go_enter Tryd.func72, Tryd.ntmps72
            go_wp2_with fail
            refine c1.out.mono ?_
            clear c1
            rintro e w1 ⟨rfl, rfl⟩
            go_wp2_with fail
            go_ret2
            exact ⟨rfl, rfl⟩
          · replace d0 : d < 1 := by omega
            clear h V
            go_enter Tryd.func72, Tryd.ntmps72
            go_wp2_with fail
            go_ret2
            exact ⟨rfl, rfl⟩
        · replace m1 : 12 < m := by omega
          clear h V
          go_enter Tryd.func72, Tryd.ntmps72
          go_wp2_with fail
          go_ret2
          exact ⟨rfl, rfl⟩
      · replace m0 : m < 1 := by omega
        clear h V
        go_enter Tryd.func72, Tryd.ntmps72
        go_wp2_with fail
        go_ret2
        exact ⟨rfl, rfl⟩
    · replace y1 : 9999 < y := by omega
      clear h V
      go_enter Tryd.func72, Tryd.ntmps72
      go_wp2_with fail
      go_ret2
      exact ⟨rfl, rfl⟩
  · replace y0 : y < 1970 := by omega
    clear h V
    go_enter Tryd.func72, Tryd.ntmps72
    go_wp2_with fail
    go_ret2
    exact ⟨rfl, rfl⟩
end Go.Proofs.YtlhhcpbfjjhbfabDoor
