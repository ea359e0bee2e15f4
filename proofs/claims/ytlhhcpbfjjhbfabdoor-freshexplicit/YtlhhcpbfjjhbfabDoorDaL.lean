/- The contracts of leap, leapsBefore, daysBefore, monthLength and of the document's leap and length. -/
import Derived.Test.YtlhhcpbfjjhbfabDoorDaP
import Derived.Test.YtlhhcpbfjjhbfabDoorProg
namespace Go.Proofs.YtlhhcpbfjjhbfabDoor
open Go.RowKit
/-- the variable of the months' lengths holds what its text lays -/
def LenVar (w : World) : Prop := ∀ i : Nat, i < 12 → w.cell? ⟨3, i, none⟩ = some (.int .i64 (mtab.getD i 0))
theorem LenVar.below {w w' : World} (h : LenVar w) (b : Below w.heap.size w w') : LenVar w' := by
  intro i hi
  have h1 := h i hi
  rw [b.cell (p := ⟨3, i, none⟩) (World.block_lt_of_cell? _ _ h1)]
  exact h1
theorem b_leap4 {y : Int} (h : leapB y = true) : (y % 4 == 0) = true ∧ ((y % 100 != 0) = true ∨ (y % 100 != 0) = false ∧ (y % 400 == 0) = true) := by
  unfold leapB at h; revert h; cases (y % 4 == 0) <;> cases (y % 100 != 0) <;> cases (y % 400 == 0) <;> simp
theorem b_leapN {y : Int} (h : leapB y = false) : (y % 4 == 0) = false ∨ ((y % 4 == 0) = true ∧ (y % 100 != 0) = false ∧ (y % 400 == 0) = false) := by
  unfold leapB at h; revert h; cases (y % 4 == 0) <;> cases (y % 100 != 0) <;> cases (y % 400 == 0) <;> simp
set_option maxHeartbeats 1000000 in
theorem leapCode (y : Int) (h0 : 0 ≤ y) (h1 : y ≤ 100000) (w : World) :
    Calls Tryd.prog 95 #[.int .i64 y] w fun e w' => e = .returned (.bool (leapB y)) ∧ w' = w := by
  cases h : leapB y with
  | true =>
    obtain ⟨a, b | ⟨b, c⟩⟩ := b_leap4 h
    · clear h
      go_enter Tryd.func95, Tryd.ntmps95
      go_wp2
      go_ret
      exact ⟨rfl, rfl⟩
    · clear h
      go_enter Tryd.func95, Tryd.ntmps95
      go_wp2
      go_ret
      exact ⟨rfl, rfl⟩
  | false =>
    obtain a | ⟨a, b, c⟩ := b_leapN h
    · clear h
      go_enter Tryd.func95, Tryd.ntmps95
      go_wp2
      go_ret
      exact ⟨rfl, rfl⟩
    · clear h
      go_enter Tryd.func95, Tryd.ntmps95
      go_wp2
      go_ret
      exact ⟨rfl, rfl⟩
set_option maxHeartbeats 1000000 in
theorem leapRef (y : Int) (h0 : 0 ≤ y) (h1 : y ≤ 100000) (w : World) :
    Calls Tryd.prog 59 #[.int .i64 y] w fun e w' => e = .returned (.bool (leapB y)) ∧ w' = w := by
  cases h : leapB y with
  | true =>
    obtain ⟨a, b | ⟨b, c⟩⟩ := b_leap4 h
    · clear h
      go_enter Tryd.func59, Tryd.ntmps59
      go_wp2
      go_ret
      exact ⟨rfl, rfl⟩
    · clear h
      go_enter Tryd.func59, Tryd.ntmps59
      go_wp2
      go_ret
      exact ⟨rfl, rfl⟩
  | false =>
    obtain a | ⟨a, b, c⟩ := b_leapN h
    · clear h
      go_enter Tryd.func59, Tryd.ntmps59
      go_wp2
      go_ret
      exact ⟨rfl, rfl⟩
    · clear h
      go_enter Tryd.func59, Tryd.ntmps59
      go_wp2
      go_ret
      exact ⟨rfl, rfl⟩
set_option maxHeartbeats 1000000 in
theorem leapsCode (y : Int) (h0 : 1 ≤ y) (h1 : y ≤ 100000) (w : World) :
    Calls Tryd.prog 96 #[.int .i64 y] w fun e w' => e = .returned (.int .i64 (lb y)) ∧ w' = w := by
  have H : Hid (lb y = (y - 1) / 4 - (y - 1) / 100 + (y - 1) / 400) := rfl
  have a1 : 0 ≤ y - 1 := by omega
  go_enter Tryd.func96, Tryd.ntmps96
  go_wp2
  go_ret
  rw [H.out]
  exact ⟨rfl, rfl⟩
theorem lb_in {y : Int} (h0 : 1 ≤ y) (h1 : y ≤ 100000) : 0 ≤ lb y ∧ lb y ≤ 100000 := by unfold lb; omega
theorem leaps1970 (w : World) :
    Calls Tryd.prog 96 #[.int .i64 1970] w fun e w' => e = .returned (.int .i64 477) ∧ w' = w := by
  have h := leapsCode 1970 (by omega) (by omega) w
  have e : lb 1970 = 477 := by decide
  rwa [e] at h
set_option maxHeartbeats 1000000 in
theorem daysBefore (y : Int) (h0 : 1 ≤ y) (h1 : y ≤ 100000) (w : World) :
    Calls Tryd.prog 81 #[.int .i64 y] w fun e w' => e = .returned (.int .i64 (yb y)) ∧ w' = w := by
  have H : Hid (yb y = 365 * (y - 1970) + lb y - 477) := rfl
  have c := leapsCode y h0 h1
  have b := lb_in h0 h1
  generalize lb y = l at H b c
  go_enter Tryd.func81, Tryd.ntmps81
  go_wp2_with fail
  refine (c _).mono ?_
  rintro e w1 ⟨rfl, rfl⟩
  go_wp2_with fail
  refine (leaps1970 _).mono ?_
  rintro e w1 ⟨rfl, rfl⟩
  go_wp2_with fail
  go_ret
  rw [H.out]
  exact ⟨rfl, rfl⟩
set_option maxHeartbeats 1000000 in
theorem monthLen (y m : Int) (h0 : 0 ≤ y) (h1 : y ≤ 100000) (m0 : 1 ≤ m) (m1 : m ≤ 12) (w : World) (V : LenVar w) :
    Calls Tryd.prog 80 #[.int .i64 y, .int .i64 m] w fun e w' => e = .returned (.int .i64 (mlen y m)) ∧ w' = w := by
  have c := leapCode y h0 h1
  by_cases hm : m = 2
  · subst hm
    cases hl : leapB y with
    | true =>
      rw [hl] at c
      have H : Hid (mlen y 2 = 29) := by unfold Hid mlen; rw [if_pos ⟨rfl, hl⟩]
      clear hl V m0 m1
      go_enter Tryd.func80, Tryd.ntmps80
      go_wp2_with fail
      refine (c _).mono ?_
      rintro e w1 ⟨rfl, rfl⟩
      go_wp2_with fail
      go_ret
      rw [H.out]
      exact ⟨rfl, rfl⟩
    | false =>
      rw [hl] at c
      have H : Hid (mlen y 2 = 28) := by unfold Hid mlen; rw [if_neg (by rw [hl]; simp)]; rfl
      have v := V 1 (by omega)
      clear hl V m0 m1
      go_enter Tryd.func80, Tryd.ntmps80
      go_wp2_with fail
      refine (c _).mono ?_
      rintro e w1 ⟨rfl, rfl⟩
      go_wp2_with fail
      go_ret
      rw [H.out]
      exact ⟨rfl, rfl⟩
  · have hb : (m == 2) = false := by simpa using hm
    have v := V (m.toNat - 1) (by omega)
    have H : Hid (mlen y m = mtab.getD (m.toNat - 1) 0) := by unfold Hid mlen; rw [if_neg (by simp [hm]), show (m - 1).toNat = m.toNat - 1 by omega]
    clear c V hm
    generalize mtab.getD (m.toNat - 1) 0 = l at v H
    go_enter Tryd.func80, Tryd.ntmps80
    go_wp2_with fail
    go_ret
    rw [H.out]
    exact ⟨rfl, rfl⟩
set_option maxHeartbeats 1000000 in
theorem lenRef (y m : Int) (h0 : 0 ≤ y) (h1 : y ≤ 100000) (m0 : 1 ≤ m) (m1 : m ≤ 12) (w : World) :
    Calls Tryd.prog 60 #[.int .i64 y, .int .i64 m] w fun e w' => e = .returned (.int .i64 (mlen y m)) ∧ Below w.heap.size w w' := by
  have c := leapRef y h0 h1
  by_cases hm : m = 2
  · subst hm
    cases hl : leapB y with
    | true =>
      rw [hl] at c
      have H : Hid (mlen y 2 = 29) := by unfold Hid mlen; rw [if_pos ⟨rfl, hl⟩]
      clear hl m0 m1
      go_enter Tryd.func60, Tryd.ntmps60
      go_wp2_with fail
      refine (c _).mono ?_
      rintro e w1 ⟨rfl, rfl⟩
      go_wp2_with fail
      go_ret
      rw [H.out]
      exact ⟨rfl, Below.refl _ _⟩
    | false =>
      rw [hl] at c
      have H : Hid (mlen y 2 = 28) := by unfold Hid mlen; rw [if_neg (by rw [hl]; simp)]; rfl
      clear hl m0 m1
      go_enter Tryd.func60, Tryd.ntmps60
      go_wp2_with fail
      refine (c _).mono ?_
      rintro e w1 ⟨rfl, rfl⟩
      go_wp2_with fail
      go_ret
      rw [H.out]
      exact ⟨rfl, (Below.refl _ _).alloc (Nat.le_refl _) _⟩
  · have hb : (m == 2) = false := by simpa using hm
    clear c
    rcases twelve m0 m1 with rfl | rfl | rfl | rfl | rfl | rfl | rfl | rfl | rfl | rfl | rfl | rfl
    all_goals first | (exact absurd rfl hm) | skip
    all_goals
      clear hm m0 m1 hb
      go_enter Tryd.func60, Tryd.ntmps60
      go_wp2_with fail
      go_ret
      exact ⟨rfl, (Below.refl _ _).alloc (Nat.le_refl _) _⟩
end Go.Proofs.YtlhhcpbfjjhbfabDoor
