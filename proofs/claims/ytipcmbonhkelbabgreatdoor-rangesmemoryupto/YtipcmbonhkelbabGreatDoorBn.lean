/- Plain lemmas on the Gregorian calendar: days of years and months, and that a day has one name; nothing of the program is named here. The contracts of leap, leapsBefore, daysBefore, monthLength and of the document's leap and length. The contracts of Day and of the document's Day. The contracts of Civil and of the document's Civil. What the listed package variables hold, out of the row's own condition, and that it stays so while only new memory is made. -/
import Derived.WalkKit
import Derived.ProofKit
import Derived.Test.YtipcmbonhkelbabGreatDoorProg
import Derived.Lib.LaidTab
import Derived.Lib.AppendIntMem
import Derived.Lib.ItoaNum
import Derived.MakeChecks
namespace Go.Proofs.YtipcmbonhkelbabGreatDoor
open Go.RowKit

theorem hide {p : Prop} (h : p) : Hid p := h
def leapB (y : Int) : Bool := (y % 4 == 0) && ((y % 100 != 0) || (y % 400 == 0))
theorem leapB_iff (y : Int) : leapB y = true ↔ (y % 4 = 0 ∧ (y % 100 ≠ 0 ∨ y % 400 = 0)) := by simp [leapB]
/-- leap years up to a year -/
def lb (y : Int) : Int := (y - 1) / 4 - (y - 1) / 100 + (y - 1) / 400
/-- days ahead of a year -/
def yb (y : Int) : Int := 365 * (y - 1970) + lb y - 477
theorem yb_succ (y : Int) : yb (y + 1) = yb y + (if leapB y then 366 else 365) := by
  unfold yb lb
  cases h : leapB y with
  | true => have := (leapB_iff y).1 h; simp only [if_true]; omega
  | false =>
    have : ¬ (y % 4 = 0 ∧ (y % 100 ≠ 0 ∨ y % 400 = 0)) := fun h' => by rw [(leapB_iff y).2 h'] at h; cases h
    simp only [Bool.false_eq_true, if_false]; omega
theorem yb_lo (y : Int) : yb y + 365 ≤ yb (y + 1) := by rw [yb_succ]; split <;> omega
theorem yb_hi (y : Int) : yb (y + 1) ≤ yb y + 366 := by rw [yb_succ]; split <;> omega
theorem yb_mono {a b : Int} (h : a ≤ b) : yb a + 365 * (b - a) ≤ yb b := by
  obtain ⟨n, rfl⟩ : ∃ n : Nat, b = a + n := ⟨(b - a).toNat, by omega⟩
  clear h
  induction n with
  | zero => simp
  | succ n ih =>
    have e : a + ((n + 1 : Nat) : Int) = (a + n) + 1 := by omega
    have := yb_lo (a + n)
    rw [e]; omega
theorem yb_upper {a b : Int} (h : a ≤ b) : yb b ≤ yb a + 366 * (b - a) := by
  obtain ⟨n, rfl⟩ : ∃ n : Nat, b = a + n := ⟨(b - a).toNat, by omega⟩
  clear h
  induction n with
  | zero => simp
  | succ n ih =>
    have e : a + ((n + 1 : Nat) : Int) = (a + n) + 1 := by omega
    have := yb_hi (a + n)
    rw [e]; omega
theorem yb_1970 : yb 1970 = 0 := by decide
theorem yb_10000 : yb 10000 = 2932897 := by decide

/-- the months' lengths of a common year -/
def mtab : List Int := [31, 28, 31, 30, 31, 30, 31, 31, 30, 31, 30, 31]
def mlen (y m : Int) : Int := if m = 2 ∧ leapB y = true then 29 else mtab.getD (m - 1).toNat 0
theorem twelve {m : Int} (h0 : 1 ≤ m) (h1 : m ≤ 12) : m = 1 ∨ m = 2 ∨ m = 3 ∨ m = 4 ∨ m = 5 ∨ m = 6 ∨ m = 7 ∨ m = 8 ∨ m = 9 ∨ m = 10 ∨ m = 11 ∨ m = 12 := by omega
/-- days of a year ahead of a month -/
def mb (y m : Int) : Int := [0, 31, 59, 90, 120, 151, 181, 212, 243, 273, 304, 334, 365].getD (m - 1).toNat 0 + (if 3 ≤ m ∧ leapB y = true then 1 else 0)
theorem mb_1 (y : Int) : mb y 1 = 0 := by unfold mb; rw [if_neg (by omega)]; rfl
theorem mb_succ (y : Int) {m : Int} (h0 : 1 ≤ m) (h1 : m ≤ 12) : mb y (m + 1) = mb y m + mlen y m := by
  cases h : leapB y <;> rcases twelve h0 h1 with rfl | rfl | rfl | rfl | rfl | rfl | rfl | rfl | rfl | rfl | rfl | rfl <;> simp [mb, mlen, h, mtab]
theorem mb_13 (y : Int) : mb y 13 = (if leapB y then 366 else 365) := by cases h : leapB y <;> simp [mb, h]
theorem mlen_in (y : Int) {m : Int} (h0 : 1 ≤ m) (h1 : m ≤ 12) : 28 ≤ mlen y m ∧ mlen y m ≤ 31 := by
  unfold mlen
  split
  · omega
  · rcases twelve h0 h1 with rfl | rfl | rfl | rfl | rfl | rfl | rfl | rfl | rfl | rfl | rfl | rfl <;> simp [mtab]
theorem mb_mono (y : Int) {a b : Int} (ha : 1 ≤ a) (h : a ≤ b) (hb : b ≤ 13) : mb y a ≤ mb y b := by
  obtain ⟨n, rfl⟩ : ∃ n : Nat, b = a + n := ⟨(b - a).toNat, by omega⟩
  induction n with
  | zero => simp
  | succ n ih =>
    have e : a + ((n + 1 : Nat) : Int) = (a + n) + 1 := by omega
    have h1 := mb_succ y (m := a + n) (by omega) (by omega)
    have h2 := mlen_in y (m := a + n) (by omega) (by omega)
    have h3 := ih (by omega) (by omega)
    rw [e, h1]; omega
/-- there is such a day -/
structure Valid (y m d : Int) : Prop where
  y0 : 1970 ≤ y
  y1 : y ≤ 9999
  m0 : 1 ≤ m
  m1 : m ≤ 12
  d0 : 1 ≤ d
  d1 : d ≤ mlen y m
def dayOf (y m d : Int) : Int := yb y + mb y m + d - 1
theorem dayOf_in {y m d : Int} (h : Valid y m d) : 0 ≤ mb y m ∧ mb y (m + 1) = mb y m + mlen y m ∧ mb y (m + 1) ≤ mb y 13 ∧ yb (y + 1) = yb y + mb y 13 ∧ 0 ≤ yb y ∧ yb (y + 1) ≤ 2932897 := by
  obtain ⟨a, b, c, d0, e, f⟩ := h
  have h1 := mb_mono y (a := 1) (b := m) (by omega) c (by omega)
  have h2 := mb_succ y c d0
  have h3 := mb_mono y (a := m + 1) (b := 13) (by omega) (by omega) (by omega)
  have h4 := yb_mono a
  have h5 := yb_mono (a := y + 1) (b := 10000) (by omega)
  rw [mb_1] at h1
  rw [yb_1970] at h4
  rw [yb_10000] at h5
  refine ⟨h1, h2, h3, ?_, by omega, by omega⟩
  rw [yb_succ, mb_13]
theorem dayOf_range {y m d : Int} (h : Valid y m d) : 0 ≤ dayOf y m d ∧ dayOf y m d ≤ 2932896 := by
  obtain ⟨h1, h2, h3, h4, h5, h6⟩ := dayOf_in h
  have := h.d0; have := h.d1
  unfold dayOf; omega
theorem day_one {y m d y' m' d' : Int} (h : Valid y m d) (h' : Valid y' m' d') (e : dayOf y m d = dayOf y' m' d') : y = y' ∧ m = m' ∧ d = d' := by
  obtain ⟨h1, h2, h3, h4, h5, h6⟩ := dayOf_in h
  obtain ⟨g1, g2, g3, g4, g5, g6⟩ := dayOf_in h'
  have a1 := h.d0; have a2 := h.d1; have b1 := h'.d0; have b2 := h'.d1
  unfold dayOf at e
  have ey : y = y' := by
    rcases Int.lt_trichotomy y y' with q | q | q
    · have := yb_mono (a := y + 1) (b := y') (by omega); omega
    · exact q
    · have := yb_mono (a := y' + 1) (b := y) (by omega); omega
  subst ey
  have em : m = m' := by
    rcases Int.lt_trichotomy m m' with q | q | q
    · have := mb_mono y (a := m + 1) (b := m') (by have := h.m0; omega) (by omega) (by have := h'.m1; omega); omega
    · exact q
    · have := mb_mono y (a := m' + 1) (b := m) (by have := h'.m0; omega) (by omega) (by have := h.m1; omega); omega
  subst em
  exact ⟨rfl, rfl, by omega⟩
theorem day_all (n : Nat) (hn : n ≤ 2932896) : ∃ y m d, Valid y m d ∧ dayOf y m d = n := by
  induction n with
  | zero => exact ⟨1970, 1, 1, ⟨by omega, by omega, by omega, by omega, by omega, by decide⟩, by decide⟩
  | succ n ih =>
    obtain ⟨y, m, d, h, e⟩ := ih (by omega)
    obtain ⟨h1, h2, h3, h4, h5, h6⟩ := dayOf_in h
    obtain ⟨q1, q2, q3, q4, q5, q6⟩ := h
    unfold dayOf at e
    by_cases hd : d < mlen y m
    · exact ⟨y, m, d + 1, ⟨q1, q2, q3, q4, by omega, by omega⟩, by unfold dayOf; omega⟩
    · by_cases hm : m < 12
      · have := mlen_in y (m := m + 1) (by omega) (by omega)
        exact ⟨y, m + 1, 1, ⟨q1, q2, by omega, by omega, by omega, by omega⟩, by unfold dayOf; omega⟩
      · have em : m = 12 := by omega
        subst em
        have e13 : (12 : Int) + 1 = 13 := rfl
        rw [e13] at h2 h3
        have hy : y < 9999 := by
          by_cases hy : y < 9999
          · exact hy
          · have ey : y = 9999 := by omega
            subst ey
            have : yb (9999 + 1) = 2932897 := yb_10000
            omega
        have := mlen_in (y + 1) (m := 1) (by omega) (by omega)
        refine ⟨y + 1, 1, 1, ⟨by omega, by omega, by omega, by omega, by omega, by omega⟩, ?_⟩
        unfold dayOf
        have := mb_1 (y + 1)
        omega
theorem day_ex {n : Int} (h0 : 0 ≤ n) (h1 : n ≤ 2932896) : ∃ y m d, Valid y m d ∧ dayOf y m d = n := by
  obtain ⟨y, m, d, h, e⟩ := day_all n.toNat (by omega)
  exact ⟨y, m, d, h, by rw [e]; omega⟩
end Go.Proofs.YtipcmbonhkelbabGreatDoor
namespace Go.Proofs.YtipcmbonhkelbabGreatDoor
open Go.RowKit
/-- the variable of the months' lengths holds what its text lays -/
def LenVar (w : World) : Prop := ∀ i : Nat, i < 12 → w.cell? ⟨2, i, none⟩ = some (.int .i64 (mtab.getD i 0))
theorem LenVar.below {w w' : World} (h : LenVar w) (b : Below w.heap.size w w') : LenVar w' := by
  intro i hi
  have h1 := h i hi
  rw [b.cell (p := ⟨2, i, none⟩) (World.block_lt_of_cell? _ _ h1)]
  exact h1
theorem b_leap4 {y : Int} (h : leapB y = true) : (y % 4 == 0) = true ∧ ((y % 100 != 0) = true ∨ (y % 100 != 0) = false ∧ (y % 400 == 0) = true) := by
  unfold leapB at h; revert h; cases (y % 4 == 0) <;> cases (y % 100 != 0) <;> cases (y % 400 == 0) <;> simp
theorem b_leapN {y : Int} (h : leapB y = false) : (y % 4 == 0) = false ∨ ((y % 4 == 0) = true ∧ (y % 100 != 0) = false ∧ (y % 400 == 0) = false) := by
  unfold leapB at h; revert h; cases (y % 4 == 0) <;> cases (y % 100 != 0) <;> cases (y % 400 == 0) <;> simp
set_option maxHeartbeats 1000000 in
theorem leapCode (y : Int) (h0 : 0 ≤ y) (h1 : y ≤ 100000) (w : World) :
    Calls Tryz.prog 99 #[.int .i64 y] w fun e w' => e = .returned (.bool (leapB y)) ∧ w' = w := by
  cases h : leapB y with
  | true =>
    obtain ⟨a, b | ⟨b, c⟩⟩ := b_leap4 h
    · clear h
      go_enter Tryz.func99, Tryz.ntmps99
      go_wp2
      go_ret
      exact ⟨rfl, rfl⟩
    · clear h
      go_enter Tryz.func99, Tryz.ntmps99
      go_wp2
      go_ret
      exact ⟨rfl, rfl⟩
  | false =>
    obtain a | ⟨a, b, c⟩ := b_leapN h
    · clear h
      go_enter Tryz.func99, Tryz.ntmps99
      go_wp2
      go_ret
      exact ⟨rfl, rfl⟩
    · clear h
      go_enter Tryz.func99, Tryz.ntmps99
      go_wp2
      go_ret
      exact ⟨rfl, rfl⟩
set_option maxHeartbeats 1000000 in
theorem leapRef (y : Int) (h0 : 0 ≤ y) (h1 : y ≤ 100000) (w : World) :
    Calls Tryz.prog 90 #[.int .i64 y] w fun e w' => e = .returned (.bool (leapB y)) ∧ w' = w := by
  cases h : leapB y with
  | true =>
    obtain ⟨a, b | ⟨b, c⟩⟩ := b_leap4 h
    · clear h
      go_enter Tryz.func90, Tryz.ntmps90
      go_wp2
      go_ret
      exact ⟨rfl, rfl⟩
    · clear h
      go_enter Tryz.func90, Tryz.ntmps90
      go_wp2
      go_ret
      exact ⟨rfl, rfl⟩
  | false =>
    obtain a | ⟨a, b, c⟩ := b_leapN h
    · clear h
      go_enter Tryz.func90, Tryz.ntmps90
      go_wp2
      go_ret
      exact ⟨rfl, rfl⟩
    · clear h
      go_enter Tryz.func90, Tryz.ntmps90
      go_wp2
      go_ret
      exact ⟨rfl, rfl⟩
set_option maxHeartbeats 1000000 in
theorem leapsCode (y : Int) (h0 : 1 ≤ y) (h1 : y ≤ 100000) (w : World) :
    Calls Tryz.prog 100 #[.int .i64 y] w fun e w' => e = .returned (.int .i64 (lb y)) ∧ w' = w := by
  have H : Hid (lb y = (y - 1) / 4 - (y - 1) / 100 + (y - 1) / 400) := rfl
  have a1 : 0 ≤ y - 1 := by omega
  go_enter Tryz.func100, Tryz.ntmps100
  go_wp2
  go_ret
  rw [H.out]
  exact ⟨rfl, rfl⟩
theorem lb_in {y : Int} (h0 : 1 ≤ y) (h1 : y ≤ 100000) : 0 ≤ lb y ∧ lb y ≤ 100000 := by unfold lb; omega
theorem leaps1970 (w : World) :
    Calls Tryz.prog 100 #[.int .i64 1970] w fun e w' => e = .returned (.int .i64 477) ∧ w' = w := by
  have h := leapsCode 1970 (by omega) (by omega) w
  have e : lb 1970 = 477 := by decide
  rwa [e] at h
set_option maxHeartbeats 1000000 in
theorem daysBefore (y : Int) (h0 : 1 ≤ y) (h1 : y ≤ 100000) (w : World) :
    Calls Tryz.prog 85 #[.int .i64 y] w fun e w' => e = .returned (.int .i64 (yb y)) ∧ w' = w := by
  have H : Hid (yb y = 365 * (y - 1970) + lb y - 477) := rfl
  have c := leapsCode y h0 h1
  have b := lb_in h0 h1
  generalize lb y = l at H b c
  go_enter Tryz.func85, Tryz.ntmps85
  go_wp2_with fail
  refine (c _).mono ?_
  rintro e w1 ⟨rfl, rfl⟩
  go_wp2_with fail
  refine (leaps1970 _).mono ?_
  rintro e w1 ⟨rfl, rfl⟩
  go_wp2_with fail
  go_ret
  rw [H.out]
  exact ⟨rfl, rfl⟩
set_option maxHeartbeats 1000000 in
theorem monthLen (y m : Int) (h0 : 0 ≤ y) (h1 : y ≤ 100000) (m0 : 1 ≤ m) (m1 : m ≤ 12) (w : World) (V : LenVar w) :
    Calls Tryz.prog 84 #[.int .i64 y, .int .i64 m] w fun e w' => e = .returned (.int .i64 (mlen y m)) ∧ w' = w := by
  have c := leapCode y h0 h1
  by_cases hm : m = 2
  · subst hm
    cases hl : leapB y with
    | true =>
      rw [hl] at c
      have H : Hid (mlen y 2 = 29) := by unfold Hid mlen; rw [if_pos ⟨rfl, hl⟩]
      clear hl V m0 m1
      go_enter Tryz.func84, Tryz.ntmps84
      go_wp2_with fail
      refine (c _).mono ?_
      rintro e w1 ⟨rfl, rfl⟩
      go_wp2_with fail
      go_ret
      rw [H.out]
      exact ⟨rfl, rfl⟩
    | false =>
      rw [hl] at c
      have H : Hid (mlen y 2 = 28) := by unfold Hid mlen; rw [if_neg (by rw [hl]; simp)]; rfl
      have v := V 1 (by omega)
      clear hl V m0 m1
      go_enter Tryz.func84, Tryz.ntmps84
      go_wp2_with fail
      refine (c _).mono ?_
      rintro e w1 ⟨rfl, rfl⟩
      go_wp2_with fail
      go_ret
      rw [H.out]
      exact ⟨rfl, rfl⟩
  · have hb : (m == 2) = false := by simpa using hm
    have v := V (m.toNat - 1) (by omega)
    have H : Hid (mlen y m = mtab.getD (m.toNat - 1) 0) := by unfold Hid mlen; rw [if_neg (by simp [hm]), show (m - 1).toNat = m.toNat - 1 by omega]
    clear c V hm
    generalize mtab.getD (m.toNat - 1) 0 = l at v H
    go_enter Tryz.func84, Tryz.ntmps84
    go_wp2_with fail
    go_ret
    rw [H.out]
    exact ⟨rfl, rfl⟩
set_option maxHeartbeats 1000000 in
theorem lenRef (y m : Int) (h0 : 0 ≤ y) (h1 : y ≤ 100000) (m0 : 1 ≤ m) (m1 : m ≤ 12) (w : World) :
    Calls Tryz.prog 89 #[.int .i64 y, .int .i64 m] w fun e w' => e = .returned (.int .i64 (mlen y m)) ∧ Below w.heap.size w w' := by
  have c := leapRef y h0 h1
  by_cases hm : m = 2
  · subst hm
    cases hl : leapB y with
    | true =>
      rw [hl] at c
      have H : Hid (mlen y 2 = 29) := by unfold Hid mlen; rw [if_pos ⟨rfl, hl⟩]
      clear hl m0 m1
      go_enter Tryz.func89, Tryz.ntmps89
      go_wp2_with fail
      refine (c _).mono ?_
      rintro e w1 ⟨rfl, rfl⟩
      go_wp2_with fail
      go_ret
      rw [H.out]
      exact ⟨rfl, Below.refl _ _⟩
    | false =>
      rw [hl] at c
      have H : Hid (mlen y 2 = 28) := by unfold Hid mlen; rw [if_neg (by rw [hl]; simp)]; rfl
      clear hl m0 m1
      go_enter Tryz.func89, Tryz.ntmps89
      go_wp2_with fail
      refine (c _).mono ?_
      rintro e w1 ⟨rfl, rfl⟩
      go_wp2_with fail
      go_ret
      rw [H.out]
      exact ⟨rfl, (Below.refl _ _).alloc (Nat.le_refl _) _⟩
  · have hb : (m == 2) = false := by simpa using hm
    clear c
    rcases twelve m0 m1 with rfl | rfl | rfl | rfl | rfl | rfl | rfl | rfl | rfl | rfl | rfl | rfl
    all_goals first | (exact absurd rfl hm) | skip
    all_goals
      clear hm m0 m1 hb
      go_enter Tryz.func89, Tryz.ntmps89
      go_wp2_with fail
      go_ret
      exact ⟨rfl, (Below.refl _ _).alloc (Nat.le_refl _) _⟩
end Go.Proofs.YtipcmbonhkelbabGreatDoor
namespace Go.Proofs.YtipcmbonhkelbabGreatDoor
open Go.RowKit
theorem mb_in (y : Int) {m : Int} (h0 : 1 ≤ m) (h1 : m ≤ 12) : 0 ≤ mb y m ∧ mb y m ≤ 366 := by
  have a := mb_mono y (a := 1) (b := m) (by omega) h0 (by omega)
  have b := mb_mono y (a := m) (b := 13) h0 (by omega) (by omega)
  rw [mb_1] at a
  rw [mb_13] at b
  refine ⟨a, ?_⟩
  split at b <;> omega
theorem yb_in {y : Int} (h0 : 1970 ≤ y) (h1 : y ≤ 10000) : 0 ≤ yb y ∧ yb y ≤ 2932897 := by
  have a := yb_mono h0
  have b := yb_mono h1
  rw [yb_1970] at a
  rw [yb_10000] at b
  omega
set_option maxHeartbeats 2000000 in
theorem dayCode (y m d : Int) (h : Valid y m d) (w : World) (V : LenVar w) :
    Calls Tryz.prog 64 #[.int .i64 y, .int .i64 m, .int .i64 d] w fun e w' => e = .returned (.tuple #[.int .i64 (dayOf y m d), .int .i64 0]) ∧ w' = w := by
  obtain ⟨y0, y1, m0, m1, d0, d1⟩ := h
  have cL := fun k (k0 : 1 ≤ k) (k1 : k ≤ 12) => monthLen y k (by omega) (by omega) k0 k1 w V
  have cB := daysBefore y (by omega) (by omega)
  have bL := mlen_in y m0 m1
  have bY := yb_in y0 (show y ≤ 10000 by omega)
  have c1 := cL m m0 m1
  have HD : Hid (∀ t, t = yb y + mb y m → t + d - 1 = dayOf y m d) := fun t e => by rw [e]; rfl
  generalize mlen y m = L at c1 bL d1
  clear V
  replace c1 := hide c1
  replace cB := hide cB
  replace cL := hide cL
  go_enter Tryz.func64, Tryz.ntmps64
  go_wp2_with fail
  refine c1.out.mono ?_
  clear c1
  rintro e w1 ⟨rfl, rfl⟩
  go_wp2_with fail
  refine (cB.out _).mono ?_
  rintro e w1 ⟨rfl, rfl⟩
  go_wp2_with fail
  go_loop [8, 9] (fun dv iv => ∃ k t : Int, 1 ≤ k ∧ k ≤ m ∧ iv = .int .i64 k ∧ dv = .int .i64 t ∧ Hid (t = yb y + mb y k)) (fun _ iv => (m - intOf iv).toNat)
  case atStart => exact ⟨1, yb y, by omega, m0, rfl, rfl, by unfold Hid; rw [mb_1]; omega⟩
  case round =>
    obtain ⟨k, t, k0, k1, rfl, rfl, ht⟩ := hrel
    have bt : 0 ≤ t ∧ t ≤ 2933333 := by have := ht.out; have := mb_in y k0 (show k ≤ 12 by omega); omega
    by_cases hlt : k < m
    · have cK := cL.out k k0 (by omega)
      have bK := mlen_in y k0 (show k ≤ 12 by omega)
      have R : Hid (t + mlen y k = yb y + mb y (k + 1)) := by unfold Hid; rw [mb_succ y k0 (by omega), ht.out]; omega
      generalize mlen y k = Lk at cK bK R
      replace cK := hide cK
      go_wp2_with fail
      refine cK.out.mono ?_
      rintro e w1 ⟨rfl, rfl⟩
      go_wp2_with fail
      go_round
      case rel => exact ⟨k + 1, t + Lk, by omega, by omega, rfl, rfl, R⟩
      case measure => simp [intOf]; omega
    · obtain rfl : k = m := by omega
      have E : Hid (t + d - 1 = dayOf y k d) := HD.out t ht.out
      clear HD ht
      go_wp2_with fail
      go_ret2
      rw [E.out]
      exact ⟨rfl, rfl⟩
set_option maxHeartbeats 2000000 in
theorem dayRef (y m d : Int) (h : Valid y m d) (w : World) :
    Calls Tryz.prog 71 #[.int .i64 y, .int .i64 m, .int .i64 d] w fun e w' => e = .returned (.tuple #[.int .i64 (dayOf y m d), .int .i64 0]) ∧ Below w.heap.size w w' := by
  obtain ⟨y0, y1, m0, m1, d0, d1⟩ := h
  have cL := fun k (k0 : 1 ≤ k) (k1 : k ≤ 12) => lenRef y k (by omega) (by omega) k0 k1
  have cY := fun k (k0 : 0 ≤ k) (k1 : k ≤ 100000) => leapRef k k0 k1
  have bL := mlen_in y m0 m1
  have bY := yb_in y0 (show y ≤ 10000 by omega)
  have c1 := cL m m0 m1 w
  have HD : Hid (∀ t, t = d - 1 + yb y + mb y m → t = dayOf y m d) := fun t e => by rw [e]; unfold dayOf; omega
  generalize mlen y m = L at c1 bL d1
  replace c1 := hide c1
  replace cY := hide cY
  replace cL := hide cL
  go_enter Tryz.func71, Tryz.ntmps71
  go_wp2_with fail
  refine c1.out.mono ?_
  clear c1
  rintro e w1 ⟨rfl, b1⟩
  go_wp2_with fail
  go_loop [8, 9] (fun dv iv => ∃ k t : Int, 1970 ≤ k ∧ k ≤ y ∧ iv = .int .i64 k ∧ dv = .int .i64 t ∧ Hid (t = d - 1 + yb k)) (fun _ iv => (y - intOf iv).toNat)
  case atStart => exact ⟨1970, d - 1, by omega, y0, rfl, rfl, by unfold Hid; rw [yb_1970]; omega⟩
  case round =>
    obtain ⟨k, t, k0, k1, rfl, rfl, ht⟩ := hrel
    have bt : 0 ≤ t ∧ t ≤ 2933333 := by have := ht.out; have := yb_in k0 (show k ≤ 10000 by omega); omega
    by_cases hlt : k < y
    · have cK := cY.out k (by omega) (by omega)
      have hs := yb_succ k
      cases hl : leapB k with
      | true =>
        rw [hl] at cK hs
        replace hs := hide hs
        replace cK := hide cK
        clear hl
        go_wp2_with fail
        refine (cK.out _).mono ?_
        rintro e w2 ⟨rfl, rfl⟩
        go_wp2_with fail
        go_round
        case rel => exact ⟨k + 1, t + 365 + 1, by omega, by omega, rfl, rfl, by have q := hs.out; have := ht.out; simp only [if_true] at q; unfold Hid; omega⟩
        case measure => simp [intOf]; omega
      | false =>
        rw [hl] at cK hs
        replace hs := hide hs
        replace cK := hide cK
        clear hl
        go_wp2_with fail
        refine (cK.out _).mono ?_
        rintro e w2 ⟨rfl, rfl⟩
        go_wp2_with fail
        go_round
        case rel => exact ⟨k + 1, t + 365, by omega, by omega, rfl, rfl, by have q := hs.out; have := ht.out; simp only [Bool.false_eq_true, if_false] at q; unfold Hid; omega⟩
        case measure => simp [intOf]; omega
    · obtain rfl : k = y := by omega
      go_wp2_with fail
      go_loopw [8, 10] (fun dv iv wr => ∃ j u : Int, 1 ≤ j ∧ j ≤ m ∧ iv = .int .i64 j ∧ dv = .int .i64 u ∧ Hid (u = d - 1 + yb k + mb k j) ∧ Hid (Below w1.heap.size w1 wr)) (fun _ iv _ => (m - intOf iv).toNat)
      case atStart => exact ⟨1, t, by omega, m0, rfl, rfl, by unfold Hid; rw [mb_1, ht.out]; omega, Below.refl _ _⟩
      case round =>
        obtain ⟨j, u, j0, j1, rfl, rfl, hu, hw⟩ := hrel
        have bu : 0 ≤ u ∧ u ≤ 2933333 := by have := hu.out; have := mb_in k j0 (show j ≤ 12 by omega); omega
        by_cases hjl : j < m
        · have cJ := cL.out j j0 (by omega)
          have bJ := mlen_in k j0 (show j ≤ 12 by omega)
          have R : Hid (u + mlen k j = d - 1 + yb k + mb k (j + 1)) := by unfold Hid; rw [mb_succ k j0 (by omega), hu.out]; omega
          generalize mlen k j = Lj at cJ bJ R
          replace cJ := hide cJ
          go_wp2_with fail
          refine (cJ.out _).mono ?_
          rintro e w3 ⟨rfl, b3⟩
          have hz := hw.out.size
          have B3 : Hid (Below w1.heap.size w1 w3) := hw.out.trans (b3.mono hz)
          clear b3 hw
          go_wp2_with fail
          go_roundw
          case rel => exact ⟨j + 1, u + Lj, by omega, by omega, rfl, rfl, R, B3⟩
          case measure => simp [intOf]; omega
        · obtain rfl : j = m := by omega
          have E : Hid (u = dayOf k j d) := HD.out u hu.out
          clear HD hu
          go_wp2_with fail
          go_ret2
          rw [← E.out]
          exact ⟨rfl, b1.trans (hw.out.mono b1.size)⟩
set_option maxHeartbeats 2000000 in
theorem dayCode_no (y m d : Int) (h : ¬ Valid y m d) (w : World) (V : LenVar w) :
    Calls Tryz.prog 64 #[.int .i64 y, .int .i64 m, .int .i64 d] w fun e w' => e = .returned (.tuple #[.int .i64 0, .int .i64 20]) ∧ w' = w := by
  by_cases y0 : 1970 ≤ y
  · by_cases y1 : y ≤ 9999
    · by_cases m0 : 1 ≤ m
      · by_cases m1 : m ≤ 12
        · by_cases d0 : 1 ≤ d
          · have d1 : ¬ d ≤ mlen y m := fun d1 => h ⟨y0, y1, m0, m1, d0, d1⟩
            have c1 := monthLen y m (by omega) (by omega) m0 m1 w V
            have bL := mlen_in y m0 m1
            generalize mlen y m = L at c1 bL d1
            replace d1 : L < d := by omega
            replace c1 := hide c1
            clear h V
            go_enter Tryz.func64, Tryz.ntmps64
            go_wp2_with fail
            refine c1.out.mono ?_
            clear c1
            rintro e w1 ⟨rfl, rfl⟩
            go_wp2_with fail
            go_ret2
            exact ⟨rfl, rfl⟩
          · replace d0 : d < 1 := by omega
            clear h V
            go_enter Tryz.func64, Tryz.ntmps64
            go_wp2_with fail
            go_ret2
            exact ⟨rfl, rfl⟩
        · replace m1 : 12 < m := by omega
          clear h V
          go_enter Tryz.func64, Tryz.ntmps64
          go_wp2_with fail
          go_ret2
          exact ⟨rfl, rfl⟩
      · replace m0 : m < 1 := by omega
        clear h V
        go_enter Tryz.func64, Tryz.ntmps64
        go_wp2_with fail
        go_ret2
        exact ⟨rfl, rfl⟩
    · replace y1 : 9999 < y := by omega
      clear h V
      go_enter Tryz.func64, Tryz.ntmps64
      go_wp2_with fail
      go_ret2
      exact ⟨rfl, rfl⟩
  · replace y0 : y < 1970 := by omega
    clear h V
    go_enter Tryz.func64, Tryz.ntmps64
    go_wp2_with fail
    go_ret2
    exact ⟨rfl, rfl⟩
set_option maxHeartbeats 2000000 in
theorem dayRef_no (y m d : Int) (h : ¬ Valid y m d) (w : World) :
    Calls Tryz.prog 71 #[.int .i64 y, .int .i64 m, .int .i64 d] w fun e w' => e = .returned (.tuple #[.int .i64 0, .int .i64 20]) ∧ Below w.heap.size w w' := by
  by_cases y0 : 1970 ≤ y
  · by_cases y1 : y ≤ 9999
    · by_cases m0 : 1 ≤ m
      · by_cases m1 : m ≤ 12
        · by_cases d0 : 1 ≤ d
          · have d1 : ¬ d ≤ mlen y m := fun d1 => h ⟨y0, y1, m0, m1, d0, d1⟩
            have c1 := lenRef y m (by omega) (by omega) m0 m1 w
            have bL := mlen_in y m0 m1
            generalize mlen y m = L at c1 bL d1
            replace d1 : L < d := by omega
            replace c1 := hide c1
            clear h
            go_enter Tryz.func71, Tryz.ntmps71
            go_wp2_with fail
            refine c1.out.mono ?_
            clear c1
            rintro e w1 ⟨rfl, b1⟩
            go_wp2_with fail
            go_ret2
            exact ⟨rfl, b1⟩
          · replace d0 : d < 1 := by omega
            clear h
            go_enter Tryz.func71, Tryz.ntmps71
            go_wp2_with fail
            go_ret2
            exact ⟨rfl, Below.refl _ _⟩
        · replace m1 : 12 < m := by omega
          clear h
          go_enter Tryz.func71, Tryz.ntmps71
          go_wp2_with fail
          go_ret2
          exact ⟨rfl, Below.refl _ _⟩
      · replace m0 : m < 1 := by omega
        clear h
        go_enter Tryz.func71, Tryz.ntmps71
        go_wp2_with fail
        go_ret2
        exact ⟨rfl, Below.refl _ _⟩
    · replace y1 : 9999 < y := by omega
      clear h
      go_enter Tryz.func71, Tryz.ntmps71
      go_wp2_with fail
      go_ret2
      exact ⟨rfl, Below.refl _ _⟩
  · replace y0 : y < 1970 := by omega
    clear h
    go_enter Tryz.func71, Tryz.ntmps71
    go_wp2_with fail
    go_ret2
    exact ⟨rfl, Below.refl _ _⟩
end Go.Proofs.YtipcmbonhkelbabGreatDoor
namespace Go.Proofs.YtipcmbonhkelbabGreatDoor
open Go.RowKit
theorem days10000 (w : World) :
    Calls Tryz.prog 85 #[.int .i64 10000] w fun e w' => e = .returned (.int .i64 2932897) ∧ w' = w := by
  have h := daysBefore 10000 (by omega) (by omega) w
  rwa [yb_10000] at h
theorem civ_first {y m d : Int} (h : Valid y m d) : 1970 ≤ 1970 + dayOf y m d / 366 ∧ 1970 + dayOf y m d / 366 ≤ y := by
  obtain ⟨h1, h2, h3, h4, h5, h6⟩ := dayOf_in h
  have a := dayOf_range h
  have b := yb_upper (a := 1970) (b := y + 1) (by have := h.y0; omega)
  rw [yb_1970] at b
  have := h.d1
  unfold dayOf at *
  omega
theorem civ_year {y m d : Int} (h : Valid y m d) : yb y ≤ dayOf y m d ∧ dayOf y m d < yb (y + 1) ∧ (∀ k, 1970 ≤ k → k < y → yb (k + 1) ≤ dayOf y m d) := by
  obtain ⟨h1, h2, h3, h4, h5, h6⟩ := dayOf_in h
  have := h.d0; have := h.d1
  refine ⟨by unfold dayOf; omega, by unfold dayOf; omega, fun k _ hk => ?_⟩
  have := yb_mono (a := k + 1) (b := y) (by omega)
  unfold dayOf; omega
theorem civ_month {y m d : Int} (h : Valid y m d) {k : Int} (k0 : 1 ≤ k) (k1 : k < m) : mlen y k ≤ dayOf y m d - yb y - mb y k := by
  have a := mb_succ y k0 (show k ≤ 12 by have := h.m1; omega)
  have b := mb_mono y (a := k + 1) (b := m) (by omega) (by omega) (by have := h.m1; omega)
  have := h.d0
  unfold dayOf; omega
theorem civ_year2 {y m d : Int} (h : Valid y m d) : (∀ k, 1970 ≤ k → k < y → yb (k + 1) ≤ dayOf y m d) ∧ dayOf y m d < yb (y + 1) := ⟨(civ_year h).2.2, (civ_year h).2.1⟩
set_option maxHeartbeats 2000000 in
theorem civilRef (y m d : Int) (h : Valid y m d) (w : World) :
    Calls Tryz.prog 91 #[.int .i64 (dayOf y m d)] w fun e w' => e = .returned (.tuple #[.int .i64 y, .int .i64 m, .int .i64 d, .int .i64 0]) ∧ Below w.heap.size w w' := by
  have cM := hide (fun k (k0 : 1 ≤ k) (k1 : k < m) => civ_month h k0 k1)
  have HE := hide (show dayOf y m d - yb y - mb y m + 1 = d by unfold dayOf; omega)
  have hlast := hide (show dayOf y m d - yb y - mb y m < mlen y m by have := h.d1; unfold dayOf; omega)
  obtain ⟨q1, q2, q3⟩ := civ_year h
  obtain ⟨r1, r2⟩ := dayOf_range h
  obtain ⟨y0, y1, m0, m1, d0, d1⟩ := h
  have cL := hide (fun y k (y0 : 1970 ≤ y) (y1 : y ≤ 9999) (k0 : 1 ≤ k) (k1 : k ≤ 12) => lenRef y k (by omega) (by omega) k0 k1)
  have cY := hide (fun k (k0 : 0 ≤ k) (k1 : k ≤ 100000) => leapRef k k0 k1)
  generalize dayOf y m d = n at *
  replace q1 := hide q1
  replace q2 := hide q2
  replace q3 := hide q3
  go_enter Tryz.func91, Tryz.ntmps91
  go_wp2_with fail
  go_loop [0, 6, 7] (fun dv yv _ => ∃ k r : Int, 1970 ≤ k ∧ k ≤ y ∧ yv = .int .i64 k ∧ dv = .int .i64 r ∧ Hid (r = n - yb k)) (fun _ yv _ => (y - intOf yv).toNat)
  case atStart => exact ⟨1970, n, by omega, y0, rfl, rfl, by unfold Hid; rw [yb_1970]; omega⟩
  case round =>
    obtain ⟨k, r, k0, k1, rfl, rfl, hr⟩ := hrel
    have cK := cY.out k (by omega) (by omega)
    have hs := yb_succ k
    have br : -2932897 ≤ r ∧ r ≤ 2932897 := by have := hr.out; have := yb_in k0 (show k ≤ 10000 by omega); omega
    by_cases hlt : k < y
    · have t1 : yb (k + 1) ≤ n := q3.out k k0 hlt
      cases hl : leapB k with
      | true =>
        rw [hl] at cK hs
        simp only [if_true] at hs
        have t2 : 366 ≤ r := by have := hr.out; omega
        have R : Hid (r - 366 = n - yb (k + 1)) := by have := hr.out; unfold Hid; omega
        replace cK := hide cK
        clear hl hs t1
        go_wp2_with fail
        refine (cK.out _).mono ?_
        rintro e w1 ⟨rfl, rfl⟩
        go_wp2_with fail
        go_round
        case rel => exact ⟨k + 1, r - 366, by omega, by omega, rfl, rfl, R⟩
        case measure => simp [intOf]; omega
      | false =>
        rw [hl] at cK hs
        simp only [Bool.false_eq_true, if_false] at hs
        have t2 : 365 ≤ r := by have := hr.out; omega
        have R : Hid (r - 365 = n - yb (k + 1)) := by have := hr.out; unfold Hid; omega
        replace cK := hide cK
        clear hl hs t1
        go_wp2_with fail
        refine (cK.out _).mono ?_
        rintro e w1 ⟨rfl, rfl⟩
        go_wp2_with fail
        go_round
        case rel => exact ⟨k + 1, r - 365, by omega, by omega, rfl, rfl, R⟩
        case measure => simp [intOf]; omega
    · obtain rfl : k = y := by omega
      have t1 : n < yb (k + 1) := q2.out
      have q1' := q1.out
      have HR := hide (show r = n - yb k from hr.out)
      have t0 : 0 ≤ r := by have := hr.out; omega
      cases hl : leapB k with
      | true =>
        rw [hl] at cK hs
        simp only [if_true] at hs
        have t2 : r < 366 := by have := hr.out; omega
        replace cK := hide cK
        clear hl hs t1 q1 q2 q3 q1' hr
        go_wp2_with fail
        refine (cK.out _).mono ?_
        rintro e w1 ⟨rfl, rfl⟩
        go_wp2_with fail
        go_loopw [0, 8] (fun rv mv wr => ∃ j u : Int, 1 ≤ j ∧ j ≤ m ∧ mv = .int .i64 j ∧ rv = .int .i64 u ∧ Hid (u = n - yb k - mb k j) ∧ Hid (Below w1.heap.size w1 wr)) (fun _ mv _ => (m - intOf mv).toNat)
        case atStart => exact ⟨1, r, by omega, m0, rfl, rfl, by unfold Hid; rw [mb_1, HR.out]; omega, Below.refl _ _⟩
        case round =>
          obtain ⟨j, u, j0, j1, rfl, rfl, hu, hw⟩ := hrel
          have cJ := cL.out k j y0 y1 j0 (by omega)
          have bJ := mlen_in k j0 (show j ≤ 12 by omega)
          have bu : -400 ≤ u ∧ u ≤ 2932897 := by have := hu.out; have := HR.out; have := mb_in k j0 (show j ≤ 12 by omega); omega
          by_cases hjl : j < m
          · have t3 : mlen k j ≤ u := by rw [hu.out]; exact cM.out j j0 hjl
            have R : Hid (u - mlen k j = n - yb k - mb k (j + 1)) := by unfold Hid; rw [mb_succ k j0 (by omega), hu.out]; omega
            generalize mlen k j = Lj at cJ bJ R t3
            replace cJ := hide cJ
            go_wp2_with fail
            refine (cJ.out _).mono ?_
            rintro e w2 ⟨rfl, b2⟩
            have B2 : Hid (Below w1.heap.size w1 w2) := hw.out.trans (b2.mono hw.out.size)
            clear b2 hw
            go_wp2_with fail
            refine (cJ.out _).mono ?_
            rintro e w3 ⟨rfl, b3⟩
            have B3 : Hid (Below w1.heap.size w1 w3) := B2.out.trans (b3.mono B2.out.size)
            clear b3 B2
            go_wp2_with fail
            go_roundw
            case rel => exact ⟨j + 1, u - Lj, by omega, by omega, rfl, rfl, R, B3⟩
            case measure => simp [intOf]; omega
          · obtain rfl : j = m := by omega
            have t3 : u < mlen k j := by rw [hu.out]; exact hlast.out
            have E : Hid (u + 1 = d) := by unfold Hid; rw [hu.out]; exact HE.out
            generalize mlen k j = Lj at cJ bJ t3
            replace cJ := hide cJ
            clear cM HE hlast
            go_wp2_with fail
            refine (cJ.out _).mono ?_
            rintro e w2 ⟨rfl, b2⟩
            have B2 : Hid (Below w1.heap.size w1 w2) := hw.out.trans (b2.mono hw.out.size)
            clear b2 hw
            go_wp2_with fail
            exact bodyPost_ret (v := .tuple #[.int .i64 k, .int .i64 j, .int .i64 (u + 1), .int .i64 0]) (by simp [results, Tryz.results91, go_sem]) rfl ⟨by rw [E.out], B2.out⟩
      | false =>
        rw [hl] at cK hs
        simp only [Bool.false_eq_true, if_false] at hs
        have t2 : r < 365 := by have := hr.out; omega
        replace cK := hide cK
        clear hl hs t1 q1 q2 q3 q1' hr
        go_wp2_with fail
        refine (cK.out _).mono ?_
        rintro e w1 ⟨rfl, rfl⟩
        go_wp2_with fail
        go_loopw [0, 8] (fun rv mv wr => ∃ j u : Int, 1 ≤ j ∧ j ≤ m ∧ mv = .int .i64 j ∧ rv = .int .i64 u ∧ Hid (u = n - yb k - mb k j) ∧ Hid (Below w1.heap.size w1 wr)) (fun _ mv _ => (m - intOf mv).toNat)
        case atStart => exact ⟨1, r, by omega, m0, rfl, rfl, by unfold Hid; rw [mb_1, HR.out]; omega, Below.refl _ _⟩
        case round =>
          obtain ⟨j, u, j0, j1, rfl, rfl, hu, hw⟩ := hrel
          have cJ := cL.out k j y0 y1 j0 (by omega)
          have bJ := mlen_in k j0 (show j ≤ 12 by omega)
          have bu : -400 ≤ u ∧ u ≤ 2932897 := by have := hu.out; have := HR.out; have := mb_in k j0 (show j ≤ 12 by omega); omega
          by_cases hjl : j < m
          · have t3 : mlen k j ≤ u := by rw [hu.out]; exact cM.out j j0 hjl
            have R : Hid (u - mlen k j = n - yb k - mb k (j + 1)) := by unfold Hid; rw [mb_succ k j0 (by omega), hu.out]; omega
            generalize mlen k j = Lj at cJ bJ R t3
            replace cJ := hide cJ
            go_wp2_with fail
            refine (cJ.out _).mono ?_
            rintro e w2 ⟨rfl, b2⟩
            have B2 : Hid (Below w1.heap.size w1 w2) := hw.out.trans (b2.mono hw.out.size)
            clear b2 hw
            go_wp2_with fail
            refine (cJ.out _).mono ?_
            rintro e w3 ⟨rfl, b3⟩
            have B3 : Hid (Below w1.heap.size w1 w3) := B2.out.trans (b3.mono B2.out.size)
            clear b3 B2
            go_wp2_with fail
            go_roundw
            case rel => exact ⟨j + 1, u - Lj, by omega, by omega, rfl, rfl, R, B3⟩
            case measure => simp [intOf]; omega
          · obtain rfl : j = m := by omega
            have t3 : u < mlen k j := by rw [hu.out]; exact hlast.out
            have E : Hid (u + 1 = d) := by unfold Hid; rw [hu.out]; exact HE.out
            generalize mlen k j = Lj at cJ bJ t3
            replace cJ := hide cJ
            clear cM HE hlast
            go_wp2_with fail
            refine (cJ.out _).mono ?_
            rintro e w2 ⟨rfl, b2⟩
            have B2 : Hid (Below w1.heap.size w1 w2) := hw.out.trans (b2.mono hw.out.size)
            clear b2 hw
            go_wp2_with fail
            exact bodyPost_ret (v := .tuple #[.int .i64 k, .int .i64 j, .int .i64 (u + 1), .int .i64 0]) (by simp [results, Tryz.results91, go_sem]) rfl ⟨by rw [E.out], B2.out⟩
set_option maxHeartbeats 1000000 in
theorem civilRef_no (n : Int) (h : n < 0 ∨ 2932896 < n) (w : World) :
    Calls Tryz.prog 91 #[.int .i64 n] w fun e w' => e = .returned (.tuple #[.int .i64 0, .int .i64 0, .int .i64 0, .int .i64 20]) ∧ w' = w := by
  rcases h with h | h
  · go_enter Tryz.func91, Tryz.ntmps91
    go_wp2_with fail
    exact bodyPost_ret (v := .tuple #[.int .i64 0, .int .i64 0, .int .i64 0, .int .i64 20]) (by simp [results, Tryz.results91, go_sem]) rfl ⟨rfl, rfl⟩
  · have h0 : 0 ≤ n := by omega
    go_enter Tryz.func91, Tryz.ntmps91
    go_wp2_with fail
    exact bodyPost_ret (v := .tuple #[.int .i64 0, .int .i64 0, .int .i64 0, .int .i64 20]) (by simp [results, Tryz.results91, go_sem]) rfl ⟨rfl, rfl⟩
end Go.Proofs.YtipcmbonhkelbabGreatDoor
namespace Go.Proofs.YtipcmbonhkelbabGreatDoor
open Go.RowKit
def wtab : List (List UInt8) := [[84, 104, 117, 114, 115, 100, 97, 121], [70, 114, 105, 100, 97, 121], [83, 97, 116, 117, 114, 100, 97, 121], [83, 117, 110, 100, 97, 121], [77, 111, 110, 100, 97, 121], [84, 117, 101, 115, 100, 97, 121], [87, 101, 100, 110, 101, 115, 100, 97, 121]]
def motab : List (List UInt8) := [[74, 97, 110], [70, 101, 98], [77, 97, 114], [65, 112, 114], [77, 97, 121], [74, 117, 110], [74, 117, 108], [65, 117, 103], [83, 101, 112], [79, 99, 116], [78, 111, 118], [68, 101, 99]]
structure Vars (w : World) : Prop where
  week : ∀ i : Nat, i < 7 → w.cell? ⟨0, i, none⟩ = some (.string ⟨(wtab.getD i []).toArray⟩)
  mon : ∀ i : Nat, i < 12 → w.cell? ⟨1, i, none⟩ = some (.string ⟨(motab.getD i []).toArray⟩)
  len : LenVar w
/-- .. and strconv's table of powers, which Show meets -/
structure VarsT (w : World) : Prop extends Vars w where
  tab : Lib.TabIs Tryz.prog w "internal/strconv.uint64pow10" .u64 Lib.pow10Tab
theorem Vars.below {w w' : World} (h : Vars w) (b : Below w.heap.size w w') : Vars w' where
  week := fun i hi => by have h1 := h.week i hi; rw [b.cell (p := ⟨0, i, none⟩) (World.block_lt_of_cell? _ _ h1)]; exact h1
  mon := fun i hi => by have h1 := h.mon i hi; rw [b.cell (p := ⟨1, i, none⟩) (World.block_lt_of_cell? _ _ h1)]; exact h1
  len := h.len.below b
theorem VarsT.below {w w' : World} (h : VarsT w) (b : Below w.heap.size w w') : VarsT w' := ⟨h.toVars.below b, Lib.tabBelow_of_tabIs h.tab w' b⟩
def strData {H : Type} (zs : List (List UInt8)) : DataW H := .agg (zs.map fun z => .lit (.string z))
theorem cells_of_strs {H : Type} {enc : TypeId × Value → H} {P : Program} {w : World} {base : Nat} {sp : Nat → Bool} {held : Bool} {fuel : Nat} {t e : TypeId} {n : Nat} {cs : List Value} {zs : List (List UInt8)} {p : List MemPlace}
    (ht : P.underlying t = some (.array n e)) (he : P.underlying e = some .string) (hce : P.cellsOf e = 1) (hct : P.cellsOf t = n)
    (h : DataW.trod enc P w base sp held fuel t cs = some (strData zs, p)) : cs = zs.map fun z => Value.string ⟨z.toArray⟩ := by
  cases fuel with
  | zero => simp [DataW.trod] at h
  | succ fuel =>
    simp only [DataW.trod, ht, hce, hct, Nat.mul_one] at h
    split at h
    · rename_i hl
      obtain ⟨xs, hm, hx⟩ := Option.map_eq_some_iff.1 h
      have hxs : xs.map (·.1) = zs.map fun z => (DataW.lit (.string z) : DataW H) := by
        have := congrArg Prod.fst hx
        simpa [strData] using this
      have hxl : xs.length = n := by simpa using Lib.mapM_length hm
      have hzl : zs.length = n := by
        have := congrArg List.length hxs
        simp at this
        omega
      apply List.ext_getElem?
      intro i
      by_cases hi : i < n
      · obtain ⟨b, hb, hf⟩ := Lib.mapM_at hm i i (by simp [hi])
        obtain ⟨z, hc, rfl, _⟩ := DataW.trod_string he hf
        have h1 : cs[i]? = some (.string z) := by
          have := congrArg (·[0]?) hc
          simpa [List.getElem?_take, List.getElem?_drop] using this
        have h2 : (xs.map (·.1))[i]? = some (DataW.lit (.string z.data.toList) : DataW H) := by simp [hb]
        rw [hxs] at h2
        simp only [List.getElem?_map, Option.map_eq_some_iff, DataW.lit.injEq, Lit.string.injEq] at h2
        obtain ⟨z', hz', rfl⟩ := h2
        simp [h1, hz']
      · rw [List.getElem?_eq_none (by omega), List.getElem?_eq_none (by simp; omega)]
    · cases h
theorem laid_mem {P : Program} {w : World} {n : String} {d : DataW Unit} : ∀ {l : List (String × DataW Unit)} {ps : List MemPlace}, DataW.LaidVars P w l ps → (n, d) ∈ l →
    ∃ (ps' : List MemPlace), DataW.LaidVars P w [(n, d)] ps' := by
  intro l
  induction l with
  | nil => intro ps _ hm; cases hm
  | cons x r ih =>
    intro ps h hm
    obtain ⟨n0, d0⟩ := x
    obtain ⟨g, t, cs, fuel, p, q, e1, e2, e3, e4, hr, rfl⟩ := h
    rcases List.mem_cons.1 hm with hm | hm
    · cases hm
      exact ⟨_, g, t, cs, fuel, p, [], e1, e2, e3, e4, rfl, rfl⟩
    · exact ih hr hm
theorem var_ints {W : World} {l : List (String × DataW Unit)} (h : laidMet Tryz.prog l W) {n : String} {zs : List Int} {k : IntKind} (hm : (n, Lib.tabData k zs) ∈ l) {g : Nat} {t e : TypeId} {c : Nat}
    (hg : Tryz.prog.globalNamed n = some g) (hty : (Tryz.prog.globals[g]?).map (·.type) = some t) (ht : Tryz.prog.underlying t = some (.array c e)) (he : Tryz.prog.underlying e = some (.int k)) (hce : Tryz.prog.cellsOf e = 1) (hct : Tryz.prog.cellsOf t = c) :
    Lib.TabIs Tryz.prog W n k zs := by
  obtain ⟨ps, hl, _⟩ := h
  obtain ⟨ps', g', t', cs, fuel, p, q, hg', ht', hvar, hd, _, _⟩ := laid_mem hl hm
  obtain rfl := Option.some.inj (hg.symm.trans hg')
  obtain rfl := Option.some.inj (hty.symm.trans ht')
  unfold Lib.TabIs
  rw [hvar, ← Lib.cells_of_tab ht he hce hct hd]
theorem var_strs {W : World} {l : List (String × DataW Unit)} (h : laidMet Tryz.prog l W) {n : String} {zs : List (List UInt8)} (hm : (n, strData zs) ∈ l) {g : Nat} {t e : TypeId} {c : Nat}
    (hg : Tryz.prog.globalNamed n = some g) (hty : (Tryz.prog.globals[g]?).map (·.type) = some t) (ht : Tryz.prog.underlying t = some (.array c e)) (he : Tryz.prog.underlying e = some .string) (hce : Tryz.prog.cellsOf e = 1) (hct : Tryz.prog.cellsOf t = c) :
    ∀ i, i < zs.length → W.cell? ⟨g, i, none⟩ = some (.string ⟨(zs.getD i []).toArray⟩) := by
  obtain ⟨ps, hl, _⟩ := h
  obtain ⟨ps', g', t', cs, fuel, p, q, hg', ht', hvar, hd, _, _⟩ := laid_mem hl hm
  obtain rfl := Option.some.inj (hg.symm.trans hg')
  obtain rfl := Option.some.inj (hty.symm.trans ht')
  intro i hi
  have := World.var?_cell hg hvar i
  rw [this]
  have e := cells_of_strs ht he hce hct hd
  have e2 : cs = (zs.map fun z => Value.string ⟨z.toArray⟩).toArray := by rw [← e]
  rw [e2]
  simp [List.getD, hi]
theorem lenVar_of {W : World} {l : List (String × DataW Unit)} (h : laidMet Tryz.prog l W) (hm : ("conduit/date.monthLengths", Lib.tabData .i64 mtab) ∈ l) : LenVar W := by
  have t := var_ints h hm (g := 2) (t := 121) (e := 3) (c := 12) (by kernel_rfl) (by kernel_rfl) Tryz.underlying121 Tryz.underlying3 (by kernel_rfl) (by kernel_rfl)
  exact fun i hi => t.cell (by kernel_rfl) i hi
theorem vars_of {W : World} {l : List (String × DataW Unit)} (h : laidMet Tryz.prog l W) (h1 : ("conduit/date.weekdays", strData wtab) ∈ l) (h2 : ("conduit/date.months", strData motab) ∈ l) (h3 : ("conduit/date.monthLengths", Lib.tabData .i64 mtab) ∈ l) : Vars W where
  week := var_strs h h1 (g := 0) (t := 95) (e := 9) (c := 7) (by kernel_rfl) (by kernel_rfl) Tryz.underlying95 Tryz.underlying9 (by kernel_rfl) (by kernel_rfl)
  mon := var_strs h h2 (g := 1) (t := 106) (e := 9) (c := 12) (by kernel_rfl) (by kernel_rfl) Tryz.underlying106 Tryz.underlying9 (by kernel_rfl) (by kernel_rfl)
  len := lenVar_of h h3
theorem varsT_of {W : World} {l : List (String × DataW Unit)} (h : laidMet Tryz.prog l W) (h1 : ("conduit/date.weekdays", strData wtab) ∈ l) (h2 : ("conduit/date.months", strData motab) ∈ l) (h3 : ("conduit/date.monthLengths", Lib.tabData .i64 mtab) ∈ l) (h4 : ("internal/strconv.uint64pow10", Lib.tabData .u64 Lib.pow10Tab) ∈ l) : VarsT W :=
  ⟨vars_of h h1 h2 h3, var_ints h h4 (g := 4) (t := 134) (e := 123) (c := 20) (by kernel_rfl) (by kernel_rfl) Tryz.underlying134 Tryz.underlying123 (by kernel_rfl) (by kernel_rfl)⟩
end Go.Proofs.YtipcmbonhkelbabGreatDoor
