/- Plain lemmas on the Gregorian calendar: days of years and months, and that a day has one name; nothing of the program is named here. -/
import Derived.WalkKit
import Derived.ProofKit
namespace Go.Proofs.YtlhhcpbfjjhbfabDoor
open Go.RowKit

theorem hide {p : Prop} (h : p) : Hid p := h
def leapB (y : Int) : Bool := (y % 4 == 0) && ((y % 100 != 0) || (y % 400 == 0))
theorem leapB_iff (y : Int) : leapB y = true ↔ (y % 4 = 0 ∧ (y % 100 ≠ 0 ∨ y % 400 = 0)) := by simp [leapB]
/-- leap years up to a year -/
def lb (y : Int) : Int := (y - 1) / 4 - (y - 1) / 100 + (y - 1) / 400
/-- days ahead of a year -/
def yb (y : Int) : Int := 365 * (y - 1970) + lb y - 477
theorem yb_succ (y : Int) : yb (y + 1) = yb y + (if leapB y then 366 else 365) := by
  unfold yb lb
  cases h : leapB y with
  | true => have := (leapB_iff y).1 h; simp only [if_true]; omega
  | false =>
    have : ¬ (y % 4 = 0 ∧ (y % 100 ≠ 0 ∨ y % 400 = 0)) := fun h' => by rw [(leapB_iff y).2 h'] at h; cases h
    simp only [Bool.false_eq_true, if_false]; omega
theorem yb_lo (y : Int) : yb y + 365 ≤ yb (y + 1) := by rw [yb_succ]; split <;> omega
theorem yb_hi (y : Int) : yb (y + 1) ≤ yb y + 366 := by rw [yb_succ]; split <;> omega
theorem yb_mono {a b : Int} (h : a ≤ b) : yb a + 365 * (b - a) ≤ yb b := by
  obtain ⟨n, rfl⟩ : ∃ n : Nat, b = a + n := ⟨(b - a).toNat, by omega⟩
  clear h
  induction n with
  | zero => simp
  | succ n ih =>
    have e : a + ((n + 1 : Nat) : Int) = (a + n) + 1 := by omega
    have := yb_lo (a + n)
    rw [e]; omega
theorem yb_upper {a b : Int} (h : a ≤ b) : yb b ≤ yb a + 366 * (b - a) := by
  obtain ⟨n, rfl⟩ : ∃ n : Nat, b = a + n := ⟨(b - a).toNat, by omega⟩
  clear h
  induction n with
  | zero => simp
  | succ n ih =>
    have e : a + ((n + 1 : Nat) : Int) = (a + n) + 1 := by omega
    have := yb_hi (a + n)
    rw [e]; omega
theorem yb_1970 : yb 1970 = 0 := by decide
theorem yb_10000 : yb 10000 = 2932897 := by decide

/-- the months' lengths of a common year -/
def mtab : List Int := [31, 28, 31, 30, 31, 30, 31, 31, 30, 31, 30, 31]
def mlen (y m : Int) : Int := if m = 2 ∧ leapB y = true then 29 else mtab.getD (m - 1).toNat 0
theorem twelve {m : Int} (h0 : 1 ≤ m) (h1 : m ≤ 12) : m = 1 ∨ m = 2 ∨ m = 3 ∨ m = 4 ∨ m = 5 ∨ m = 6 ∨ m = 7 ∨ m = 8 ∨ m = 9 ∨ m = 10 ∨ m = 11 ∨ m = 12 := by omega
/-- days of a year ahead of a month -/
def mb (y m : Int) : Int := [0, 31, 59, 90, 120, 151, 181, 212, 243, 273, 304, 334, 365].getD (m - 1).toNat 0 + (if 3 ≤ m ∧ leapB y = true then 1 else 0)
theorem mb_1 (y : Int) : mb y 1 = 0 := by unfold mb; rw [if_neg (by omega)]; rfl
theorem mb_succ (y : Int) {m : Int} (h0 : 1 ≤ m) (h1 : m ≤ 12) : mb y (m + 1) = mb y m + mlen y m := by
  cases h : leapB y <;> rcases twelve h0 h1 with rfl | rfl | rfl | rfl | rfl | rfl | rfl | rfl | rfl | rfl | rfl | rfl <;> simp [mb, mlen, h, mtab]
theorem mb_13 (y : Int) : mb y 13 = (if leapB y then 366 else 365) := by cases h : leapB y <;> simp [mb, h]
theorem mlen_in (y : Int) {m : Int} (h0 : 1 ≤ m) (h1 : m ≤ 12) : 28 ≤ mlen y m ∧ mlen y m ≤ 31 := by
  unfold mlen
  split
  · omega
  · rcases twelve h0 h1 with rfl | rfl | rfl | rfl | rfl | rfl | rfl | rfl | rfl | rfl | rfl | rfl <;> simp [mtab]
theorem mb_mono (y : Int) {a b : Int} (ha : 1 ≤ a) (h : a ≤ b) (hb : b ≤ 13) : mb y a ≤ mb y b := by
  obtain ⟨n, rfl⟩ : ∃ n : Nat, b = a + n := ⟨(b - a).toNat, by omega⟩
  induction n with
  | zero => simp
  | succ n ih =>
    have e : a + ((n + 1 : Nat) : Int) = (a + n) + 1 := by omega
    have h1 := mb_succ y (m := a + n) (by omega) (by omega)
    have h2 := mlen_in y (m := a + n) (by omega) (by omega)
    have h3 := ih (by omega) (by omega)
    rw [e, h1]; omega
/-- there is such a day -/
structure Valid (y m d : Int) : Prop where
  y0 : 1970 ≤ y
  y1 : y ≤ 9999
  m0 : 1 ≤ m
  m1 : m ≤ 12
  d0 : 1 ≤ d
  d1 : d ≤ mlen y m
def dayOf (y m d : Int) : Int := yb y + mb y m + d - 1
theorem dayOf_in {y m d : Int} (h : Valid y m d) : 0 ≤ mb y m ∧ mb y (m + 1) = mb y m + mlen y m ∧ mb y (m + 1) ≤ mb y 13 ∧ yb (y + 1) = yb y + mb y 13 ∧ 0 ≤ yb y ∧ yb (y + 1) ≤ 2932897 := by
  obtain ⟨a, b, c, d0, e, f⟩ := h
  have h1 := mb_mono y (a := 1) (b := m) (by omega) c (by omega)
  have h2 := mb_succ y c d0
  have h3 := mb_mono y (a := m + 1) (b := 13) (by omega) (by omega) (by omega)
  have h4 := yb_mono a
  have h5 := yb_mono (a := y + 1) (b := 10000) (by omega)
  rw [mb_1] at h1
  rw [yb_1970] at h4
  rw [yb_10000] at h5
  refine ⟨h1, h2, h3, ?_, by omega, by omega⟩
  rw [yb_succ, mb_13]
theorem dayOf_range {y m d : Int} (h : Valid y m d) : 0 ≤ dayOf y m d ∧ dayOf y m d ≤ 2932896 := by
  obtain ⟨h1, h2, h3, h4, h5, h6⟩ := dayOf_in h
  have := h.d0; have := h.d1
  unfold dayOf; omega
theorem day_one {y m d y' m' d' : Int} (h : Valid y m d) (h' : Valid y' m' d') (e : dayOf y m d = dayOf y' m' d') : y = y' ∧ m = m' ∧ d = d' := by
  obtain ⟨h1, h2, h3, h4, h5, h6⟩ := dayOf_in h
  obtain ⟨g1, g2, g3, g4, g5, g6⟩ := dayOf_in h'
  have a1 := h.d0; have a2 := h.d1; have b1 := h'.d0; have b2 := h'.d1
  unfold dayOf at e
  have ey : y = y' := by
    rcases Int.lt_trichotomy y y' with q | q | q
    · have := yb_mono (a := y + 1) (b := y') (by omega); omega
    · exact q
    · have := yb_mono (a := y' + 1) (b := y) (by omega); omega
  subst ey
  have em : m = m' := by
    rcases Int.lt_trichotomy m m' with q | q | q
    · have := mb_mono y (a := m + 1) (b := m') (by have := h.m0; omega) (by omega) (by have := h'.m1; omega); omega
    · exact q
    · have := mb_mono y (a := m' + 1) (b := m) (by have := h'.m0; omega) (by omega) (by have := h.m1; omega); omega
  subst em
  exact ⟨rfl, rfl, by omega⟩
theorem day_all (n : Nat) (hn : n ≤ 2932896) : ∃ y m d, Valid y m d ∧ dayOf y m d = n := by
  induction n with
  | zero => exact ⟨1970, 1, 1, ⟨by omega, by omega, by omega, by omega, by omega, by decide⟩, by decide⟩
  | succ n ih =>
    obtain ⟨y, m, d, h, e⟩ := ih (by omega)
    obtain ⟨h1, h2, h3, h4, h5, h6⟩ := dayOf_in h
    obtain ⟨q1, q2, q3, q4, q5, q6⟩ := h
    unfold dayOf at e
    by_cases hd : d < mlen y m
    · exact ⟨y, m, d + 1, ⟨q1, q2, q3, q4, by omega, by omega⟩, by unfold dayOf; omega⟩
    · by_cases hm : m < 12
      · have := mlen_in y (m := m + 1) (by omega) (by omega)
        exact ⟨y, m + 1, 1, ⟨q1, q2, by omega, by omega, by omega, by omega⟩, by unfold dayOf; omega⟩
      · have em : m = 12 := by omega
        subst em
        have e13 : (12 : Int) + 1 = 13 := rfl
        rw [e13] at h2 h3
        have hy : y < 9999 := by
          by_cases hy : y < 9999
          · exact hy
          · have ey : y = 9999 := by omega
            subst ey
            have : yb (9999 + 1) = 2932897 := yb_10000
            omega
        have := mlen_in (y + 1) (m := 1) (by omega) (by omega)
        refine ⟨y + 1, 1, 1, ⟨by omega, by omega, by omega, by omega, by omega, by omega⟩, ?_⟩
        unfold dayOf
        have := mb_1 (y + 1)
        omega
theorem day_ex {n : Int} (h0 : 0 ≤ n) (h1 : n ≤ 2932896) : ∃ y m d, Valid y m d ∧ dayOf y m d = n := by
  obtain ⟨y, m, d, h, e⟩ := day_all n.toNat (by omega)
  exact ⟨y, m, d, h, by rw [e]; omega⟩
end Go.Proofs.YtlhhcpbfjjhbfabDoor
