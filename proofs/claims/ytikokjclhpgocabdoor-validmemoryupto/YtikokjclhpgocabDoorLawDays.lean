/- The walk of the law DateDays. -/
import Derived.Test.YtikokjclhpgocabDoorBn
namespace Go.Proofs.YtikokjclhpgocabDoor
open Go.RowKit
/-- what Day answers -/
def DayV (y m d : Int) (v e : Int) : Prop := (Valid y m d ∧ v = dayOf y m d ∧ e = 0) ∨ (¬ Valid y m d ∧ v = 0 ∧ e = 20)
theorem dayV_one (y m d : Int) : ∃ v e, DayV y m d v e ∧ -1 ≤ v ∧ v ≤ 2932896 := by
  by_cases h : Valid y m d
  · have := dayOf_range h
    exact ⟨_, _, .inl ⟨h, rfl, rfl⟩, by omega, by omega⟩
  · exact ⟨_, _, .inr ⟨h, rfl, rfl⟩, by omega, by omega⟩
theorem dayCodeV {y m d v e : Int} (h : DayV y m d v e) (w : World) (V : LenVar w) :
    Calls Tryd.prog 33 #[.int .i64 y, .int .i64 m, .int .i64 d] w fun x w' => x = .returned (.tuple #[.int .i64 v, .int .i64 e]) ∧ w' = w := by
  rcases h with ⟨h, rfl, rfl⟩ | ⟨h, rfl, rfl⟩
  · exact dayCode y m d h w V
  · exact dayCode_no y m d h w V
theorem dayRefV {y m d v e : Int} (h : DayV y m d v e) (w : World) :
    Calls Tryd.prog 50 #[.int .i64 y, .int .i64 m, .int .i64 d] w fun x w' => x = .returned (.tuple #[.int .i64 v, .int .i64 e]) ∧ Below w.heap.size w w' := by
  rcases h with ⟨h, rfl, rfl⟩ | ⟨h, rfl, rfl⟩
  · exact dayRef y m d h w
  · exact dayRef_no y m d h w
/-- what Civil answers -/
def CivV (n a b c e : Int) : Prop := (Valid a b c ∧ dayOf a b c = n ∧ e = 0) ∨ ((n < 0 ∨ 2932896 < n) ∧ a = 0 ∧ b = 0 ∧ c = 0 ∧ e = 20)
theorem civV_one (n : Int) : ∃ a b c e, CivV n a b c e := by
  by_cases h : n < 0 ∨ 2932896 < n
  · exact ⟨0, 0, 0, 20, .inr ⟨h, rfl, rfl, rfl, rfl⟩⟩
  · obtain ⟨y, m, d, hv, e⟩ := day_ex (n := n) (by omega) (by omega)
    exact ⟨y, m, d, 0, .inl ⟨hv, e, rfl⟩⟩
theorem civilRefV {n a b c e : Int} (h : CivV n a b c e) (w : World) :
    Calls Tryd.prog 60 #[.int .i64 n] w fun x w' => x = .returned (.tuple #[.int .i64 a, .int .i64 b, .int .i64 c, .int .i64 e]) ∧ Below w.heap.size w w' := by
  rcases h with ⟨h, rfl, rfl⟩ | ⟨h, rfl, rfl, rfl, rfl⟩
  · exact civilRef a b c h w
  · refine (civilRef_no n h w).mono ?_
    rintro x w' ⟨rfl, rfl⟩
    exact ⟨rfl, Below.refl _ _⟩
theorem valid2000 : Valid 2000 2 29 := ⟨by omega, by omega, by omega, by omega, by omega, by decide⟩
theorem day2000 (w : World) (V : LenVar w) :
    Calls Tryd.prog 33 #[.int .i64 2000, .int .i64 2, .int .i64 29] w fun x w' => x = .returned (.tuple #[.int .i64 11016, .int .i64 0]) ∧ w' = w := by
  have h := dayCode 2000 2 29 valid2000 w V
  have e : dayOf 2000 2 29 = 11016 := by decide
  rwa [e] at h
end Go.Proofs.YtikokjclhpgocabDoor
namespace Go.Proofs.YtikokjclhpgocabDoor.dateDays
open Go.RowKit
end Go.Proofs.YtikokjclhpgocabDoor.dateDays
