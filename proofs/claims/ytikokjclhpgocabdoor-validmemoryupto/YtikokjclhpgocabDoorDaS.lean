/- The contract of Show. -/
import Derived.Test.YtikokjclhpgocabDoorDaU
import Derived.Deep.RegionHeld3
namespace Go.Proofs.YtikokjclhpgocabDoor
open Go.RowKit
theorem twoRefI (n : Int) (h0 : 0 ≤ n) (h1 : n < 100) (w : World) :
    Calls Tryd.prog 61 #[.int .i64 n, .int .i64 2] w fun e w' => e = .returned (.string ⟨(D2 n).toArray⟩) ∧ Below w.heap.size w w' := by
  have := twoRef n.toNat (by omega) w
  rwa [Int.toNat_of_nonneg h0] at this
theorem fourRefI (n : Int) (h0 : 1000 ≤ n) (h1 : n < 10000) (w : World) :
    Calls Tryd.prog 61 #[.int .i64 n, .int .i64 4] w fun e w' => e = .returned (.string ⟨(D4 n).toArray⟩) ∧ Below w.heap.size w w' := by
  have := fourRef n.toNat (by omega) (by omega) w
  rwa [Int.toNat_of_nonneg (by omega)] at this
def hmsL (r : Int) : List UInt8 := D2 (r / 3600) ++ [58] ++ D2 (r / 60 % 60) ++ [58] ++ D2 (r % 60)
def showL (n r y m d : Int) : List UInt8 := (wkL n).take 3 ++ [44, 32] ++ D2 d ++ [32] ++ moL m ++ [32] ++ D4 y ++ [32] ++ hmsL r ++ [32, 71, 77, 84]
theorem wkL_len (n : Int) : 6 ≤ (wkL n).length ∧ (wkL n).length ≤ 9 := by
  unfold wkL
  rcases seven n with h | h | h | h | h | h | h <;> rw [h] <;> decide
theorem moL_len {m : Int} (m0 : 1 ≤ m) (m1 : m ≤ 12) : (moL m).length = 3 := by
  rcases twelve m0 m1 with rfl | rfl | rfl | rfl | rfl | rfl | rfl | rfl | rfl | rfl | rfl | rfl <;> decide
theorem cutT (s : ByteArray) (t : Nat) (ht : t ≤ s.size) (w : World) :
    Sem.run Tryd.prog (Instr.slice 9 (.string s) none (some (.int .i64 t)) none) w = .ok (.string (s.extract 0 t)) w := by
  rw [run_slice_string_to_if w 9 s .i64 t Tryd.underlying9, if_pos ⟨by omega, by omega⟩]
  simp only [Int.toNat_natCast]
theorem valid1994 : Valid 1994 11 6 := ⟨by omega, by omega, by omega, by omega, by omega, by decide⟩
/-- the second's day has a name -/
theorem dateOf {t : Int} (t0 : 0 ≤ t) (t1 : t ≤ 253402300799) : ∃ y m d, Valid y m d ∧ dayOf y m d = t / 86400 := day_ex (by omega) (by omega)
end Go.Proofs.YtikokjclhpgocabDoor
