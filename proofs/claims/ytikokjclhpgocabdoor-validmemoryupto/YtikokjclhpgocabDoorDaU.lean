/- The contracts of twoDigits and Itoa, and of the document's two, week and month. -/
import Derived.Test.YtikokjclhpgocabDoorDaT
namespace Go.Proofs.YtikokjclhpgocabDoor
open Go.RowKit
def lenV : Value → Nat
  | .string s => s.size
  | _ => 0
set_option maxHeartbeats 1000000 in
theorem twoRef (n : Nat) (h : n < 100) (w : World) :
    Calls Tryd.prog 61 #[.int .i64 n, .int .i64 2] w fun e w' => e = .returned (.string ⟨(D2 n).toArray⟩) ∧ Below w.heap.size w w' := by
  have c := showNum n (by omega)
  by_cases h1 : n < 10
  · rw [dec_small1 h1] at c
    have H : Hid ((⟨#[48]⟩ : ByteArray) ++ ⟨[dg n].toArray⟩ = ⟨(D2 n).toArray⟩) := by unfold Hid; rw [dg_zero h1]; rfl
    have z : (⟨[dg n].toArray⟩ : ByteArray).size = 1 := rfl
    have z2 : ((⟨#[48]⟩ : ByteArray) ++ ⟨[dg n].toArray⟩).size = 2 := by rw [H.out]; rfl
    generalize (⟨[dg n].toArray⟩ : ByteArray) = x at c H z z2
    replace c := hide c
    go_enter Tryd.func61, Tryd.ntmps61
    go_wp2_with fail
    refine (c.out _).mono ?_
    rintro e w1 ⟨rfl, b1⟩
    replace b1 := hide b1
    go_wp2_with fail
    go_loop [5] (fun sv => sv = .string x ∨ sv = .string (⟨#[48]⟩ ++ x)) (fun sv => 2 - lenV sv)
    case atStart => exact .inl rfl
    case round =>
      rcases hrel with rfl | rfl
      · go_wp2_with fail
        go_round
        case rel => exact .inr rfl
        case measure => simp [lenV, z, z2]
      · clear z
        generalize (⟨#[48]⟩ : ByteArray) ++ x = y at z2 H
        go_wp2_with fail
        go_ret
        rw [H.out]
        exact ⟨rfl, b1.out⟩
  · rw [dec_twoD (by omega) h] at c
    have z : (⟨(D2 n).toArray⟩ : ByteArray).size = 2 := rfl
    generalize (⟨(D2 n).toArray⟩ : ByteArray) = x at c z ⊢
    replace c := hide c
    clear h1
    go_enter Tryd.func61, Tryd.ntmps61
    go_wp2_with fail
    refine (c.out _).mono ?_
    rintro e w1 ⟨rfl, b1⟩
    replace b1 := hide b1
    go_wp2_with fail
    go_loop [5] (fun sv => sv = .string x) (fun _ => 0)
    case atStart => exact rfl
    case round =>
      obtain rfl := hrel
      go_wp2_with fail
      go_ret
      exact ⟨rfl, b1.out⟩
set_option maxHeartbeats 1000000 in
theorem fourRef (n : Nat) (h0 : 1000 ≤ n) (h : n < 10000) (w : World) :
    Calls Tryd.prog 61 #[.int .i64 n, .int .i64 4] w fun e w' => e = .returned (.string ⟨(D4 n).toArray⟩) ∧ Below w.heap.size w w' := by
  have c := showNum n (by omega)
  rw [dec_four h0 h] at c
  have z : (⟨(D4 n).toArray⟩ : ByteArray).size = 4 := rfl
  generalize (⟨(D4 n).toArray⟩ : ByteArray) = x at c z ⊢
  replace c := hide c
  go_enter Tryd.func61, Tryd.ntmps61
  go_wp2_with fail
  refine (c.out _).mono ?_
  rintro e w1 ⟨rfl, b1⟩
  replace b1 := hide b1
  go_wp2_with fail
  go_loop [5] (fun sv => sv = .string x) (fun _ => 0)
  case atStart => exact rfl
  case round =>
    obtain rfl := hrel
    go_wp2_with fail
    go_ret
    exact ⟨rfl, b1.out⟩
/-- the weekday of a day's number, and a month's name -/
def wkL (n : Int) : List UInt8 := wtab.getD (n % 7).toNat []
def moL (m : Int) : List UInt8 := motab.getD (m - 1).toNat []
theorem seven (n : Int) : n % 7 = 0 ∨ n % 7 = 1 ∨ n % 7 = 2 ∨ n % 7 = 3 ∨ n % 7 = 4 ∨ n % 7 = 5 ∨ n % 7 = 6 := by omega
set_option maxHeartbeats 1000000 in
theorem monthRef (m : Int) (m0 : 1 ≤ m) (m1 : m ≤ 12) (w : World) :
    Calls Tryd.prog 49 #[.int .i64 m] w fun e w' => e = .returned (.string ⟨(moL m).toArray⟩) ∧ w' = w := by
  rcases twelve m0 m1 with rfl | rfl | rfl | rfl | rfl | rfl | rfl | rfl | rfl | rfl | rfl | rfl
  all_goals
    clear m0 m1
    go_enter Tryd.func49, Tryd.ntmps49
    go_wp2_with fail
    go_ret
    exact ⟨rfl, rfl⟩
set_option maxHeartbeats 1000000 in
theorem weekRef (n : Int) (n0 : 0 ≤ n) (n1 : n ≤ 2932896) (w : World) :
    Calls Tryd.prog 62 #[.int .i64 n] w fun e w' => e = .returned (.string ⟨(wkL n).toArray⟩) ∧ Below w.heap.size w w' := by
  have H := hide (show wkL n = wtab.getD (n % 7).toNat [] from rfl)
  generalize wkL n = L at H ⊢
  rcases seven n with h | h | h | h | h | h | h
  all_goals
    rw [h] at H
    go_enter Tryd.func62, Tryd.ntmps62
    go_wp2_with fail
    go_ret
    rw [H.out]
    exact ⟨rfl, (Below.refl _ _).alloc (Nat.le_refl _) _⟩
end Go.Proofs.YtikokjclhpgocabDoor
