/- Plain definitions of what a token's bytes are; the contracts of tokenByte and of the document's Byte. -/
import Derived.Test.YtbbaajlabpjnlaaDoorPlain
import Derived.Test.YtbbaajlabpjnlaaDoorRows
import Derived.Test.YtbbaajlabpjnlaaDoorShelf
import Derived.Handy
namespace Go.Proofs.YtbbaajlabpjnlaaDoor
open Go.RowKit
def marks : List Int := [33, 35, 36, 37, 38, 39, 42, 43, 45, 46, 94, 95, 96, 124, 126]
def marks14 : List Int := [33, 35, 36, 37, 38, 39, 42, 43, 45, 46, 94, 95, 124, 126]
def alnum (c : Int) : Bool := decide ((48 ≤ c ∧ c ≤ 57) ∨ (65 ≤ c ∧ c ≤ 90) ∨ (97 ≤ c ∧ c ≤ 122))
def tokI (c : Int) : Bool := alnum c || marks.contains c
theorem idx_marks : ∀ n : Nat, n < 256 → decide (0 ≤ Lib.indexByte [33, 35, 36, 37, 38, 39, 42, 43, 45, 46, 94, 95, 96, 124, 126] n.toUInt8) = marks.contains (n : Int) := by decide +kernel
theorem idx_marksI (c : Int) (h0 : 0 ≤ c) (h1 : c ≤ 255) : decide (0 ≤ Lib.indexByte [33, 35, 36, 37, 38, 39, 42, 43, 45, 46, 94, 95, 96, 124, 126] c.toNat.toUInt8) = marks.contains c := by
  obtain ⟨n, rfl⟩ := Int.eq_ofNat_of_zero_le h0
  exact idx_marks n (by omega)
theorem indexByteC (s : ByteArray) (c : Int) (w : World) :
    Calls Tryd.prog 62 #[.string s, .int .u8 c] w fun e w' => e = .returned (.int .i64 (Lib.indexByte s.data.toList c.toNat.toUInt8)) ∧ w' = w :=
  Any.strings_IndexByte Tryd.lays137 s c w
set_option maxHeartbeats 400000 in
theorem tokByteTok (c : Int) (h0 : 0 ≤ c) (h1 : c ≤ 255) (w : World) :
    Calls Tryd.prog 48 #[.int .u8 c] w fun e w' => e = .returned (.bool (tokI c)) ∧ w' = w := by
  by_cases ha : (48 ≤ c ∧ c ≤ 57) ∨ (65 ≤ c ∧ c ≤ 90) ∨ (97 ≤ c ∧ c ≤ 122)
  · have H : Hid (tokI c = true) := by unfold Hid tokI alnum; simp [ha]
    rcases ha with ⟨ha, hb⟩ | ⟨ha, hb⟩ | ⟨ha, hb⟩
    all_goals
      go_enter Tryd.func48, Tryd.ntmps48
      go_wp2
      go_ret
      rw [H.out]
      exact ⟨rfl, rfl⟩
  · have H : Hid (decide (0 ≤ Lib.indexByte [33, 35, 36, 37, 38, 39, 42, 43, 45, 46, 94, 95, 96, 124, 126] c.toNat.toUInt8) = tokI c) := by
      unfold Hid tokI alnum; rw [idx_marksI c h0 h1]; simp [ha]
    have hc := indexByteC ⟨#[33, 35, 36, 37, 38, 39, 42, 43, 45, 46, 94, 95, 96, 124, 126]⟩ c w
    change Calls Tryd.prog 62 _ w (fun e w' => e = .returned (.int .i64 (Lib.indexByte [33, 35, 36, 37, 38, 39, 42, 43, 45, 46, 94, 95, 96, 124, 126] c.toNat.toUInt8)) ∧ w' = w) at hc
    generalize Lib.indexByte [33, 35, 36, 37, 38, 39, 42, 43, 45, 46, 94, 95, 96, 124, 126] c.toNat.toUInt8 = r at H hc
    have HC := hc
    clear hc
    rcases (by omega : c < 48 ∨ (57 < c ∧ c < 65) ∨ (90 < c ∧ c < 97) ∨ 122 < c) with h | h | h | h
    all_goals
      clear ha
      go_enter Tryd.func48, Tryd.ntmps48
      go_wp2_with (go_at_call 62; refine HC.mono ?_; rintro e w' ⟨rfl, rfl⟩)
      go_ret
      rw [← H.out]
      exact ⟨rfl, rfl⟩
end Go.Proofs.YtbbaajlabpjnlaaDoor
