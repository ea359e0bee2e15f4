/- The contract of the document's Byte, and those of Token and of the document's Token. -/
import Derived.Test.YtbbaajlabpjnlaaDoorTk
namespace Go.Proofs.YtbbaajlabpjnlaaDoor
open Go.RowKit
/-- the marks' string, without the back quote -/
def mB (k : Nat) : Int := marks14.getD k 0
theorem mB_get (k : Nat) (h : k < (⟨#[33, 35, 36, 37, 38, 39, 42, 43, 45, 46, 94, 95, 124, 126]⟩ : ByteArray).size) : (((⟨#[33, 35, 36, 37, 38, 39, 42, 43, 45, 46, 94, 95, 124, 126]⟩ : ByteArray)[k]'h).toNat : Int) = mB k := by
  have : ∀ k : Fin 14, (((⟨#[33, 35, 36, 37, 38, 39, 42, 43, 45, 46, 94, 95, 124, 126]⟩ : ByteArray)[k.val]'(k.isLt)).toNat : Int) = mB k.val := by decide +kernel
  exact this ⟨k, h⟩
theorem marks_cases (c : Int) : marks.contains c = true ↔ (∃ k, k < 14 ∧ mB k = c) ∨ c = 96 := by
  constructor
  · intro h
    simp [marks] at h
    rcases h with h | h | h | h | h | h | h | h | h | h | h | h | h | h | h
    · exact .inl ⟨0, by omega, h.symm⟩
    · exact .inl ⟨1, by omega, h.symm⟩
    · exact .inl ⟨2, by omega, h.symm⟩
    · exact .inl ⟨3, by omega, h.symm⟩
    · exact .inl ⟨4, by omega, h.symm⟩
    · exact .inl ⟨5, by omega, h.symm⟩
    · exact .inl ⟨6, by omega, h.symm⟩
    · exact .inl ⟨7, by omega, h.symm⟩
    · exact .inl ⟨8, by omega, h.symm⟩
    · exact .inl ⟨9, by omega, h.symm⟩
    · exact .inl ⟨10, by omega, h.symm⟩
    · exact .inl ⟨11, by omega, h.symm⟩
    · exact .inr h
    · exact .inl ⟨12, by omega, h.symm⟩
    · exact .inl ⟨13, by omega, h.symm⟩
  · rintro (⟨k, hk, rfl⟩ | rfl)
    · have : ∀ k : Fin 14, marks.contains (mB k.val) = true := by decide +kernel
      exact this ⟨k, hk⟩
    · rfl
theorem tokI_hit (c : Int) (k : Nat) (hk : k < 14) (h : mB k = c) : tokI c = true := by
  unfold tokI; rw [(marks_cases c).2 (.inl ⟨k, hk, h⟩)]; simp
theorem tokI_end (c : Int) (ha : alnum c = false) (h : ∀ j, j < 14 → ¬ mB j = c) : tokI c = (c == 96) := by
  unfold tokI; rw [ha, Bool.false_or, Bool.eq_iff_iff, marks_cases]
  constructor
  · rintro (⟨k, hk, e⟩ | e)
    · exact absurd e (h k hk)
    · simp [e]
  · intro e; exact .inr (by simpa using e)
set_option maxHeartbeats 1000000 in
theorem tokByteRef (c : Int) (h0 : 0 ≤ c) (h1 : c ≤ 255) (w : World) :
    Calls Tryd.prog 38 #[.int .u8 c] w fun e w' => e = .returned (.bool (tokI c)) ∧ w' = w := by
  by_cases ha : (48 ≤ c ∧ c ≤ 57) ∨ (65 ≤ c ∧ c ≤ 90) ∨ (97 ≤ c ∧ c ≤ 122)
  · have H : Hid (tokI c = true) := by unfold Hid tokI alnum; simp [ha]
    rcases ha with ⟨ha, hb⟩ | ⟨ha, hb⟩ | ⟨ha, hb⟩
    all_goals
      go_enter Tryd.func38, Tryd.ntmps38
      go_wp2
      go_ret
      rw [H.out]
      exact ⟨rfl, rfl⟩
  · have HA : Hid (alnum c = false) := by unfold Hid alnum; simpa using ha
    have hg := mB_get
    rcases (by omega : c < 48 ∨ (57 < c ∧ c < 65) ∨ (90 < c ∧ c < 97) ∨ 122 < c) with h | h | h | h
    all_goals
      clear ha
      go_enter Tryd.func38, Tryd.ntmps38
      go_wp2
      go_loop [4] (fun i => ∃ k : Nat, k ≤ 14 ∧ i = .int .i64 k ∧ Hid (∀ j, j < k → ¬ mB j = c)) (fun i => 14 - (intOf i).toNat)
      case atStart => exact ⟨0, by omega, rfl, fun j hj => by omega⟩
      case round =>
        obtain ⟨k, hk, rfl, hn⟩ := hrel
        by_cases hlt : k < 14
        · by_cases he : mB k = c
          · have H : Hid (tokI c = true) := tokI_hit c k hlt he
            have b : (mB k == c) = true := by simp [he]
            clear he
            go_wp2
            go_ret
            rw [H.out]
            exact ⟨rfl, rfl⟩
          · have N : Hid (∀ j, j < k + 1 → ¬ mB j = c) := fun j hj => by
              by_cases e : j = k
              · rw [e]; exact he
              · exact hn.out j (by omega)
            have b : (mB k == c) = false := by simp [he]
            clear he
            go_wp2
            go_round
            case rel => exact ⟨k + 1, by omega, by go_num, N⟩
            case measure => simp [intOf]; omega
        · have H : Hid (tokI c = (c == 96)) := tokI_end c HA.out (fun j hj => hn.out j (by omega))
          go_wp2
          go_ret
          rw [H.out]
          exact ⟨rfl, rfl⟩
end Go.Proofs.YtbbaajlabpjnlaaDoor
