/- Plain lemmas for the walks of layer 3. -/
import Derived.Test.YtddbemleialpbaaDoorUrQ
namespace Go.Proofs.YtddbemleialpbaaDoor
open Go.RowKit
theorem hide {p : Prop} (h : p) : Hid p := h
theorem all_take (p : UInt8 → Bool) (s : ByteArray) (k : Nat) (h : k < s.size) (ha : (s.data.toList.take k).all p = true) (hc : p s[k] = true) : (s.data.toList.take (k + 1)).all p = true := by
  rw [take_snoc s k h, List.all_append, ha]; simp [hc]
theorem all_bad (p : UInt8 → Bool) (s : ByteArray) (k : Nat) (h : k < s.size) (hc : p s[k] = false) : s.data.toList.all p = false := by
  rw [List.all_eq_false]
  exact ⟨s.data.toList[k]'(by simpa using h), List.getElem_mem _, by rw [show s.data.toList[k]'(by simpa using h) = s[k] from rfl, hc]; simp⟩
theorem all_end (p : UInt8 → Bool) (s : ByteArray) (k : Nat) (h : s.size ≤ k) (ha : (s.data.toList.take k).all p = true) : s.data.toList.all p = true := by
  rwa [take_all s k h] at ha
theorem len_list (s : ByteArray) : s.data.toList.length = s.size := by simp
theorem host_bad (l : List UInt8) (h : l.all hostB = false) : isHost l = false := by unfold isHost; rw [h]; rfl
theorem host_yes (s : ByteArray) (h : s.data.toList.all hostB = true) (h1 : 1 ≤ s.size) (h2 : s.size ≤ 255) : isHost s.data.toList = true := by
  unfold isHost; rw [h, len_list, decide_eq_true h1, decide_eq_true h2]; rfl
theorem host_no (s : ByteArray) (h : s.size < 1 ∨ 255 < s.size) : isHost s.data.toList = false := by
  unfold isHost; rw [len_list]
  rcases h with h | h
  · rw [decide_eq_false (by omega : ¬ 1 ≤ s.size)]; simp
  · rw [decide_eq_false (by omega : ¬ s.size ≤ 255)]; simp
theorem host_cases (c : Int) : (hostI c = true ∧ (alnumI c = true ∨ (alnumI c = false ∧ c = 45) ∨ (alnumI c = false ∧ c ≠ 45 ∧ c = 46))) ∨ (hostI c = false ∧ alnumI c = false ∧ c ≠ 45 ∧ c ≠ 46) := by
  unfold hostI
  cases h : alnumI c
  · by_cases h1 : c = 45
    · left; simp [h1]
    · by_cases h2 : c = 46
      · left; simp [h2]
      · right; simp [h1, h2]
  · left; simp
theorem num_snoc1 (l : List UInt8) (c : UInt8) : numOf (l ++ [c]) = numOf l * 10 + ((c.toNat : Int) - 48) := by simp [numOf]
theorem num_bd (l : List UInt8) (h : l.all digB = true) : 0 ≤ numOf l ∧ numOf l < 10 ^ l.length := by
  suffices H : ∀ (n : Nat) (l : List UInt8), l.length = n → l.all digB = true → 0 ≤ numOf l ∧ numOf l < 10 ^ n from H _ l rfl h
  intro n
  induction n with
  | zero => intro l hl _; obtain rfl := List.eq_nil_of_length_eq_zero hl; exact ⟨Int.le_refl _, by decide⟩
  | succ n ih =>
    intro l hl ha
    rcases List.eq_nil_or_concat l with e | ⟨q, c, e⟩
    · subst e; simp at hl
    · subst e
      rw [List.concat_eq_append] at hl ha ⊢
      rw [List.all_append] at ha
      simp only [List.length_append, List.length_singleton] at hl
      have h1 : q.all digB = true := by simp only [Bool.and_eq_true] at ha; exact ha.1
      have h2 : digB c = true := by simp only [Bool.and_eq_true] at ha; simpa using ha.2
      have h2 := of_decide_eq_true h2
      have := ih q (by omega) h1
      rw [num_snoc1, Int.pow_succ]
      omega
theorem num_bd5 (s : ByteArray) (k : Nat) (hs : s.size ≤ 5) (hk : k ≤ s.size) (h : (s.data.toList.take k).all digB = true) : 0 ≤ numOf (s.data.toList.take k) ∧ numOf (s.data.toList.take k) ≤ 100000 := by
  have hb := num_bd _ h
  have hl : (s.data.toList.take k).length = k := by rw [List.length_take, len_list]; omega
  rw [hl] at hb
  have : (10 : Int) ^ k ≤ 100000 := by
    have : k = 0 ∨ k = 1 ∨ k = 2 ∨ k = 3 ∨ k = 4 ∨ k = 5 := by omega
    rcases this with rfl | rfl | rfl | rfl | rfl | rfl <;> decide
  omega
theorem port_long (s : ByteArray) (h : 5 < s.size) : portOf s.data.toList = 0 := by
  unfold portOf; rw [len_list, if_neg (by omega)]
theorem port_bad (s : ByteArray) (h : s.data.toList.all digB = false) : portOf s.data.toList = 0 := by
  unfold portOf; rw [h, if_neg (by simp)]
theorem port_great (s : ByteArray) (h : 65535 < numOf s.data.toList) : portOf s.data.toList = 0 := by
  unfold portOf; rw [if_neg (by omega)]
theorem port_yes (s : ByteArray) (h1 : s.size ≤ 5) (h2 : s.data.toList.all digB = true) (h3 : numOf s.data.toList ≤ 65535) : portOf s.data.toList = numOf s.data.toList := by
  unfold portOf; rw [len_list, if_pos ⟨h1, h2, h3⟩]
end Go.Proofs.YtddbemleialpbaaDoor
