/- The library's words for searching, in layer 3's own. -/
import Derived.Test.YtddbemleialpbaaDoorUrQ
import Derived.Lib.Split
import Derived.Lib.IndexAny
namespace Go.Proofs.YtddbemleialpbaaDoor
open Go.RowKit
theorem while_all (p : UInt8 → Bool) (l : List UInt8) (h : l.all p = true) : l.takeWhile p = l ∧ l.dropWhile p = [] := by
  have := while_app p l [] (fun c hc => List.all_eq_true.1 h c hc) (by simp)
  rwa [List.append_nil] at this
theorem while_take (p : UInt8 → Bool) (l : List UInt8) : l.take (l.takeWhile p).length = l.takeWhile p := by
  conv => lhs; rw [← while_app2 p l]
  rw [List.takeWhile_append_dropWhile]
  have := @List.take_left _ (l.takeWhile p) (l.dropWhile p)
  rwa [List.takeWhile_append_dropWhile] at this
theorem while_drop (p : UInt8 → Bool) (l : List UInt8) (k : Nat) : l.drop ((l.takeWhile p).length + k) = (l.dropWhile p).drop k := by
  have := @List.drop_left _ (l.takeWhile p) (l.dropWhile p)
  rw [List.takeWhile_append_dropWhile] at this
  rw [← List.drop_drop, this]
theorem while_len (p : UInt8 → Bool) (l : List UInt8) (h : ¬ l.all p = true) : (l.takeWhile p).length < l.length := by
  induction l with
  | nil => simp at h
  | cons c l ih =>
    by_cases hc : p c = true
    · rw [List.takeWhile_cons_of_pos hc]
      have := ih (fun e => h (by rw [List.all_cons, hc, e]; rfl))
      simp; omega
    · rw [List.takeWhile_cons_of_neg hc]; simp
theorem index_one (p : UInt8 → Bool) (c : UInt8) (hp : ∀ x, p x = false ↔ x = c) (l : List UInt8) : Lib.index l [c] = if l.all p = true then -1 else ((l.takeWhile p).length : Int) := by
  induction l with
  | nil => rfl
  | cons b l ih =>
    rw [Lib.index]
    by_cases e : b = c
    · subst e
      have h1 := (hp b).2 rfl
      have h2 : [b].isPrefixOf (b :: l) = true := by simp [List.isPrefixOf]
      rw [if_pos h2, List.all_cons, h1, Bool.false_and, if_neg (by simp), List.takeWhile_cons_of_neg (by simp [h1])]; rfl
    · have h1 : p b = true := by
        cases h : p b with
        | true => rfl
        | false => exact absurd ((hp b).1 h) e
      have h2 : ¬ [c].isPrefixOf (b :: l) = true := by simp [List.isPrefixOf]; exact fun x => e x.symm
      rw [if_neg h2, ih, List.all_cons, h1, Bool.true_and, List.takeWhile_cons_of_pos h1]
      by_cases h : l.all p = true
      · rw [if_pos h, if_pos h]; rfl
      · rw [if_neg h, if_neg h, if_neg]
        · simp
        · intro x; have := beq_iff_eq.1 x; omega
theorem cut_one (p : UInt8 → Bool) (c : UInt8) (hp : ∀ x, p x = false ↔ x = c) (l : List UInt8) : Lib.cut l [c] = (l.takeWhile p, (l.dropWhile p).drop 1, ! l.all p) := by
  unfold Lib.cut
  rw [index_one p c hp l]
  by_cases h : l.all p = true
  · rw [if_pos h, if_neg (by omega), (while_all p l h).1, (while_all p l h).2, h]; rfl
  · rw [if_neg h, if_pos (by omega), Int.toNat_natCast, while_take, while_drop, Bool.eq_false_iff.2 h]; rfl
theorem index_any (l : List UInt8) : Lib.indexAny l [47, 63] = if l.all noEnd = true then -1 else ((l.takeWhile noEnd).length : Int) := by
  induction l with
  | nil => rfl
  | cons b l ih =>
    rw [Lib.indexAny]
    by_cases e : b = 47 ∨ b = 63
    · have h1 : noEnd b = false := by rcases e with rfl | rfl <;> decide
      have h2 : ([47, 63] : List UInt8).contains b = true := by rcases e with rfl | rfl <;> decide
      rw [if_pos h2, List.all_cons, h1, Bool.false_and, if_neg (by simp), List.takeWhile_cons_of_neg (by simp [h1])]; rfl
    · have h1 : noEnd b = true := by unfold noEnd; exact decide_eq_true ⟨fun x => e (.inl x), fun x => e (.inr x)⟩
      have h2 : ¬ ([47, 63] : List UInt8).contains b = true := by simp; exact ⟨fun x => e (.inl x), fun x => e (.inr x)⟩
      rw [if_neg h2, ih, List.all_cons, h1, Bool.true_and, List.takeWhile_cons_of_pos h1]
      by_cases h : l.all noEnd = true
      · rw [if_pos h, if_pos h]; rfl
      · rw [if_neg h, if_neg h, if_neg]
        · simp
        · intro x; have := beq_iff_eq.1 x; omega
def noStroke (c : UInt8) : Bool := decide (c ≠ 47)
theorem noStroke_iff (c : UInt8) : noStroke c = false ↔ c = 47 := by unfold noStroke; simp
theorem noCol_iff (c : UInt8) : noCol c = false ↔ c = 58 := by unfold noCol; simp
theorem split_eq : ∀ (n : Nat) (l : List UInt8), l.length ≤ n → Lib.splitK [47] 0 (Lib.count l [47]) l = pieces l
  | n, l, hn => by
    have hi := index_one noStroke 47 noStroke_iff l
    by_cases h : l.all noStroke = true
    · rw [if_pos h] at hi
      rw [Lib.count_miss hi, Lib.splitK]
      exact (pieces_one l fun c hc => of_decide_eq_true (List.all_eq_true.1 h c hc)).symm
    · rw [if_neg h] at hi
      have hlt := while_len noStroke l h
      obtain ⟨n, rfl⟩ : ∃ m, n = m + 1 := ⟨n - 1, by omega⟩
      rw [Lib.count_hit (by simp) hi, Nat.add_comm, Lib.splitK, hi, if_neg (by intro x; have := beq_iff_eq.1 x; omega), Int.toNat_natCast, List.length_singleton, Nat.add_zero, while_take, while_drop]
      have e : l = l.takeWhile noStroke ++ 47 :: (l.dropWhile noStroke).drop 1 := by
        have h1 := while_app2 noStroke l
        cases hd : l.dropWhile noStroke with
        | nil => rw [hd, List.append_nil] at h1; rw [h1] at hlt; omega
        | cons c q =>
          have hc := (noStroke_iff c).1 (drop_head noStroke l c q hd)
          subst hc
          rw [hd] at h1
          rw [List.drop_succ_cons, List.drop_zero]
          exact h1.symm
      have hs := split_eq n ((l.dropWhile noStroke).drop 1) (by
        have := congrArg List.length e
        simp only [List.length_append, List.length_cons] at this
        omega)
      rw [hs]
      conv => rhs; rw [e]
      rw [pieces_split _ _ (fun c hc => of_decide_eq_true (take_mem noStroke l c hc))]
/-- the library's Split at a stroke -/
theorem split_list (s : ByteArray) : (Lib.splitB ⟨#[47]⟩ 0 (Lib.countB s ⟨#[47]⟩) s).map (·.data.toList) = pieces s.data.toList := by
  rw [Lib.splitB_data]
  exact split_eq _ s.data.toList (Nat.le_refl _)
end Go.Proofs.YtddbemleialpbaaDoor
