/- Plain: a step of the reading, and the whole: with more behind, of just the bytes that it took, of one fewer. -/
import Derived.Test.YtobkmepamgdccaaGreatDoorChP
namespace Go.Proofs.YtobkmepamgdccaaGreatDoor
open Go.RowKit
theorem pair_same {x m : List UInt8} (h : 2 ≤ x.length) : pairB (x ++ m) = pairB x := by
  cases e : pairB x with
  | true => exact pair_app e
  | false =>
    cases e2 : pairB (x ++ m) with
    | false => rfl
    | true => rw [pair_cut e2 h] at e; cases e
theorem fin_need {n : Nat} {t : FL × Nat × Int} (h : t = ([], 0, 0)) : finC n t = St.need := by subst h; rfl
theorem data_app {b : List UInt8} (m : List UInt8) {s n k : Nat} (h : (dataC b s n k).o ≠ 0) : dataC (b ++ m) s n k = dataC b s n k := by
  unfold dataC at h ⊢
  split
  · rfl
  · rename_i h1
    rw [if_neg h1] at h
    by_cases h2 : b.length < s + 2
    · rw [if_pos h2] at h; exact absurd rfl h
    · rw [if_neg h2, if_neg (by rw [List.length_append]; omega), drop_app m (by omega), take_app m (by omega), pair_same (by rw [List.length_drop]; omega)]
theorem chs_line {b : List UInt8} {k s n : Nat} (h : lineC b = (s, n, 0)) (hn : n ≠ 0) : stepC b k = if s = 0 then finC n (tailC (b.drop n)) else dataC (b.drop n) s n k := by
  unfold stepC
  rw [h]
  simp only [ne_eq, not_true_eq_false, if_false]
  rw [if_neg hn]
theorem chs_none {b : List UInt8} {k : Nat} (h : lineC b = (0, 0, 0)) : stepC b k = St.need := by
  unfold stepC
  rw [h]
  rfl
theorem chs_bad {b : List UInt8} {k : Nat} (h : lineC b = (0, 0, 70)) : stepC b k = St.err 70 := by
  unfold stepC
  rw [h]
  rfl
theorem chs_app (b m : List UInt8) (k : Nat) (h : (stepC b k).o ≠ 0) : stepC (b ++ m) k = stepC b k := by
  rcases lineC_cases b with e | e | ⟨s, e, hlt, _⟩
  · rw [chs_none e] at h; exact absurd rfl h
  · rw [chs_bad e, chs_bad (by rw [lineC_app b m (by rw [e]; simp), e])]
  · have e2 : lineC (b ++ m) = (s, lenL b + 1, 0) := by rw [lineC_app b m (by rw [e]; simp), e]
    rw [chs_line e (by omega)] at h ⊢
    rw [chs_line e2 (by omega), drop_app m (by omega)]
    by_cases hs : s = 0
    · rw [if_pos hs] at h ⊢
      rw [if_pos hs]
      by_cases ht : tailC (b.drop (lenL b + 1)) = ([], 0, 0)
      · rw [fin_need ht] at h; exact absurd rfl h
      · rw [tail_app _ _ ht]
    · rw [if_neg hs] at h ⊢
      rw [if_neg hs, data_app m h]
/-- a chunk's and the end's facts -/
theorem chs_two (b : List UInt8) (k : Nat) (h : (stepC b k).o = 2) : ∃ s, lineC b = (s, lenL b + 1, 0) ∧ s ≠ 0 ∧ k + s ≤ 65536 ∧ lenL b + 1 + (s + 2) ≤ b.length ∧ stepC b k = ⟨2, (b.drop (lenL b + 1)).take s, [], lenL b + 1 + (s + 2), 0⟩ := by
  rcases lineC_cases b with e | e | ⟨s, e, hlt, _⟩
  · rw [chs_none e] at h; cases h
  · rw [chs_bad e] at h; cases h
  · rw [chs_line e (by omega)] at h ⊢
    by_cases hs : s = 0
    · rw [if_pos hs] at h
      unfold finC at h
      split at h
      · cases h
      · split at h
        · cases h
        · cases h
    · rw [if_neg hs] at h ⊢
      unfold dataC at h ⊢
      split at h
      · cases h
      · rename_i h1
        split at h
        · cases h
        · rename_i h2
          split at h
          · cases h
          · rename_i h3
            rw [List.length_drop] at h2
            refine ⟨s, e, hs, by omega, by omega, ?_⟩
            rw [if_neg h1, if_neg (by rw [List.length_drop]; omega), if_neg h3]
theorem chs_three (b : List UInt8) (k : Nat) (h : (stepC b k).o = 3) : lineC b = (0, lenL b + 1, 0) ∧ lenL b < b.length ∧ (tailC (b.drop (lenL b + 1))).2.2 = 0 ∧ 0 < (tailC (b.drop (lenL b + 1))).2.1 ∧ lenL b + 1 + (tailC (b.drop (lenL b + 1))).2.1 ≤ b.length ∧
    stepC b k = ⟨3, [], (tailC (b.drop (lenL b + 1))).1, lenL b + 1 + (tailC (b.drop (lenL b + 1))).2.1, 0⟩ := by
  rcases lineC_cases b with e | e | ⟨s, e, hlt, _⟩
  · rw [chs_none e] at h; cases h
  · rw [chs_bad e] at h; cases h
  · rw [chs_line e (by omega)] at h ⊢
    by_cases hs : s = 0
    · rw [if_pos hs] at h ⊢
      subst hs
      unfold finC at h ⊢
      split at h
      · cases h
      · rename_i h1
        split at h
        · cases h
        · rename_i h2
          have h3 := tail_need (b.drop (lenL b + 1))
          have h4 : (tailC (b.drop (lenL b + 1))).2.1 ≤ (b.drop (lenL b + 1)).length := by
            rcases h3 with h3 | h3 | h3
            · rw [h3] at h2; simp at h2
            · exact absurd h3 h1
            · exact h3.2.1
          rw [List.length_drop] at h4
          refine ⟨e, hlt, by simpa using h1, by omega, by omega, ?_⟩
          rw [if_neg h1, if_neg h2]
    · rw [if_neg hs] at h
      unfold dataC at h
      split at h
      · cases h
      · split at h
        · cases h
        · split at h
          · cases h
          · cases h
theorem chs_other (b : List UInt8) (k : Nat) : (stepC b k).o = 0 ∧ (stepC b k).e = 0 ∨ (stepC b k).o = 1 ∧ (stepC b k).e ≠ 0 ∨ (stepC b k).o = 2 ∨ (stepC b k).o = 3 := by
  rcases lineC_cases b with e | e | ⟨s, e, hlt, _⟩
  · rw [chs_none e]; exact .inl ⟨rfl, rfl⟩
  · rw [chs_bad e]; exact .inr (.inl ⟨rfl, by simp [St.err]⟩)
  · rw [chs_line e (by omega)]
    split
    · unfold finC
      split
      · rename_i h; exact .inr (.inl ⟨rfl, h⟩)
      · split
        · exact .inl ⟨rfl, rfl⟩
        · exact .inr (.inr (.inr rfl))
    · unfold dataC
      split
      · exact .inr (.inl ⟨rfl, by simp [St.err]⟩)
      · split
        · exact .inl ⟨rfl, rfl⟩
        · split
          · exact .inr (.inl ⟨rfl, by simp [St.err]⟩)
          · exact .inr (.inr (.inl rfl))
theorem chs_take2 (b : List UInt8) (k j : Nat) (h : (stepC b k).o = 2) (hj : (stepC b k).n ≤ j) : stepC (b.take j) k = stepC b k := by
  obtain ⟨s, e, hs, hk, hl, es⟩ := chs_two b k h
  have hn : (stepC b k).n = lenL b + 1 + (s + 2) := by rw [es]
  rw [hn] at hj
  have e2 : lineC (b.take j) = (s, lenL b + 1, 0) := by rw [lineC_take b j (by rw [e]; simp) (by rw [e]) (by rw [e]; simp; omega), e]
  have e3 : (b.take j).drop (lenL b + 1) = (b.drop (lenL b + 1)).take (j - (lenL b + 1)) := drop_take' _ _ _
  rw [chs_line e (by omega), chs_line e2 (by omega), if_neg hs, if_neg hs, e3]
  have hb : b.drop (lenL b + 1) = (b.drop (lenL b + 1)).take (j - (lenL b + 1)) ++ (b.drop (lenL b + 1)).drop (j - (lenL b + 1)) := (List.take_append_drop _ _).symm
  have h2 : (dataC ((b.drop (lenL b + 1)).take (j - (lenL b + 1))) s (lenL b + 1) k).o ≠ 0 := by
    unfold dataC
    rw [if_neg (by omega), if_neg (by rw [List.length_take, List.length_drop]; omega)]
    split <;> simp [St.err]
  have := data_app ((b.drop (lenL b + 1)).drop (j - (lenL b + 1))) h2
  rw [← hb] at this
  exact this.symm
theorem chs_take3 (b : List UInt8) (k j : Nat) (h : (stepC b k).o = 3) (hj : (stepC b k).n ≤ j) : stepC (b.take j) k = stepC b k := by
  obtain ⟨e, hlt, h0, h1, hl, es⟩ := chs_three b k h
  have hn : (stepC b k).n = lenL b + 1 + (tailC (b.drop (lenL b + 1))).2.1 := by rw [es]
  rw [hn] at hj
  have e2 : lineC (b.take j) = (0, lenL b + 1, 0) := by rw [lineC_take b j (by rw [e]; simp) (by rw [e]) (by rw [e]; simp; omega), e]
  have e3 : (b.take j).drop (lenL b + 1) = (b.drop (lenL b + 1)).take (j - (lenL b + 1)) := drop_take' _ _ _
  rw [chs_line e (by omega), chs_line e2 (by omega), if_pos rfl, if_pos rfl, e3, tail_take _ _ h0 h1 (by omega)]
theorem tail_short (b : List UInt8) (h0 : (tailC b).2.2 = 0) (h1 : 0 < (tailC b).2.1) : tailC (b.take ((tailC b).2.1 - 1)) = ([], 0, 0) := by
  by_cases hp : pairB b = true
  · have h2 : tailC b = ([], 2, 0) := by unfold tailC; rw [if_pos hp]
    rw [h2]
    obtain ⟨t, rfl⟩ := (pair_iff b).1 hp
    show tailC [13] = ([], 0, 0)
    decide +kernel
  · have hz : (endOf b 0).1 ≠ 0 := by
      intro hz
      unfold tailC at h1
      rw [if_neg hp, if_pos hz] at h1
      simp at h1
    obtain ⟨i, h3, h4, h5, h6⟩ := end_len b hz
    have hn : (tailC b).2.1 = i + 4 := by
      unfold tailC at h0 h1 ⊢
      rw [if_neg hp, if_neg hz] at h0 h1 ⊢
      split
      · rw [h4]
      · rename_i h7; rw [if_neg h7] at h1; simp at h1
    rw [hn, show i + 4 - 1 = i + 3 by omega]
    have hb : b = b.take (i + 3) ++ b.drop (i + 3) := (List.take_append_drop _ b).symm
    have hp2 : ¬ pairB (b.take (i + 3)) = true := fun e2 => hp (by rw [hb]; exact pair_app e2)
    have h7 : Lib.index (b.take (i + 3)) E4 = -1 := index_take_none b E4 (by decide) i (i + 3) h3 (by simp [E4])
    have h8 : endOf (b.take (i + 3)) 0 = (0, 0) := by
      rw [end_none (b.take (i + 3)) 0 (by rw [List.drop_zero]; exact h7), if_neg (by rw [List.length_take]; omega)]
    unfold tailC
    rw [if_neg hp2, h8]
    rfl
theorem chs_short (b : List UInt8) (k : Nat) (h : (stepC b k).o = 3) : stepC (b.take ((stepC b k).n - 1)) k = St.need := by
  obtain ⟨e, hlt, h0, h1, hl, es⟩ := chs_three b k h
  have hn : (stepC b k).n = lenL b + 1 + (tailC (b.drop (lenL b + 1))).2.1 := by rw [es]
  rw [hn]
  have e2 : lineC (b.take (lenL b + 1 + (tailC (b.drop (lenL b + 1))).2.1 - 1)) = (0, lenL b + 1, 0) := by rw [lineC_take b _ (by rw [e]; simp) (by rw [e]) (by rw [e]; simp; omega), e]
  have e3 : (b.take (lenL b + 1 + (tailC (b.drop (lenL b + 1))).2.1 - 1)).drop (lenL b + 1) = (b.drop (lenL b + 1)).take ((tailC (b.drop (lenL b + 1))).2.1 - 1) := by
    rw [drop_take']; congr 1; omega
  rw [chs_line e2 (by omega), if_pos rfl, e3, tail_short _ h0 h1]
  rfl
/-! the whole -/
theorem dec_app : ∀ (f : Nat) (b m out : List UInt8) (p g : Nat), b.length < f → (b ++ m).length < g → ((decG f b out p).2.2.2 ≠ 0 ∨ 0 < (decG f b out p).2.2.1) → decG g (b ++ m) out p = decG f b out p := by
  intro f
  induction f with
  | zero => intro b m out p g h; omega
  | succ f ih =>
    intro b m out p g hf hg h
    obtain ⟨g, rfl⟩ : ∃ g', g = g' + 1 := ⟨g - 1, by omega⟩
    rcases chs_other b out.length with ⟨h0, he⟩ | ⟨h1, he⟩ | h2 | h3
    · rw [dec_stop (by omega) (by omega), he] at h
      simp at h
    · have e := chs_app b m out.length (by omega)
      rw [dec_stop (by rw [e]; omega) (by rw [e]; omega), dec_stop (by omega) (by omega), e]
    · have e := chs_app b m out.length (by omega)
      obtain ⟨s, _, _, _, hl, es⟩ := chs_two b out.length h2
      have hn : (stepC b out.length).n = lenL b + 1 + (s + 2) := by rw [es]
      rw [dec_chunk h2] at h ⊢
      rw [dec_chunk (by rw [e]; exact h2), e, drop_app m (by omega)]
      refine ih _ _ _ _ _ (by rw [List.length_drop]; omega) ?_ h
      rw [List.length_append] at hg ⊢
      rw [List.length_drop]
      omega
    · have e := chs_app b m out.length (by omega)
      rw [dec_fin (by rw [e]; exact h3), dec_fin h3, e]
theorem dec_fuel (f g : Nat) (b out : List UInt8) (p : Nat) (hf : b.length < f) (hg : b.length < g) : decG f b out p = decG g b out p := by
  induction f generalizing g b out p with
  | zero => omega
  | succ f ih =>
    obtain ⟨g, rfl⟩ : ∃ g', g = g' + 1 := ⟨g - 1, by omega⟩
    rcases chs_other b out.length with ⟨h0, _⟩ | ⟨h1, _⟩ | h2 | h3
    · rw [dec_stop (by omega) (by omega), dec_stop (by omega) (by omega)]
    · rw [dec_stop (by omega) (by omega), dec_stop (by omega) (by omega)]
    · obtain ⟨s, _, _, _, hl, es⟩ := chs_two b out.length h2
      have hn : (stepC b out.length).n = lenL b + 1 + (s + 2) := by rw [es]
      rw [dec_chunk h2, dec_chunk h2]
      exact ih _ _ _ _ (by rw [List.length_drop]; omega) (by rw [List.length_drop]; omega)
    · rw [dec_fin h3, dec_fin h3]
theorem dec_zero : ∀ (f : Nat) (b out : List UInt8) (p : Nat), (decG f b out p).2.2.1 = 0 → (decG f b out p).1 = [] ∧ (decG f b out p).2.1 = [] := by
  intro f
  induction f with
  | zero => intro b out p _; exact ⟨rfl, rfl⟩
  | succ f ih =>
    intro b out p h
    rcases chs_other b out.length with ⟨h0, _⟩ | ⟨h1, _⟩ | h2 | h3
    · rw [dec_stop (by omega) (by omega)]; exact ⟨rfl, rfl⟩
    · rw [dec_stop (by omega) (by omega)]; exact ⟨rfl, rfl⟩
    · rw [dec_chunk h2] at h ⊢
      exact ih _ _ _ h
    · obtain ⟨_, _, _, h5, hl, es⟩ := chs_three b out.length h3
      rw [dec_fin h3] at h
      simp only at h
      rw [es] at h
      simp only at h
      omega
theorem dec_bad : ∀ (f : Nat) (b out : List UInt8) (p : Nat), (decG f b out p).2.2.2 ≠ 0 → (decG f b out p).2.2.1 = 0 := by
  intro f
  induction f with
  | zero => intro b out p _; rfl
  | succ f ih =>
    intro b out p h
    rcases chs_other b out.length with ⟨h0, _⟩ | ⟨h1, _⟩ | h2 | h3
    · rw [dec_stop (by omega) (by omega)]
    · rw [dec_stop (by omega) (by omega)]
    · rw [dec_chunk h2] at h ⊢
      exact ih _ _ _ h
    · rw [dec_fin h3] at h; simp at h
/-- what is told lies within the bytes; of just these it is told, of one fewer more is needed -/
theorem dec_own : ∀ (f : Nat) (b out : List UInt8) (p : Nat), b.length < f → 0 < (decG f b out p).2.2.1 →
    ∃ j, (decG f b out p).2.2.1 = p + j ∧ 0 < j ∧ j ≤ b.length ∧ (∀ g, (b.take j).length < g → decG g (b.take j) out p = decG f b out p) ∧ (∀ g, (b.take (j - 1)).length < g → decG g (b.take (j - 1)) out p = ([], [], 0, 0)) := by
  intro f
  induction f with
  | zero => intro b out p h; omega
  | succ f ih =>
    intro b out p hf h
    rcases chs_other b out.length with ⟨h0, _⟩ | ⟨h1, _⟩ | h2 | h3
    · rw [dec_stop (by omega) (by omega)] at h; simp at h
    · rw [dec_stop (by omega) (by omega)] at h; simp at h
    · obtain ⟨s, _, _, _, hl, es⟩ := chs_two b out.length h2
      have hn : (stepC b out.length).n = lenL b + 1 + (s + 2) := by rw [es]
      rw [dec_chunk h2] at h ⊢
      obtain ⟨j, e1, j0, j1, j2, j3⟩ := ih _ _ _ (by rw [List.length_drop]; omega) h
      rw [List.length_drop] at j1
      have hs1 : stepC (b.take ((stepC b out.length).n + j)) out.length = stepC b out.length := chs_take2 b _ _ h2 (by omega)
      have hs2 : stepC (b.take ((stepC b out.length).n + j - 1)) out.length = stepC b out.length := chs_take2 b _ _ h2 (by omega)
      refine ⟨(stepC b out.length).n + j, by rw [e1]; omega, by omega, by omega, fun g hg => ?_, fun g hg => ?_⟩
      · obtain ⟨g, rfl⟩ : ∃ g', g = g' + 1 := ⟨g - 1, by omega⟩
        rw [dec_chunk (by rw [hs1]; exact h2), hs1, drop_take', Nat.add_sub_cancel_left]
        refine j2 g ?_
        rw [List.length_take] at hg ⊢
        rw [List.length_drop]
        omega
      · obtain ⟨g, rfl⟩ : ∃ g', g = g' + 1 := ⟨g - 1, by omega⟩
        rw [dec_chunk (by rw [hs2]; exact h2), hs2, drop_take', show (stepC b out.length).n + j - 1 - (stepC b out.length).n = j - 1 by omega]
        refine j3 g ?_
        rw [List.length_take] at hg ⊢
        rw [List.length_drop]
        omega
    · obtain ⟨_, _, _, h5, hl, es⟩ := chs_three b out.length h3
      have hn : (stepC b out.length).n = lenL b + 1 + (tailC (b.drop (lenL b + 1))).2.1 := by rw [es]
      rw [dec_fin h3] at h ⊢
      have hs1 : stepC (b.take (stepC b out.length).n) out.length = stepC b out.length := chs_take3 b _ _ h3 (Nat.le_refl _)
      have hs2 := chs_short b out.length h3
      refine ⟨(stepC b out.length).n, rfl, by omega, by omega, fun g hg => ?_, fun g hg => ?_⟩
      · obtain ⟨g, rfl⟩ : ∃ g', g = g' + 1 := ⟨g - 1, by omega⟩
        rw [dec_fin (by rw [hs1]; exact h3), hs1]
      · obtain ⟨g, rfl⟩ : ∃ g', g = g' + 1 := ⟨g - 1, by omega⟩
        rw [dec_stop (by rw [hs2]; simp [St.need]) (by rw [hs2]; simp [St.need]), hs2]
        rfl
end Go.Proofs.YtobkmepamgdccaaGreatDoor
