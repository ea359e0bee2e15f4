/- Where a pattern first stands in a text, in plain words: with more behind, and ahead of the end; pairs ahead; the head's end. -/
import Derived.Test.YtbbaajlabpjnlaaDoorPlain
import Derived.Lib.IndexMore
namespace Go.Proofs.YtbbaajlabpjnlaaDoor
open Go.RowKit
def E2 : List UInt8 := [13, 10]
def E4 : List UInt8 := [13, 10, 13, 10]
theorem pre_app (p l m : List UInt8) (h : p.isPrefixOf l = true) : p.isPrefixOf (l ++ m) = true := by
  rw [List.isPrefixOf_iff_prefix] at h ⊢
  obtain ⟨t, rfl⟩ := h
  exact ⟨t ++ m, by rw [List.append_assoc]⟩
theorem pre_cut (p l m : List UInt8) (h : p.isPrefixOf (l ++ m) = true) (hl : p.length ≤ l.length) : p.isPrefixOf l = true := by
  rw [List.isPrefixOf_iff_prefix] at h ⊢
  exact List.prefix_of_prefix_length_le h (List.prefix_append l m) hl
theorem pre_len (p l : List UInt8) (h : p.isPrefixOf l = true) : p.length ≤ l.length := by
  rw [List.isPrefixOf_iff_prefix] at h
  exact h.length_le
theorem occ_app (l m p : List UInt8) (j : Nat) (hj : j ≤ l.length) (h : Lib.occAt l p j = true) : Lib.occAt (l ++ m) p j = true := by
  unfold Lib.occAt at *
  rw [List.drop_append_of_le_length hj]
  exact pre_app _ _ _ h
theorem occ_cut (l m p : List UInt8) (j : Nat) (h : Lib.occAt (l ++ m) p j = true) (hj : j + p.length ≤ l.length) : Lib.occAt l p j = true := by
  unfold Lib.occAt at *
  rw [List.drop_append_of_le_length (by omega)] at h
  exact pre_cut _ _ _ h (by rw [List.length_drop]; omega)
theorem occ_len (l p : List UInt8) (j : Nat) (hp : p ≠ []) (h : Lib.occAt l p j = true) : j + p.length ≤ l.length := by
  unfold Lib.occAt at h
  have := pre_len _ _ h
  rw [List.length_drop] at this
  have : 0 < p.length := List.length_pos_iff.2 hp
  omega
theorem index_app (l m p : List UInt8) (hp : p ≠ []) (i : Nat) (h : Lib.index l p = i) : Lib.index (l ++ m) p = i := by
  rcases Lib.index_spec l p with ⟨h1, _⟩ | ⟨k, h1, h2, h3, h4⟩
  · omega
  · obtain rfl : k = i := by omega
    have hk := occ_len _ _ _ hp h3
    refine Lib.index_first (by rw [List.length_append]; omega) (occ_app _ _ _ _ h2 h3) (fun j hj => ?_)
    cases e : Lib.occAt (l ++ m) p j with
    | false => rfl
    | true => have := occ_cut l m p j e (by omega); rw [h4 j hj] at this; cases this
theorem index_none_of (l p : List UInt8) (h : Lib.index l p = -1) (j : Nat) (hp : p ≠ []) : Lib.occAt l p j = false := by
  rcases Lib.index_spec l p with ⟨_, h2⟩ | ⟨k, h1, _⟩
  · by_cases hj : j ≤ l.length
    · exact h2 j hj
    · cases e : Lib.occAt l p j with
      | false => rfl
      | true => have := occ_len _ _ _ hp e; omega
  · omega
theorem index_app_none (l m p : List UInt8) (hp : p ≠ []) (h : Lib.index l p = -1) (i : Nat) (hi : Lib.index (l ++ m) p = i) : l.length < i + p.length := by
  rcases Lib.index_spec (l ++ m) p with ⟨h1, _⟩ | ⟨k, h1, _, h3, _⟩
  · omega
  · obtain rfl : k = i := by omega
    rcases Nat.lt_or_ge l.length (k + p.length) with h' | h'
    · exact h'
    · have := occ_cut l m p k h3 (by omega); rw [index_none_of l p h k hp] at this; cases this
theorem index_some_of (l p : List UInt8) (j : Nat) (hp : p ≠ []) (h : Lib.occAt l p j = true) : ∃ i : Nat, Lib.index l p = i ∧ i ≤ j := by
  rcases Lib.index_spec l p with ⟨_, h2⟩ | ⟨k, h1, _, _, h4⟩
  · have := occ_len _ _ _ hp h
    rw [h2 j (by omega)] at h; cases h
  · refine ⟨k, h1, ?_⟩
    rcases Nat.lt_or_ge j k with h' | h'
    · rw [h4 j h'] at h; cases h
    · exact h'
theorem index_is (l p : List UInt8) (i : Nat) (h : Lib.index l p = i) : i ≤ l.length ∧ Lib.occAt l p i = true ∧ ∀ j, j < i → Lib.occAt l p j = false := by
  rcases Lib.index_spec l p with ⟨h1, _⟩ | ⟨k, h1, h2, h3, h4⟩
  · omega
  · obtain rfl : k = i := by omega
    exact ⟨h2, h3, h4⟩
theorem index_cases (l p : List UInt8) : Lib.index l p = -1 ∨ ∃ i : Nat, Lib.index l p = i := by
  rcases Lib.index_spec l p with ⟨h1, _⟩ | ⟨k, h1, _⟩
  · exact .inl h1
  · exact .inr ⟨k, h1⟩
/-- how many bytes the pairs ahead take -/
def leadOf : List UInt8 → Nat
  | a :: b :: t => if a = 13 ∧ b = 10 then leadOf t + 2 else 0
  | _ => 0
def pairB (l : List UInt8) : Bool := E2.isPrefixOf l
theorem pair_iff (l : List UInt8) : pairB l = true ↔ ∃ t, l = 13 :: 10 :: t := by
  unfold pairB E2
  rw [List.isPrefixOf_iff_prefix]
  constructor
  · rintro ⟨t, rfl⟩; exact ⟨t, rfl⟩
  · rintro ⟨t, rfl⟩; exact ⟨t, rfl⟩
theorem lead_yes (l : List UInt8) (h : pairB l = true) : leadOf l = leadOf (l.drop 2) + 2 := by
  obtain ⟨t, rfl⟩ := (pair_iff l).1 h
  rw [leadOf]; simp
theorem lead_no (l : List UInt8) (h : pairB l = false) : leadOf l = 0 := by
  match l with
  | [] => rfl
  | [a] => rfl
  | a :: b :: t =>
    rw [leadOf, if_neg]
    rintro ⟨rfl, rfl⟩
    have := (pair_iff (13 :: 10 :: t)).2 ⟨t, rfl⟩
    rw [h] at this; cases this
theorem lead_le : ∀ (n : Nat) (l : List UInt8), l.length ≤ n → leadOf l ≤ l.length := by
  intro n
  induction n with
  | zero => intro l h; obtain rfl : l = [] := List.eq_nil_of_length_eq_zero (by omega); simp [leadOf]
  | succ n ih =>
    intro l h
    cases hp : pairB l with
    | false => rw [lead_no l hp]; omega
    | true =>
      rw [lead_yes l hp]
      obtain ⟨t, rfl⟩ := (pair_iff l).1 hp
      simp at h ⊢
      exact ih t (by omega)
theorem lead_bound (l : List UInt8) : leadOf l ≤ l.length := lead_le _ l (Nat.le_refl _)
theorem lead_end : ∀ (n : Nat) (l : List UInt8), l.length ≤ n → pairB (l.drop (leadOf l)) = false := by
  intro n
  induction n with
  | zero => intro l h; obtain rfl : l = [] := List.eq_nil_of_length_eq_zero (by omega); rfl
  | succ n ih =>
    intro l h
    cases hp : pairB l with
    | false => rw [lead_no l hp]; exact hp
    | true =>
      rw [lead_yes l hp]
      obtain ⟨t, rfl⟩ := (pair_iff l).1 hp
      have := ih t (by simp at h; omega)
      simpa using this
theorem lead_app : ∀ (n : Nat) (l m : List UInt8), l.length ≤ n → leadOf l + 2 ≤ l.length → leadOf (l ++ m) = leadOf l := by
  intro n
  induction n with
  | zero => intro l m h h2; omega
  | succ n ih =>
    intro l m h h2
    cases hp : pairB l with
    | false =>
      rw [lead_no l hp]
      apply lead_no
      cases e : pairB (l ++ m) with
      | false => rfl
      | true =>
        have := pre_cut E2 l m e (by show 2 ≤ l.length; omega)
        rw [show E2.isPrefixOf l = pairB l from rfl, hp] at this; cases this
    | true =>
      rw [lead_yes l hp] at h2 ⊢
      obtain ⟨t, rfl⟩ := (pair_iff l).1 hp
      simp at h h2 ⊢
      have e : pairB (13 :: 10 :: (t ++ m)) = true := (pair_iff _).2 ⟨_, rfl⟩
      rw [lead_yes _ e]
      simp
      exact ih t m (by omega) (by omega)
theorem lead_more : ∀ (n : Nat) (l m : List UInt8), l.length ≤ n → leadOf l ≤ leadOf (l ++ m) := by
  intro n
  induction n with
  | zero => intro l m h; obtain rfl : l = [] := List.eq_nil_of_length_eq_zero (by omega); simp [leadOf]
  | succ n ih =>
    intro l m h
    cases hp : pairB l with
    | false => rw [lead_no l hp]; omega
    | true =>
      obtain ⟨t, rfl⟩ := (pair_iff l).1 hp
      have e : pairB (13 :: 10 :: (t ++ m)) = true := (pair_iff _).2 ⟨_, rfl⟩
      rw [lead_yes _ hp, show (13 :: 10 :: t) ++ m = 13 :: 10 :: (t ++ m) from rfl, lead_yes _ e]
      simp at h ⊢
      exact ih t m (by omega)
/-- where the head ends, counted from the beginning, the pairs of p bytes passed over; 0 and 0: it isn't there yet -/
def endOf (bs : List UInt8) (p : Nat) : Nat × Int :=
  if Lib.index (bs.drop p) E4 = -1 then (if 8192 ≤ bs.length then (0, 51) else (0, 0))
  else if 8192 < p + (Lib.index (bs.drop p) E4).toNat + 4 then (0, 51) else (p + (Lib.index (bs.drop p) E4).toNat + 4, 0)
theorem end_none (bs : List UInt8) (p : Nat) (h : Lib.index (bs.drop p) E4 = -1) : endOf bs p = if 8192 ≤ bs.length then (0, 51) else (0, 0) := by unfold endOf; rw [if_pos h]
theorem end_some (bs : List UInt8) (p i : Nat) (h : Lib.index (bs.drop p) E4 = i) : endOf bs p = if 8192 < p + i + 4 then (0, 51) else (p + i + 4, 0) := by
  unfold endOf; rw [if_neg (by omega), h, Int.toNat_natCast]
/-- what is told of an end is told with more behind -/
theorem end_app (b m : List UInt8) (p : Nat) (hp : p ≤ b.length) (hd : Lib.index (b.drop p) E4 ≠ -1) : endOf (b ++ m) p = endOf b p := by
  rcases index_cases (b.drop p) E4 with h1 | ⟨i, h1⟩
  · exact absurd h1 hd
  · rw [end_some b p i h1, end_some (b ++ m) p i]
    rw [List.drop_append_of_le_length hp]
    exact index_app _ _ _ (by decide) _ h1
theorem end_over (b m : List UInt8) (p q : Nat) (hp : p ≤ b.length) (hq : p ≤ q) (h : Lib.index (b.drop p) E4 = -1) (hl : 8192 ≤ b.length) : endOf (b ++ m) q = (0, 51) := by
  rcases index_cases ((b ++ m).drop q) E4 with h1 | ⟨i, h1⟩
  · rw [end_none _ _ h1, if_pos (by rw [List.length_append]; omega)]
  · rw [end_some _ _ _ h1, if_pos]
    have h2 := (index_is _ _ _ h1).2.1
    have h3 : Lib.occAt (b.drop p ++ m) E4 (q - p + i) = true := by
      unfold Lib.occAt at h2 ⊢
      rw [← List.drop_append_of_le_length hp, List.drop_drop]
      rw [List.drop_drop] at h2
      rwa [show p + (q - p + i) = q + i by omega]
    rcases Nat.lt_or_ge 8192 (q + i + 4) with h' | h'
    · exact h'
    · have := occ_cut (b.drop p) m E4 (q - p + i) h3 (by rw [List.length_drop]; show _ + 4 ≤ _; omega)
      rw [index_none_of _ _ h _ (by decide)] at this; cases this
end Go.Proofs.YtbbaajlabpjnlaaDoor
