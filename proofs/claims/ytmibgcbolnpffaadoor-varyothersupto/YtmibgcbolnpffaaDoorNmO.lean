/- Plain: texts in their order as bytes: which comes first; a list of texts that rises, each once. -/
import Derived.Test.YtmibgcbolnpffaaDoorPlain
import GoSem.Op.String
namespace Go.Proofs.YtmibgcbolnpffaaDoor
open Go.RowKit
abbrev Nm := List UInt8
def lessN (a b : Nm) : Bool := Op.bytesLess a b
theorem less_nil (a : Nm) : lessN a [] = false := by cases a <;> rfl
theorem less_cons (a b : UInt8) (x y : Nm) : lessN (a :: x) (b :: y) = (decide (a < b) || (a == b && lessN x y)) := rfl
theorem less_irrefl : ∀ a : Nm, lessN a a = false := by
  intro a
  induction a with
  | nil => rfl
  | cons c r ih => rw [less_cons, ih]; simp
theorem less_trans : ∀ a b c : Nm, lessN a b = true → lessN b c = true → lessN a c = true := by
  intro a
  induction a with
  | nil =>
    intro b c h1 h2
    cases c with
    | nil => rw [less_nil] at h2; cases h2
    | cons z w => rfl
  | cons x u ih =>
    intro b c h1 h2
    cases b with
    | nil => rw [less_nil] at h1; cases h1
    | cons y v =>
      cases c with
      | nil => rw [less_nil] at h2; cases h2
      | cons z w =>
        rw [less_cons] at h1 h2 ⊢
        simp only [Bool.or_eq_true, decide_eq_true_eq, Bool.and_eq_true, beq_iff_eq] at h1 h2 ⊢
        rcases h1 with h1 | ⟨rfl, h1⟩
        · rcases h2 with h2 | ⟨rfl, h2⟩
          · exact .inl (UInt8.lt_trans h1 h2)
          · exact .inl h1
        · rcases h2 with h2 | ⟨rfl, h2⟩
          · exact .inl h2
          · exact .inr ⟨rfl, ih v w h1 h2⟩
theorem less_total : ∀ a b : Nm, a = b ∨ lessN a b = true ∨ lessN b a = true := by
  intro a
  induction a with
  | nil => intro b; cases b with
    | nil => exact .inl rfl
    | cons y v => exact .inr (.inl rfl)
  | cons x u ih =>
    intro b
    cases b with
    | nil => exact .inr (.inr rfl)
    | cons y v =>
      rw [less_cons, less_cons]
      simp only [Bool.or_eq_true, decide_eq_true_eq, Bool.and_eq_true, beq_iff_eq]
      by_cases h : x = y
      · subst h
        rcases ih v with h1 | h1 | h1
        · exact .inl (by rw [h1])
        · exact .inr (.inl (.inr ⟨rfl, h1⟩))
        · exact .inr (.inr (.inr ⟨rfl, h1⟩))
      · rcases UInt8.lt_or_lt_of_ne h with h1 | h1
        · exact .inr (.inl (.inl h1))
        · exact .inr (.inr (.inl h1))
theorem less_asymm (a b : Nm) (h : lessN a b = true) : lessN b a = false := by
  cases h2 : lessN b a with
  | false => rfl
  | true =>
    have := less_trans a b a h h2
    rw [less_irrefl] at this
    cases this
theorem less_lt : ∀ a b : Nm, lessN a b = true → a < b := by
  intro a
  induction a with
  | nil =>
    intro b h
    cases b with
    | nil => cases h
    | cons y v => exact List.nil_lt_cons y v
  | cons x u ih =>
    intro b h
    cases b with
    | nil => rw [less_nil] at h; cases h
    | cons y v =>
      rw [less_cons] at h
      simp only [Bool.or_eq_true, decide_eq_true_eq, Bool.and_eq_true, beq_iff_eq] at h
      rw [List.cons_lt_cons_iff]
      rcases h with h | ⟨h1, h2⟩
      · exact .inl h
      · exact .inr ⟨h1, ih v h2⟩
/-- 'greater than name', in the words of the comparison that the language makes -/
theorem gt_less (a name : Nm) (h : a ≠ name) : (!(Op.bytesLess a name || a == name)) = lessN name a := by
  have e : (a == name) = false := by simpa using h
  rw [e, Bool.or_false]
  show (!(lessN a name)) = lessN name a
  rcases less_total a name with h1 | h1 | h1
  · exact absurd h1 h
  · rw [h1, less_asymm a name h1]; rfl
  · rw [h1, less_asymm name a h1]; rfl
end Go.Proofs.YtmibgcbolnpffaaDoor
