/- What is read of bytes behind one another. -/
import Derived.Test.YtfefihnmmlbfjabDoorFdPq
namespace Go.Proofs.YtfefihnmmlbfjabDoor
open Go.RowKit
theorem step_app {x l r : List UInt8} (y : List UInt8) (h : stepOf x = some (l, r)) : stepOf (x ++ y) = some (l, r ++ y) := by
  obtain ⟨_, h2, h3⟩ := (step_spec x).1 l r h
  rw [h3, List.append_assoc]
  refine step_line l (r ++ y) (fun c hc => ?_)
  cases he : isEnd c with
  | false => rfl
  | true =>
    have : l.any isEnd = true := List.any_eq_true.2 ⟨c, hc, he⟩
    rw [h2] at this
    cases this
theorem parse_app (y : List UInt8) : ∀ (n : Nat) (x : List UInt8) (acc : FL), x.length < n → (parseG x acc).2 = 0 → parseG (x ++ y) acc = parseG y (parseG x acc).1 := by
  intro n
  induction n with
  | zero => intro x acc h; omega
  | succ n ih =>
    intro x acc hn h
    by_cases h0 : x = []
    · subst h0; rw [parse_nil]; rfl
    · cases hs : stepOf x with
      | none => rw [parse_none x acc h0 hs] at h; cases h
      | some p =>
        obtain ⟨l, r⟩ := p
        have hl := step_len hs
        by_cases h1 : (lineOf l).2 = 0
        · by_cases h2 : 100 ≤ acc.length
          · rw [parse_many x l r acc hs h1 h2] at h; cases h
          · rw [parse_next x l r acc hs h1 h2] at h ⊢
            rw [parse_next (x ++ y) l (r ++ y) acc (step_app y hs) h1 h2]
            exact ih r _ (by omega) h
        · rw [parse_bad x l r acc hs h1] at h; exact absurd h h1
theorem parse_pre (a : FL) : ∀ (n : Nat) (bs : List UInt8) (acc : FL), bs.length < n → ((parseG bs (a ++ acc)).2 = 42 ∧ (parseG bs (a ++ acc)).1 = []) ∨ ((parseG bs (a ++ acc)).2 = (parseG bs acc).2 ∧ ((parseG bs acc).2 = 0 → (parseG bs (a ++ acc)).1 = a ++ (parseG bs acc).1) ∧ ((parseG bs acc).2 ≠ 0 → (parseG bs (a ++ acc)).1 = [])) := by
  intro n
  induction n with
  | zero => intro x acc h; omega
  | succ n ih =>
    intro x acc hn
    by_cases h0 : x = []
    · subst h0; rw [parse_nil, parse_nil]; exact Or.inr ⟨rfl, fun _ => rfl, fun e => absurd rfl e⟩
    · cases hs : stepOf x with
      | none => rw [parse_none x _ h0 hs, parse_none x _ h0 hs]; exact Or.inr ⟨rfl, (fun e => by cases e), fun _ => rfl⟩
      | some p =>
        obtain ⟨l, r⟩ := p
        have hl := step_len hs
        by_cases h1 : (lineOf l).2 = 0
        · by_cases h2 : 100 ≤ (a ++ acc).length
          · rw [parse_many x l r _ hs h1 h2]; exact Or.inl ⟨rfl, rfl⟩
          · have h3 : ¬ 100 ≤ acc.length := by rw [List.length_append] at h2; omega
            rw [parse_next x l r _ hs h1 h2, parse_next x l r _ hs h1 h3, List.append_assoc]
            exact ih r _ (by omega)
        · rw [parse_bad x l r _ hs h1, parse_bad x l r _ hs h1]; exact Or.inr ⟨rfl, (fun e => absurd e h1), fun _ => rfl⟩
/-- what is read of x and y behind one another, where x is read -/
theorem parse_joined (x y : List UInt8) (h : (parseOf x).2 = 0) : ((parseOf (x ++ y)).2 = 42 ∧ (parseOf (x ++ y)).1 = []) ∨ ((parseOf (x ++ y)).2 ≠ 42 ∧ (parseOf (x ++ y)).2 = (parseOf y).2 ∧ ((parseOf y).2 = 0 → (parseOf (x ++ y)).1 = (parseOf x).1 ++ (parseOf y).1) ∧ ((parseOf y).2 ≠ 0 → (parseOf (x ++ y)).1 = [])) := by
  have e : parseOf (x ++ y) = parseG y ((parseOf x).1 ++ []) := by rw [List.append_nil]; exact parse_app y (x.length + 1) x [] (by omega) h
  have k := parse_pre (parseOf x).1 (y.length + 1) y [] (by omega)
  rw [← e] at k
  by_cases h42 : (parseOf (x ++ y)).2 = 42
  · exact Or.inl ⟨h42, parse_bad0 _ (by rw [h42]; decide)⟩
  · rcases k with k | k
    · exact absurd k.1 h42
    · exact Or.inr ⟨h42, k⟩
end Go.Proofs.YtfefihnmmlbfjabDoor
