/- Plain lemmas on how a text is cut into pieces outside of quoted stretches; nothing of the program is named here. -/
import Derived.Test.YtikokjclhpgocaaPlain
namespace Go.Proofs.Ytikokjclhpgocaa
open Go.RowKit
/-- the pieces of cur ++ l, cur being read already; q: within quotes -/
def pcs (c : Int) (q : Bool) (cur : List UInt8) : List UInt8 → List (List UInt8)
  | [] => [cur]
  | [x] => if (x.toNat : Int) = 34 then [cur ++ [x]] else if q = true ∧ (x.toNat : Int) = 92 then [cur ++ [x]] else if q = false ∧ (x.toNat : Int) = c then [cur, []] else [cur ++ [x]]
  | x :: y :: r => if (x.toNat : Int) = 34 then pcs c (!q) (cur ++ [x]) (y :: r) else if q = true ∧ (x.toNat : Int) = 92 then pcs c q (cur ++ [x, y]) r else if q = false ∧ (x.toNat : Int) = c then cur :: pcs c q [] (y :: r) else pcs c q (cur ++ [x]) (y :: r)
section
variable (c : Int) (q : Bool) (cur : List UInt8) (x : UInt8) (r : List UInt8)
theorem pcs_quote (h : (x.toNat : Int) = 34) : pcs c q cur (x :: r) = pcs c (!q) (cur ++ [x]) r := by
  cases r with
  | nil => rw [pcs, pcs, if_pos h]
  | cons y r => rw [pcs, if_pos h]
theorem pcs_esc (h : (x.toNat : Int) = 92) (y : UInt8) : pcs c true cur (x :: y :: r) = pcs c true (cur ++ [x, y]) r := by
  rw [pcs, if_neg (by omega), if_pos ⟨rfl, h⟩]
theorem pcs_esc_end (h : (x.toNat : Int) = 92) : pcs c true cur [x] = [cur ++ [x]] := by
  rw [pcs, if_neg (by omega), if_pos ⟨rfl, h⟩]
theorem pcs_cut (h34 : ¬ (x.toNat : Int) = 34) (h : (x.toNat : Int) = c) : pcs c false cur (x :: r) = cur :: pcs c false [] r := by
  cases r with
  | nil => rw [pcs, pcs, if_neg h34, if_neg (by simp), if_pos ⟨rfl, h⟩]
  | cons y r => rw [pcs, if_neg h34, if_neg (by simp), if_pos ⟨rfl, h⟩]
theorem pcs_plain (h34 : ¬ (x.toNat : Int) = 34) (h92 : ¬ (q = true ∧ (x.toNat : Int) = 92)) (hc : ¬ (q = false ∧ (x.toNat : Int) = c)) : pcs c q cur (x :: r) = pcs c q (cur ++ [x]) r := by
  cases r with
  | nil => rw [pcs, pcs, if_neg h34, if_neg h92, if_neg hc]
  | cons y r => rw [pcs, if_neg h34, if_neg h92, if_neg hc]
end
def pieces (c : Int) (L : List UInt8) : List (List UInt8) := pcs c false [] L
/-- behind some rounds: i the next byte's place, f where the piece begins -/
def RelP (c : Int) (L : List UInt8) (i f : Nat) (q : Bool) (out : List (List UInt8)) : Prop :=
  f ≤ i ∧ f ≤ L.length ∧ i ≤ L.length + 1 ∧ out.length ≤ f ∧ pieces c L = out ++ pcs c q ((L.drop f).take (i - f)) (L.drop i)
section
variable {c : Int} {L : List UInt8} {i f : Nat} {q : Bool} {out : List (List UInt8)}
theorem relP_start (c : Int) (L : List UInt8) : RelP c L 0 0 false [] := ⟨Nat.le_refl _, Nat.zero_le _, Nat.zero_le _, Nat.le_refl _, by simp [pieces]⟩
theorem seg_snoc (hf : f ≤ i) (hi : i < L.length) : (L.drop f).take (i + 1 - f) = (L.drop f).take (i - f) ++ [L[i]] := by
  rw [show i + 1 - f = (i - f) + 1 by omega, List.take_succ_eq_append_getElem (by rw [List.length_drop]; omega), List.getElem_drop]
  congr 2
  congr 1
  omega
theorem drop_cons (hi : i < L.length) : L.drop i = L[i] :: L.drop (i + 1) := List.drop_eq_getElem_cons hi
theorem relP_quote (h : RelP c L i f q out) (hi : i < L.length) (h34 : (L[i].toNat : Int) = 34) : RelP c L (i + 1) f (!q) out := by
  obtain ⟨a, b, d, e, g⟩ := h
  refine ⟨by omega, b, by omega, e, ?_⟩
  rw [g, drop_cons hi, pcs_quote _ _ _ _ _ h34, seg_snoc a hi]
theorem relP_esc (h : RelP c L i f true out) (hi : i < L.length) (h92 : (L[i].toNat : Int) = 92) : RelP c L (i + 2) f true out := by
  obtain ⟨a, b, d, e, g⟩ := h
  refine ⟨by omega, b, by omega, e, ?_⟩
  by_cases hi2 : i + 1 < L.length
  · rw [g, drop_cons hi, drop_cons hi2, pcs_esc _ _ _ _ h92, seg_snoc (i := i + 1) (by omega) hi2, seg_snoc a hi]
    simp
  · have hl : L.length = i + 1 := by omega
    rw [g, drop_cons hi, List.drop_of_length_le (by omega : L.length ≤ i + 1), pcs_esc_end _ _ _ h92, List.drop_of_length_le (by omega : L.length ≤ i + 2), pcs]
    rw [← seg_snoc a hi, List.take_of_length_le (by rw [List.length_drop]; omega), List.take_of_length_le (by rw [List.length_drop]; omega)]
theorem relP_cut (h : RelP c L i f false out) (hi : i < L.length) (h34 : ¬ (L[i].toNat : Int) = 34) (hc : (L[i].toNat : Int) = c) : RelP c L (i + 1) (i + 1) false (out ++ [(L.drop f).take (i - f)]) := by
  obtain ⟨a, b, d, e, g⟩ := h
  refine ⟨by omega, by omega, by omega, by simp; omega, ?_⟩
  rw [g, drop_cons hi, pcs_cut _ _ _ _ h34 hc]
  simp
theorem relP_plain (h : RelP c L i f q out) (hi : i < L.length) (h34 : ¬ (L[i].toNat : Int) = 34) (h92 : ¬ (q = true ∧ (L[i].toNat : Int) = 92)) (hc : ¬ (q = false ∧ (L[i].toNat : Int) = c)) : RelP c L (i + 1) f q out := by
  obtain ⟨a, b, d, e, g⟩ := h
  refine ⟨by omega, b, by omega, e, ?_⟩
  rw [g, drop_cons hi, pcs_plain _ _ _ _ _ h34 h92 hc, seg_snoc a hi]
theorem relP_done (h : RelP c L i f q out) (hi : L.length ≤ i) : pieces c L = out ++ [L.drop f] := by
  obtain ⟨a, b, d, e, g⟩ := h
  rw [g, List.drop_of_length_le hi, pcs, List.take_of_length_le (by rw [List.length_drop]; omega)]
theorem seg_len (L : List UInt8) (i f : Nat) : ((L.drop f).take (i - f)).length ≤ L.length := by
  rw [List.length_take, List.length_drop]; omega
end
theorem pcs_len (c : Int) : ∀ (n : Nat) (q : Bool) (cur L : List UInt8), L.length ≤ n → (pcs c q cur L).length ≤ L.length + 1 := by
  intro n
  induction n with
  | zero =>
    intro q cur L h
    obtain rfl : L = [] := List.eq_nil_of_length_eq_zero (by omega)
    simp [pcs]
  | succ n ih =>
    intro q cur L h
    match L, h with
    | [], _ => simp [pcs]
    | [x], _ =>
      rw [pcs]
      split
      · simp
      · split
        · simp
        · split <;> simp
    | x :: y :: r, h =>
      have h1 : (y :: r).length ≤ n := by simp at h ⊢; omega
      have h2 : r.length ≤ n := by simp at h; omega
      rw [pcs]
      split
      · have := ih (!q) (cur ++ [x]) (y :: r) h1; simp at this ⊢; omega
      · split
        · have := ih q (cur ++ [x, y]) r h2; simp at this ⊢; omega
        · split
          · have := ih q [] (y :: r) h1; simp at this ⊢; omega
          · have := ih q (cur ++ [x]) (y :: r) h1; simp at this ⊢; omega
theorem pieces_len (c : Int) (L : List UInt8) : (pieces c L).length ≤ L.length + 1 := pcs_len c L.length false [] L (Nat.le_refl _)
theorem pcs_mem (c : Int) : ∀ (n : Nat) (q : Bool) (cur L : List UInt8), L.length ≤ n → ∀ p ∈ pcs c q cur L, p.length ≤ cur.length + L.length := by
  intro n
  induction n with
  | zero =>
    intro q cur L h p hp
    obtain rfl : L = [] := List.eq_nil_of_length_eq_zero (by omega)
    simp [pcs] at hp; subst hp; simp
  | succ n ih =>
    intro q cur L h p
    match L, h with
    | [], _ => simp [pcs]; rintro rfl; exact Nat.le_refl _
    | [x], _ =>
      rw [pcs]
      split
      · simp; rintro rfl; simp
      · split
        · simp; rintro rfl; simp
        · split
          · simp; rintro (rfl | rfl) <;> simp
          · simp; rintro rfl; simp
    | x :: y :: r, h =>
      have h1 : (y :: r).length ≤ n := by simp at h ⊢; omega
      have h2 : r.length ≤ n := by simp at h; omega
      rw [pcs]
      split
      · intro hp; have := ih (!q) (cur ++ [x]) (y :: r) h1 p hp; simp at this ⊢; omega
      · split
        · intro hp; have := ih q (cur ++ [x, y]) r h2 p hp; simp at this ⊢; omega
        · split
          · intro hp
            rcases List.mem_cons.1 hp with rfl | hp
            · simp
            · have := ih q [] (y :: r) h1 p hp; simp at this ⊢; omega
          · intro hp; have := ih q (cur ++ [x]) (y :: r) h1 p hp; simp at this ⊢; omega
theorem pieces_mem (c : Int) (L p : List UInt8) (h : p ∈ pieces c L) : p.length ≤ L.length := by
  have := pcs_mem c L.length false [] L (Nat.le_refl _) p h; simpa using this
end Go.Proofs.Ytikokjclhpgocaa
