/- Plain lemmas: an element of a list is trimmed and is the list of itself; tokens that are put together are read as they were. -/
import Derived.Test.YtegdbieieacalabDoorList
namespace Go.Proofs.YtegdbieieacalabDoor
open Go.RowKit
/-- from the start, having read cur, the state is q and nothing was cut -/
def Reach (c : Int) (cur : List UInt8) (q : Bool) : Prop := ∀ l, pcs c false [] (cur ++ l) = pcs c q cur l
theorem reach_nil (c : Int) : Reach c [] false := fun _ => rfl
theorem reach_single {c : Int} {cur : List UInt8} {q : Bool} (h : Reach c cur q) : pcs c false [] cur = [cur] := by
  have := h []
  rw [List.append_nil, pcs] at this
  exact this
theorem pcs_single (c : Int) : ∀ (n : Nat) (q : Bool) (cur L : List UInt8), L.length ≤ n → Reach c cur q → ∀ p ∈ pcs c q cur L, pcs c false [] p = [p] := by
  intro n
  induction n with
  | zero =>
    intro q cur L h hr p hp
    obtain rfl : L = [] := List.eq_nil_of_length_eq_zero (by omega)
    simp [pcs] at hp; subst hp; exact reach_single hr
  | succ n ih =>
    intro q cur L h hr p hp
    cases L with
    | nil => simp [pcs] at hp; subst hp; exact reach_single hr
    | cons x r =>
      have h1 : r.length ≤ n := by simp at h; exact h
      by_cases h34 : (x.toNat : Int) = 34
      · rw [pcs_quote _ _ _ _ _ h34] at hp
        refine ih _ _ _ h1 (fun l => ?_) p hp
        rw [List.append_assoc, hr]
        exact pcs_quote _ _ _ _ _ h34
      · by_cases h92 : q = true ∧ (x.toNat : Int) = 92
        · obtain ⟨rfl, h92⟩ := h92
          cases r with
          | nil =>
            rw [pcs_esc_end _ _ _ h92] at hp
            simp at hp; subst hp
            rw [hr, pcs_esc_end _ _ _ h92]
          | cons y r =>
            rw [pcs_esc _ _ _ _ h92] at hp
            refine ih _ _ _ (by simp at h1; omega) (fun l => ?_) p hp
            rw [List.append_assoc, hr]
            exact pcs_esc _ _ _ _ h92 _
        · by_cases hc : q = false ∧ (x.toNat : Int) = c
          · obtain ⟨rfl, hc⟩ := hc
            rw [pcs_cut _ _ _ _ h34 hc] at hp
            rcases List.mem_cons.1 hp with rfl | hp
            · exact reach_single hr
            · exact ih _ _ _ h1 (reach_nil c) p hp
          · rw [pcs_plain _ _ _ _ _ h34 h92 hc] at hp
            refine ih _ _ _ h1 (fun l => ?_) p hp
            rw [List.append_assoc, hr]
            exact pcs_plain _ _ _ _ _ h34 h92 hc
theorem piece_single (c : Int) (L p : List UInt8) (h : p ∈ pieces c L) : pieces c p = [p] := pcs_single c L.length false [] L (Nat.le_refl _) (reach_nil c) p h
/-- the pieces of a beginning are no more -/
theorem pcs_prefix (c : Int) (b : List UInt8) : ∀ (n : Nat) (q : Bool) (cur L : List UInt8), L.length ≤ n → (pcs c q cur L).length ≤ (pcs c q cur (L ++ b)).length := by
  have one : ∀ q cur L, 1 ≤ (pcs c q cur L).length := fun q cur L => by
    have := pcs_ne c L.length q cur L (Nat.le_refl _)
    cases h : pcs c q cur L with
    | nil => exact absurd h this
    | cons _ _ => simp
  intro n
  induction n with
  | zero =>
    intro q cur L h
    obtain rfl : L = [] := List.eq_nil_of_length_eq_zero (by omega)
    rw [pcs]; exact one _ _ _
  | succ n ih =>
    intro q cur L h
    cases L with
    | nil => rw [pcs]; exact one _ _ _
    | cons x r =>
      have h1 : r.length ≤ n := by simp at h; exact h
      rw [List.cons_append]
      by_cases h34 : (x.toNat : Int) = 34
      · rw [pcs_quote _ _ _ _ _ h34, pcs_quote _ _ _ _ _ h34]; exact ih _ _ _ h1
      · by_cases h92 : q = true ∧ (x.toNat : Int) = 92
        · obtain ⟨rfl, h92⟩ := h92
          cases r with
          | nil => rw [pcs_esc_end _ _ _ h92]; exact one _ _ _
          | cons y r => rw [List.cons_append, pcs_esc _ _ _ _ h92, pcs_esc _ _ _ _ h92]; exact ih _ _ _ (by simp at h1; omega)
        · by_cases hc : q = false ∧ (x.toNat : Int) = c
          · obtain ⟨rfl, hc⟩ := hc
            rw [pcs_cut _ _ _ _ h34 hc, pcs_cut _ _ _ _ h34 hc]
            have := ih false [] r h1
            simp only [List.length_cons]; omega
          · rw [pcs_plain _ _ _ _ _ h34 h92 hc, pcs_plain _ _ _ _ _ h34 h92 hc]; exact ih _ _ _ h1
theorem pcs_one (c : Int) : ∀ (n : Nat) (q : Bool) (cur L : List UInt8), L.length ≤ n → (pcs c q cur L).length = 1 → pcs c q cur L = [cur ++ L] := by
  intro n
  induction n with
  | zero =>
    intro q cur L h _
    obtain rfl : L = [] := List.eq_nil_of_length_eq_zero (by omega)
    rw [pcs, List.append_nil]
  | succ n ih =>
    intro q cur L h hl
    cases L with
    | nil => rw [pcs, List.append_nil]
    | cons x r =>
      have h1 : r.length ≤ n := by simp at h; exact h
      by_cases h34 : (x.toNat : Int) = 34
      · rw [pcs_quote _ _ _ _ _ h34] at hl ⊢
        rw [ih _ _ _ h1 hl]; simp
      · by_cases h92 : q = true ∧ (x.toNat : Int) = 92
        · obtain ⟨rfl, h92⟩ := h92
          cases r with
          | nil => rw [pcs_esc_end _ _ _ h92]
          | cons y r =>
            rw [pcs_esc _ _ _ _ h92] at hl ⊢
            rw [ih _ _ _ (by simp at h1; omega) hl]; simp
        · by_cases hc : q = false ∧ (x.toNat : Int) = c
          · obtain ⟨rfl, hc⟩ := hc
            rw [pcs_cut _ _ _ _ h34 hc] at hl
            exfalso
            simp only [List.length_cons] at hl
            have := pcs_ne c r.length false [] r (Nat.le_refl _)
            exact this (List.eq_nil_of_length_eq_zero (by omega))
          · rw [pcs_plain _ _ _ _ _ h34 h92 hc] at hl ⊢
            rw [ih _ _ _ h1 hl]; simp
/-- blanks ahead make no difference to how many pieces there are -/
theorem pcs_blanks : ∀ (a : List UInt8), (∀ x ∈ a, blankI (x.toNat : Int) = true) → ∀ cur m, pcs 44 false cur (a ++ m) = pcs 44 false (cur ++ a) m := by
  intro a
  induction a with
  | nil => intro _ cur m; simp
  | cons x a ih =>
    intro h cur m
    have hx := of_decide_eq_true (h x List.mem_cons_self)
    rw [List.cons_append, pcs_plain _ _ _ _ _ (by omega) (by simp) (by simp; omega), ih (fun y hy => h y (List.mem_cons_of_mem _ hy))]
    simp
theorem pcs_shift (c : Int) (a : List UInt8) : ∀ (n : Nat) (q : Bool) (cur L : List UInt8), L.length ≤ n → (pcs c q (a ++ cur) L).length = (pcs c q cur L).length := by
  intro n
  induction n with
  | zero =>
    intro q cur L h
    obtain rfl : L = [] := List.eq_nil_of_length_eq_zero (by omega)
    rw [pcs, pcs]; rfl
  | succ n ih =>
    intro q cur L h
    cases L with
    | nil => rw [pcs, pcs]; rfl
    | cons x r =>
      have h1 : r.length ≤ n := by simp at h; exact h
      by_cases h34 : (x.toNat : Int) = 34
      · rw [pcs_quote _ _ _ _ _ h34, pcs_quote _ _ _ _ _ h34, List.append_assoc]; exact ih _ _ _ h1
      · by_cases h92 : q = true ∧ (x.toNat : Int) = 92
        · obtain ⟨rfl, h92⟩ := h92
          cases r with
          | nil => rw [pcs_esc_end _ _ _ h92, pcs_esc_end _ _ _ h92]; rfl
          | cons y r => rw [pcs_esc _ _ _ _ h92, pcs_esc _ _ _ _ h92, List.append_assoc]; exact ih _ _ _ (by simp at h1; omega)
        · by_cases hc : q = false ∧ (x.toNat : Int) = c
          · obtain ⟨rfl, hc⟩ := hc
            rw [pcs_cut _ _ _ _ h34 hc, pcs_cut _ _ _ _ h34 hc]; rfl
          · rw [pcs_plain _ _ _ _ _ h34 h92 hc, pcs_plain _ _ _ _ _ h34 h92 hc, List.append_assoc]; exact ih _ _ _ h1
def blankB (x : UInt8) : Bool := ([32, 9] : List UInt8).contains x
theorem trimT_eq (p : List UInt8) : trimT p = ((p.reverse.dropWhile blankB).reverse).dropWhile blankB := rfl
theorem trim_parts (p : List UInt8) : ∃ a b, p = a ++ (trimT p ++ b) ∧ (∀ x ∈ a, blankI (x.toNat : Int) = true) := by
  obtain ⟨t, ht⟩ := List.dropWhile_suffix (l := p.reverse) blankB
  have e1 : p = (p.reverse.dropWhile blankB).reverse ++ t.reverse := by
    rw [← List.reverse_append, ht, List.reverse_reverse]
  refine ⟨((p.reverse.dropWhile blankB).reverse).takeWhile blankB, t.reverse, ?_, ?_⟩
  · rw [trimT_eq, ← List.append_assoc, List.takeWhile_append_dropWhile]; exact e1
  · intro x hx
    have := List.all_takeWhile (p := blankB) (l := (p.reverse.dropWhile blankB).reverse)
    rw [List.all_eq_true] at this
    have h2 := this x hx
    rw [← blank_is]; exact h2
theorem trim_single (p : List UInt8) (h : pieces 44 p = [p]) : pieces 44 (trimT p) = [trimT p] := by
  obtain ⟨a, b, hp, ha⟩ := trim_parts p
  unfold pieces at h ⊢
  have h1 : (pcs 44 false [] (a ++ (trimT p ++ b))).length = 1 := by rw [← hp, h]; rfl
  rw [pcs_blanks a ha] at h1
  have h2 : (pcs 44 false [] (trimT p ++ b)).length = 1 := by
    rw [← h1]
    have := pcs_shift 44 a (trimT p ++ b).length false [] (trimT p ++ b) (Nat.le_refl _)
    rw [List.append_nil] at this
    rw [List.nil_append, this]
  have h3 := pcs_prefix 44 b (trimT p).length false [] (trimT p) (Nat.le_refl _)
  have h4 : 1 ≤ (pcs 44 false [] (trimT p)).length := by
    cases e : pcs 44 false [] (trimT p) with
    | nil => exact absurd e (pcs_ne 44 _ _ _ _ (Nat.le_refl _))
    | cons _ _ => simp
  have := pcs_one 44 (trimT p).length false [] (trimT p) (Nat.le_refl _) (by omega)
  rwa [List.nil_append] at this
theorem dropWhile_head (l : List UInt8) (h : l.dropWhile blankB ≠ []) : ∃ x m, l.dropWhile blankB = x :: m ∧ blankI (x.toNat : Int) = false := by
  cases e : l.dropWhile blankB with
  | nil => exact absurd e h
  | cons x m =>
    refine ⟨x, m, rfl, ?_⟩
    have := List.head?_dropWhile_not blankB l
    rw [e] at this
    simp at this
    rw [← blank_is]
    simpa [blankB] using this
theorem trim_again (p : List UInt8) (h : trimT p ≠ []) : trimT (trimT p) = trimT p := by
  rw [trimT_eq] at h
  obtain ⟨x, m, e1, hx⟩ := dropWhile_head _ h
  have hr : p.reverse.dropWhile blankB ≠ [] := by
    intro e; rw [e] at h; exact h rfl
  obtain ⟨y, m', e2, hy⟩ := dropWhile_head _ hr
  obtain ⟨t, ht⟩ := List.dropWhile_suffix (l := (p.reverse.dropWhile blankB).reverse) blankB
  have e3 : (p.reverse.dropWhile blankB).reverse = m'.reverse ++ [y] := by rw [e2]; simp
  have e4 : ∃ m'', x :: m = m'' ++ [y] := by
    rw [e1, e3] at ht
    rcases List.eq_nil_or_concat (x :: m) with h0 | ⟨m'', z, h0⟩
    · cases h0
    · refine ⟨m'', ?_⟩
      rw [List.concat_eq_append] at h0
      rw [h0] at ht ⊢
      rw [← List.append_assoc] at ht
      have := List.append_inj_right' ht rfl
      rw [this]
  obtain ⟨m'', e4⟩ := e4
  have e5 : trimT p = x :: m := by rw [trimT_eq]; exact e1
  rw [e5]
  exact trim_both _ x y m rfl m'' e4 hx hy
theorem listOf_elem (L e : List UInt8) (h : e ∈ listOf L) : e ≠ [] ∧ trimT e = e ∧ e.length ≤ L.length ∧ listOf e = [e] := by
  unfold listOf filt at h
  obtain ⟨h1, h2⟩ := List.mem_filter.1 h
  obtain ⟨p, hp, rfl⟩ := List.mem_map.1 h1
  have hne : trimT p ≠ [] := by intro e; rw [e] at h2; simp at h2
  have ht := trim_again p hne
  refine ⟨hne, ht, ?_, ?_⟩
  · exact Nat.le_trans (trimT_len p) (pieces_mem 44 L p hp)
  · unfold listOf
    rw [trim_single p (piece_single 44 L p hp), List.map_cons, List.map_nil, ht]
    cases e : trimT p with
    | nil => exact absurd e hne
    | cons _ _ => rfl
end Go.Proofs.YtegdbieieacalabDoor
