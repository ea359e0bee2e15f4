/- Plain: sizes of what a request tells of names. -/
import Derived.Test.YtmibgcbolnpffaaDoorVrP
namespace Go.Proofs.YtmibgcbolnpffaaDoor
open Go.RowKit
theorem bulk_pcs (c : Int) : ∀ (n : Nat) (q : Bool) (cur L : List UInt8), L.length ≤ n → bulkT (pcs c q cur L) ≤ cur.length + L.length + 1 := by
  intro n
  induction n with
  | zero =>
    intro q cur L h
    obtain rfl : L = [] := List.eq_nil_of_length_eq_zero (by omega)
    simp [pcs, bulkT]
  | succ n ih =>
    intro q cur L h
    cases L with
    | nil => simp [pcs, bulkT]
    | cons x r =>
      rw [List.length_cons] at h
      by_cases h34 : (x.toNat : Int) = 34
      · rw [pcs_quote _ _ _ _ _ h34]
        have := ih (!q) (cur ++ [x]) r (by omega)
        simp at this ⊢; omega
      · by_cases h92 : q = true ∧ (x.toNat : Int) = 92
        · obtain ⟨rfl, h92⟩ := h92
          cases r with
          | nil => rw [pcs_esc_end _ _ _ h92]; simp [bulkT]
          | cons y r =>
            rw [pcs_esc _ _ _ _ h92]
            have := ih true (cur ++ [x, y]) r (by rw [List.length_cons] at h; omega)
            simp at this ⊢; omega
        · by_cases hc : q = false ∧ (x.toNat : Int) = c
          · obtain ⟨rfl, hc⟩ := hc
            rw [pcs_cut _ _ _ _ h34 hc]
            have := ih false [] r (by omega)
            simp [bulkT] at this ⊢; omega
          · rw [pcs_plain _ _ _ _ _ h34 h92 hc]
            have := ih q (cur ++ [x]) r (by omega)
            simp at this ⊢; omega
theorem bulk_listOf (l : List UInt8) : bulkT (listOf l) ≤ l.length + 1 := by
  have h1 : bulkT (pieces 44 l) ≤ l.length + 1 := by have := bulk_pcs 44 l.length false [] l (Nat.le_refl _); simpa [pieces] using this
  have h2 : ∀ ps : List Nm, bulkT (filt (ps.map trimT)) ≤ bulkT ps := by
    intro ps
    induction ps with
    | nil => simp [filt, bulkT]
    | cons p r ih =>
      have ht := trimT_len p
      unfold filt at ih ⊢
      rw [List.map_cons, List.filter_cons]
      split
      · simp only [bulkT]; omega
      · simp only [bulkT]; omega
  unfold listOf
  exact Nat.le_trans (h2 _) h1
theorem bulk_flat : ∀ vs : List Nm, bulkT (vs.flatMap listOf) ≤ bulkT vs := by
  intro vs
  induction vs with
  | nil => simp [bulkT]
  | cons v r ih =>
    have happ : ∀ a b : List Nm, bulkT (a ++ b) = bulkT a + bulkT b := by
      intro a b
      induction a with
      | nil => simp [bulkT]
      | cons x a ih => simp only [List.cons_append, bulkT, ih]; omega
    rw [List.flatMap_cons, happ]
    have := bulk_listOf v
    simp only [bulkT]
    omega
theorem bulk_els (fs : FL) (n : Nm) : bulkT (elsOf fs n) ≤ bulkF fs := Nat.le_trans (bulk_flat _) (bulk_vals fs n)
theorem tell_len (fs : FL) (n : Nm) : (tellOf fs n).length ≤ n.length + 2 + 2 * bulkF fs := by
  have h1 := commas_len (elsOf fs n)
  have h2 := bulk_els fs n
  unfold tellOf
  rw [List.length_append, lows_len, List.length_append]
  split
  · simp; omega
  · simp; omega
theorem key_len (fs : FL) : ∀ ns : List Nm, (keyV ns fs).length ≤ bulkT ns + ns.length * (2 + 2 * bulkF fs) := by
  intro ns
  induction ns with
  | nil => simp [keyV]
  | cons n r ih =>
    have h := tell_len fs n
    have e : keyV (n :: r) fs = tellOf fs n ++ keyV r fs := by simp [keyV]
    rw [e, List.length_append, List.length_cons, Nat.add_mul]
    simp only [bulkT]
    omega
theorem key_max {fs : FL} {ns : List Nm} (h1 : bulkF fs ≤ 1048576) (h2 : bulkT ns ≤ 1048576) : (keyV ns fs).length ≤ 3000000000000 := by
  have h := key_len fs ns
  have h3 := bulkT_len ns
  have h4 : ns.length * (2 + 2 * bulkF fs) ≤ 1048576 * (2 + 2 * 1048576) := Nat.mul_le_mul (by omega) (by omega)
  omega
theorem keys_max {fs : FL} {ns : List Nm} (h1 : bulkF fs ≤ 1048576) (h2 : bulkT ns ≤ 1048576) (k : Nat) : (keyV (ns.take k) fs).length ≤ 3000000000000 := key_max h1 (Nat.le_trans (bulkT_take ns k) h2)
theorem bulk_uniq (ts : List Nm) : bulkT (uniqS ts) ≤ bulkT ts := by
  have ins : ∀ (x : Nm) (l : List Nm), bulkT (insU x l) ≤ bulkT l + x.length + 1 := by
    intro x l
    induction l with
    | nil => simp [insU, bulkT]
    | cons y r ih =>
      unfold insU
      split
      · simp only [bulkT]; omega
      · split
        · simp only [bulkT]; omega
        · simp only [bulkT]; omega
  have acc : ∀ (ts o : List Nm), bulkT (ts.foldl (fun o x => insU x o) o) ≤ bulkT o + bulkT ts := by
    intro ts
    induction ts with
    | nil => intro o; simp [bulkT]
    | cons x r ih =>
      intro o
      have h1 := ih (insU x o)
      have h2 := ins x o
      rw [List.foldl_cons]
      simp only [bulkT]
      omega
  have := acc ts []
  simpa [uniqS, bulkT] using this
theorem bulk_names (fs : FL) : bulkT (namesV fs) ≤ bulkF fs := by
  unfold namesV
  split
  · refine Nat.le_trans (bulk_uniq _) ?_
    have h1 : bulkT (wordsV fs) = bulkT ((valsOf fs varyN).flatMap listOf) := by
      unfold wordsV toksOf
      generalize (valsOf fs varyN).flatMap listOf = l
      induction l with
      | nil => rfl
      | cons x r ih => simp only [List.map_cons, bulkT, lows_len, ih]
    rw [h1]
    exact Nat.le_trans (bulk_flat _) (bulk_vals fs varyN)
  · simp [bulkT]
end Go.Proofs.YtmibgcbolnpffaaDoor
