/- Plain: a step that fails changes nothing but the count; no more bytes are seen than there is room for. -/
import Derived.Test.YtikkmnclcbanfaaDkP
namespace Go.Proofs.Ytikkmnclcbanfaa
open Go.RowKit
theorem act_bad (s : Dk) (o : DOp) (k : Nat) (h : (s.act o k).2 ≠ 0) : (s.act o k).1 = s := by
  unfold Dk.act at h ⊢
  by_cases h1 : o.what = 1
  · rw [if_pos h1] at h; exact absurd rfl h
  · rw [if_neg h1] at h ⊢
    by_cases h2 : o.what = 2
    · rw [if_pos h2] at h ⊢
      split
      · rfl
      · rename_i h3; rw [if_neg h3] at h; exact absurd rfl h
    · rw [if_neg h2] at h ⊢
      by_cases h3 : o.what = 3
      · rw [if_pos h3] at h; exact absurd rfl h
      · rw [if_neg h3] at h ⊢
        by_cases h4 : o.what = 4
        · rw [if_pos h4] at h; exact absurd rfl h
        · rw [if_neg h4] at h ⊢
          by_cases h5 : o.what = 5
          · rw [if_pos h5] at h
            split at h <;> exact absurd rfl h
          · rw [if_neg h5] at h; exact absurd rfl h
/-- a step that fails has changed nothing but the count -/
theorem step_bad (s : Dk) (o : DOp) (h : (s.step o).2 ≠ 0) : ∃ n, (s.step o).1 = { s with n := n } := by
  unfold Dk.step at h ⊢
  split
  · exact ⟨s.n, rfl⟩
  · rename_i h1
    rw [if_neg h1] at h
    split
    · exact ⟨_, rfl⟩
    · rename_i h2
      rw [if_neg h2] at h
      split
      · exact ⟨_, rfl⟩
      · rename_i h3
        rw [if_neg h3] at h
        cases e : atN s.now o.name with
        | none =>
          rw [e] at h
          simp only at h ⊢
          split
          · rename_i h4
            rw [if_pos h4] at h
            exact ⟨_, act_bad _ _ _ h⟩
          · exact ⟨_, rfl⟩
        | some k =>
          rw [e] at h
          simp only at h ⊢
          split
          · exact ⟨_, rfl⟩
          · rename_i h4
            rw [if_neg h4] at h
            exact ⟨_, act_bad _ _ _ h⟩
/-- the bytes of these names' files -/
def sumN (d : List (List UInt8)) (l : NL) : Nat := (l.map (fun p => (d.getD p.2 []).length)).sum
theorem sum_del (d : List (List UInt8)) (l : NL) (name : Nm) : sumN d (delN l name) ≤ sumN d l := by
  induction l with
  | nil => exact Nat.le_refl _
  | cons q r ih =>
    unfold delN sumN at *
    rw [List.filter_cons]
    split
    · simp only [List.map_cons, List.sum_cons]; omega
    · simp only [List.map_cons, List.sum_cons]; omega
theorem sum_out (d : List (List UInt8)) {l : NL} {name : Nm} {k : Nat} (h : (name, k) ∈ l) : sumN d (delN l name) + (d.getD k []).length ≤ sumN d l := by
  induction l with
  | nil => cases h
  | cons q r ih =>
    have hd := sum_del d r name
    rcases List.mem_cons.1 h with h1 | h1
    · have e : delN (q :: r) name = delN r name := by unfold delN; rw [List.filter_cons, ← h1]; simp
      rw [e]
      unfold sumN at *
      simp only [List.map_cons, List.sum_cons, ← h1]
      omega
    · have := ih h1
      unfold delN at *
      rw [List.filter_cons]
      split
      · unfold sumN at *
        simp only [List.map_cons, List.sum_cons]
        omega
      · unfold sumN at *
        simp only [List.map_cons, List.sum_cons]
        omega
theorem sum_ins (d : List (List UInt8)) (name : Nm) (no : Nat) : ∀ l : NL, sumN d (insN name no l) = sumN d l + (d.getD no []).length := by
  intro l
  induction l with
  | nil => simp [insN, sumN]
  | cons q r ih =>
    unfold insN
    split
    · unfold sumN; simp only [List.map_cons, List.sum_cons]; omega
    · have : sumN d (q :: insN name no r) = (d.getD q.2 []).length + sumN d (insN name no r) := by unfold sumN; simp
      rw [this, ih]
      unfold sumN
      simp only [List.map_cons, List.sum_cons]
      omega
theorem sum_put (d : List (List UInt8)) (l : NL) (name : Nm) (no : Nat) : sumN d (putN l name no) ≤ sumN d l + (d.getD no []).length := by
  unfold putN
  rw [sum_ins]
  have := sum_del d l name
  omega
theorem used_sum (s : Dk) : s.used = sumN s.data s.now := rfl
/-- each number stands once -/
def Once (l : NL) : Prop := (l.map (fun p => p.2)).Nodup
theorem sum_same {d e : List (List UInt8)} {l : NL} (h : ∀ p ∈ l, (e.getD p.2 []).length = (d.getD p.2 []).length) : sumN e l = sumN d l := by
  unfold sumN
  congr 1
  exact List.map_congr_left h
theorem sum_set {d : List (List UInt8)} {l : NL} {k : Nat} (x : List UInt8) (hk : k < d.length) (ho : Once l) : sumN (d.set k x) l ≤ sumN d l + (x.length - (d.getD k []).length) := by
  induction l with
  | nil => exact Nat.zero_le _
  | cons q r ih =>
    have ho2 : Once r := (List.nodup_cons.1 ho).2
    have hn : q.2 ∉ r.map (fun p => p.2) := (List.nodup_cons.1 ho).1
    by_cases e : q.2 = k
    · have hs : sumN (d.set k x) r = sumN d r := sum_same (fun p hp => by
        rw [getD_set, if_neg (fun h => hn (by rw [e, ← h.1]; exact List.mem_map_of_mem hp))])
      have h1 : sumN (d.set k x) (q :: r) = ((d.set k x).getD q.2 []).length + sumN (d.set k x) r := by unfold sumN; simp
      have h2 : sumN d (q :: r) = (d.getD q.2 []).length + sumN d r := by unfold sumN; simp
      rw [h1, h2, hs, getD_set, if_pos ⟨e, hk⟩, e]
      omega
    · have h1 : sumN (d.set k x) (q :: r) = ((d.set k x).getD q.2 []).length + sumN (d.set k x) r := by unfold sumN; simp
      have h2 : sumN d (q :: r) = (d.getD q.2 []).length + sumN d r := by unfold sumN; simp
      have := ih ho2
      rw [h1, h2, getD_set, if_neg (fun h => e h.1)]
      omega
/-- no more bytes are seen than before, or than there is room for -/
theorem used_act (s : Dk) (o : DOp) (k : Nat) (hk : o.what = 1 ∨ o.what = 4 ∨ ((o.name, k) ∈ s.now ∧ k < s.data.length)) (ho : Once s.now) (hw : ∀ p ∈ s.now, p.2 < s.data.length) : (s.act o k).1.used ≤ s.used ∨ (((s.act o k).1.used : Nat) : Int) ≤ s.room := by
  unfold Dk.act
  by_cases h1 : o.what = 1
  · rw [if_pos h1]
    left
    show sumN (s.data ++ [[]]) (putN s.now o.name s.data.length) ≤ sumN s.data s.now
    have a := sum_put (s.data ++ [[]]) s.now o.name s.data.length
    have b : sumN (s.data ++ [[]]) s.now = sumN s.data s.now := sum_same (fun p hp => by simp [List.getD, List.getElem?_append_left (hw p hp)])
    have c : ((s.data ++ [[]]).getD s.data.length []).length = 0 := by simp [List.getD]
    omega
  · rw [if_neg h1]
    by_cases h2 : o.what = 2
    · rw [if_pos h2]
      have hm : (o.name, k) ∈ s.now ∧ k < s.data.length := by
        rcases hk with hk | hk | hk
        · exact absurd hk h1
        · omega
        · exact hk
      split
      · exact .inl (Nat.le_refl _)
      · rename_i h3
        have a := sum_set (s.data.getD k [] ++ o.data) hm.2 ho
        rw [List.length_append] at a
        by_cases hd : o.data = []
        · left
          show sumN (s.data.set k (s.data.getD k [] ++ o.data)) s.now ≤ sumN s.data s.now
          rw [hd] at a ⊢
          simp only [List.length_nil] at a
          omega
        · right
          show ((sumN (s.data.set k (s.data.getD k [] ++ o.data)) s.now : Nat) : Int) ≤ s.room
          have b : ¬ s.room < ((s.used + o.data.length : Nat) : Int) := fun h => h3 ⟨hd, h⟩
          rw [used_sum] at b
          omega
    · rw [if_neg h2]
      by_cases h3 : o.what = 3
      · rw [if_pos h3]; exact .inl (Nat.le_refl _)
      · rw [if_neg h3]
        by_cases h4 : o.what = 4
        · rw [if_pos h4]; exact .inl (Nat.le_refl _)
        · rw [if_neg h4]
          have hm : (o.name, k) ∈ s.now := by
            rcases hk with hk | hk | hk
            · exact absurd hk h1
            · exact absurd hk h4
            · exact hk.1
          by_cases h5 : o.what = 5
          · rw [if_pos h5]
            split
            · exact .inl (Nat.le_refl _)
            · left
              show sumN s.data (putN (delN s.now o.name) o.to k) ≤ sumN s.data s.now
              have a := sum_put s.data (delN s.now o.name) o.to k
              have b := sum_out s.data hm
              omega
          · rw [if_neg h5]
            left
            exact sum_del s.data s.now o.name
end Go.Proofs.Ytikkmnclcbanfaa
