/- Plain: the disk at its beginning; each file has one name; what is left holds a beginning of what is seen, and at least what is safe; what is safe stays. -/
import Derived.Test.YtikkmnclcbanfaaDkQ
namespace Go.Proofs.Ytikkmnclcbanfaa
open Go.RowKit
abbrev FilL := List (Nm × List UInt8)
def chainOk : List Nm → Bool
  | a :: b :: r => lessN a b && chainOk (b :: r)
  | _ => true
def filesOk (fs : FilL) : Bool := fs.all (fun f => goodN f.1) && chainOk (fs.map (fun f => f.1))
def numbered (fs : FilL) : NL := fs.zipIdx.map (fun p => (p.1.1, p.2))
def newS (fs : FilL) (room : Int) (fails : List Int) (power : Int) : Dk := ⟨numbered fs, numbered fs, [], fs.map (fun f => f.2), fs.map (fun f => f.2.length), room, fails, power, 0⟩
def newE (fs : FilL) (room : Int) : Int := if room < 0 ∨ 1073741824 < room then 131 else if filesOk fs = true then 0 else 95
theorem chain_pair : ∀ (l : List Nm), chainOk l = true → l.Pairwise (fun a b => lessN a b = true) := by
  intro l
  induction l with
  | nil => intro _; exact List.Pairwise.nil
  | cons a r ih =>
    intro h
    cases r with
    | nil => exact List.pairwise_singleton _ _
    | cons b t =>
      have h' : lessN a b = true ∧ chainOk (b :: t) = true := by simpa [chainOk] using h
      have ih' := ih h'.2
      refine List.pairwise_cons.2 ⟨fun x hx => ?_, ih'⟩
      rcases List.mem_cons.1 hx with rfl | hx
      · exact h'.1
      · exact less_trans _ _ _ h'.1 ((List.pairwise_cons.1 ih').1 x hx)
theorem pair_chain : ∀ (l : List Nm), l.Pairwise (fun a b => lessN a b = true) → chainOk l = true := by
  intro l
  induction l with
  | nil => intro _; rfl
  | cons a r ih =>
    intro h
    cases r with
    | nil => rfl
    | cons b t =>
      obtain ⟨h1, h2⟩ := List.pairwise_cons.1 h
      have : chainOk (a :: b :: t) = (lessN a b && chainOk (b :: t)) := rfl
      rw [this, h1 b (List.mem_cons_self ..), ih h2]
      rfl
theorem num_fst (fs : FilL) : (numbered fs).map (fun p => p.1) = fs.map (fun f => f.1) := by
  unfold numbered
  rw [List.map_map]
  have : ((fun p : Nm × Nat => p.1) ∘ fun p : (Nm × List UInt8) × Nat => (p.1.1, p.2)) = (fun f : Nm × List UInt8 => f.1) ∘ Prod.fst := rfl
  rw [this, ← List.map_map, List.zipIdx_map_fst]
theorem num_snd (fs : FilL) : (numbered fs).map (fun p => p.2) = List.range fs.length := by
  unfold numbered
  rw [List.map_map]
  have : ((fun p : Nm × Nat => p.2) ∘ fun p : (Nm × List UInt8) × Nat => (p.1.1, p.2)) = Prod.snd := rfl
  rw [this, List.zipIdx_map_snd, List.range_eq_range']
theorem num_len (fs : FilL) : (numbered fs).length = fs.length := by unfold numbered; simp
theorem num_get (fs : FilL) (i : Nat) (h : i < (numbered fs).length) : (numbered fs)[i] = ((fs[i]'(by rw [← num_len]; exact h)).1, i) := by
  simp only [numbered, List.getElem_map, List.getElem_zipIdx, Nat.zero_add]
theorem num_sorted {fs : FilL} (h : filesOk fs = true) : SortedN (numbered fs) := by
  unfold filesOk at h
  rw [Bool.and_eq_true] at h
  have := chain_pair _ h.2
  rw [← num_fst] at this
  exact List.pairwise_map.1 this
theorem wf_new {fs : FilL} (h : filesOk fs = true) (room : Int) (fails : List Int) (power : Int) : Wf (newS fs room fails power) ∧ Once (newS fs room fails power).now := by
  have hn : WfN (newS fs room fails power) (numbered fs) := by
    refine ⟨num_sorted h, fun p hp => ?_⟩
    obtain ⟨i, hi, rfl⟩ := List.getElem_of_mem hp
    rw [num_get]
    rw [num_len] at hi
    refine ⟨by show i < (fs.map _).length; rw [List.length_map]; exact hi, ?_⟩
    unfold filesOk at h
    rw [Bool.and_eq_true, List.all_eq_true] at h
    exact h.1 _ (List.getElem_mem _)
  refine ⟨⟨by simp [newS], fun i => ?_, hn, hn, fun l hl => by cases hl⟩, ?_⟩
  · show (fs.map (fun f => f.2.length)).getD i 0 ≤ ((fs.map (fun f => f.2)).getD i []).length
    simp only [List.getD, List.getElem?_map]
    cases fs[i]? <;> simp
  · unfold Once
    show ((numbered fs).map (fun p => p.2)).Nodup
    rw [num_snd]
    exact List.nodup_range
/-- what is left of a disk that has just begun are its files -/
theorem left_new (fs : FilL) (room : Int) (fails : List Int) (power k : Int) (keep : List Int) : (newS fs room fails power).left k keep = fs := by
  unfold Dk.left
  have e : leftNames (newS fs room fails power) k = numbered fs := by
    unfold leftNames
    split
    · rfl
    · show (if ([] : List NL) = [] then numbered fs else _) = numbered fs
      rw [if_pos rfl]
  rw [e]
  apply List.ext_getElem
  · rw [List.length_map, num_len]
  · intro i h1 h2
    rw [List.getElem_map, num_get]
    have hd : (newS fs room fails power).data.getD i [] = fs[i].2 := by
      show (fs.map (fun f => f.2)).getD i [] = _
      simp [List.getD, h2]
    have hf : (newS fs room fails power).firm.getD i 0 = fs[i].2.length := by
      show (fs.map (fun f => f.2.length)).getD i 0 = _
      simp [List.getD, h2]
    simp only [hd]
    unfold leftLen
    rw [hd, hf, Nat.min_eq_left (by omega), List.take_length]
/-- the names of what is left are names of the disk -/
theorem leftNames_wf {s : Dk} (h : Wf s) (k : Int) : WfN s (leftNames s k) := by
  unfold leftNames
  split
  · exact h.safe
  · split
    · exact h.safe
    · rename_i hp
      have hl : 0 < s.pend.length := List.length_pos_iff.2 hp
      have hi : min k.toNat s.pend.length - 1 < s.pend.length := by omega
      rw [show s.pend.getD (min k.toNat s.pend.length - 1) [] = s.pend[min k.toNat s.pend.length - 1] by simp [List.getD, hi]]
      exact h.pend _ (List.getElem_mem _)
/-- what is left makes a disk -/
theorem left_ok {s : Dk} (h : Wf s) (k : Int) (keep : List Int) : filesOk (s.left k keep) = true := by
  obtain ⟨h1, h2⟩ := leftNames_wf h k
  unfold filesOk
  rw [Bool.and_eq_true]
  refine ⟨List.all_eq_true.2 (fun f hf => ?_), ?_⟩
  · unfold Dk.left at hf
    obtain ⟨p, hp, rfl⟩ := List.mem_map.1 hf
    exact (h2 p hp).2
  · have e : (s.left k keep).map (fun f => f.1) = (leftNames s k).map (fun p => p.1) := by unfold Dk.left; rw [List.map_map]; rfl
    rw [e]
    exact pair_chain _ (List.pairwise_map.2 h1)
theorem leftLen_le (s : Dk) (h : Wf s) (keep : List Int) (no : Nat) : s.firm.getD no 0 ≤ leftLen s keep no ∧ leftLen s keep no ≤ (s.data.getD no []).length := by
  unfold leftLen
  have := h.firm no
  omega
/-- each number has one name, behind a step, too -/
theorem once_del {l : NL} (h : Once l) (name : Nm) : Once (delN l name) := by
  unfold Once delN at *
  exact List.Nodup.sublist (List.filter_sublist.map _) h
theorem once_ins {l : NL} {name : Nm} {no : Nat} (h : Once l) (hn : ∀ p ∈ l, p.2 ≠ no) : Once (insN name no l) := by
  induction l with
  | nil => unfold Once insN; simp
  | cons q r ih =>
    unfold insN
    split
    · unfold Once at *
      rw [List.map_cons, List.nodup_cons]
      refine ⟨fun hm => ?_, h⟩
      obtain ⟨p, hp, e⟩ := List.mem_map.1 hm
      exact hn p hp e
    · have h2 : Once r := (List.nodup_cons.1 h).2
      have h1 : q.2 ∉ r.map (fun p => p.2) := (List.nodup_cons.1 h).1
      have ih' := ih h2 (fun p hp => hn p (List.mem_cons_of_mem _ hp))
      unfold Once at *
      rw [List.map_cons, List.nodup_cons]
      refine ⟨fun hm => ?_, ih'⟩
      obtain ⟨p, hp, e⟩ := List.mem_map.1 hm
      rcases mem_ins.1 hp with rfl | hp
      · exact hn q (List.mem_cons_self ..) e.symm
      · exact h1 (by rw [← e]; exact List.mem_map_of_mem hp)
theorem once_out {l : NL} (ho : Once l) {name : Nm} {k : Nat} (h : (name, k) ∈ l) : ∀ p ∈ delN l name, p.2 ≠ k := by
  induction l with
  | nil => cases h
  | cons q r ih =>
    intro p hp e
    obtain ⟨h1, h2⟩ := mem_del.1 hp
    have ho2 : Once r := (List.nodup_cons.1 ho).2
    have hn : q.2 ∉ r.map (fun p => p.2) := (List.nodup_cons.1 ho).1
    rcases List.mem_cons.1 h with hq | hq
    · rcases List.mem_cons.1 h1 with h1 | h1
      · rw [h1, ← hq] at h2; exact h2 rfl
      · rw [← hq] at hn
        exact hn (by show k ∈ _; rw [← e]; exact List.mem_map_of_mem h1)
    · rcases List.mem_cons.1 h1 with h1 | h1
      · rw [← h1, e] at hn
        exact hn (List.mem_map_of_mem (f := fun p : Nm × Nat => p.2) hq)
      · exact ih ho2 hq p (mem_del.2 ⟨h1, h2⟩) e
/-- each number has one name -/
theorem once_act {s : Dk} (h : Wf s) (ho : Once s.now) (o : DOp) (k : Nat) (hk : o.what = 1 ∨ o.what = 4 ∨ (o.name, k) ∈ s.now) : Once (s.act o k).1.now := by
  unfold Dk.act
  by_cases h1 : o.what = 1
  · rw [if_pos h1]
    exact once_ins (once_del ho _) (fun p hp => by have := (h.now.2 p (mem_del.1 hp).1).1; omega)
  · rw [if_neg h1]
    by_cases h2 : o.what = 2
    · rw [if_pos h2]; split <;> exact ho
    · rw [if_neg h2]
      by_cases h3 : o.what = 3
      · rw [if_pos h3]; exact ho
      · rw [if_neg h3]
        by_cases h4 : o.what = 4
        · rw [if_pos h4]; exact ho
        · rw [if_neg h4]
          have hm : (o.name, k) ∈ s.now := by
            rcases hk with hk | hk | hk
            · exact absurd hk h1
            · exact absurd hk h4
            · exact hk
          by_cases h5 : o.what = 5
          · rw [if_pos h5]
            split
            · exact ho
            · exact once_ins (once_del (once_del ho _) _) (fun p hp => once_out ho hm p (mem_del.1 hp).1)
          · rw [if_neg h5]; exact once_del ho _
theorem step_cases (s : Dk) (o : DOp) : (∃ n, (s.step o).1 = { s with n := n }) ∨ ∃ k, (s.step o) = { s with n := s.n + 1 }.act o k ∧ (o.what = 1 ∨ o.what = 4 ∨ (o.name, k) ∈ s.now) := by
  unfold Dk.step
  split
  · exact .inl ⟨s.n, rfl⟩
  · split
    · exact .inl ⟨_, rfl⟩
    · split
      · exact .inl ⟨_, rfl⟩
      · split
        · split
          · rename_i hw
            refine .inr ⟨0, rfl, ?_⟩
            rcases hw with hw | hw
            · exact .inl hw
            · exact .inr (.inl hw)
          · exact .inl ⟨_, rfl⟩
        · rename_i k e
          split
          · exact .inl ⟨_, rfl⟩
          · exact .inr ⟨k, rfl, .inr (.inr (at_some e))⟩
theorem once_step {s : Dk} (h : Wf s) (ho : Once s.now) (o : DOp) : Once (s.step o).1.now := by
  rcases step_cases s o with ⟨n, e⟩ | ⟨k, e, hk⟩
  · rw [e]; exact ho
  · rw [e]; exact once_act (s := { s with n := s.n + 1 }) (wf_count h (s.n + 1)) ho o k hk
/-- no more bytes are seen than before the step, or than there is room for -/
theorem used_step {s : Dk} (h : Wf s) (ho : Once s.now) (o : DOp) : (s.step o).1.used ≤ s.used ∨ (((s.step o).1.used : Nat) : Int) ≤ s.room := by
  rcases step_cases s o with ⟨n, e⟩ | ⟨k, e, hk⟩
  · rw [e]; exact .inl (Nat.le_refl _)
  · rw [e]
    refine used_act { s with n := s.n + 1 } o k ?_ ho (fun p hp => (h.now.2 p hp).1)
    rcases hk with hk | hk | hk
    · exact .inl hk
    · exact .inr (.inl hk)
    · exact .inr (.inr ⟨hk, (h.now.2 _ hk).1⟩)
/-- the name has the file k in every names' list, and the file begins with 'held', all of it safe -/
structure Kept (s : Dk) (name : Nm) (k : Nat) (held : List UInt8) : Prop where
  safe : (name, k) ∈ s.safe
  now : (name, k) ∈ s.now
  pend : ∀ l ∈ s.pend, (name, k) ∈ l
  data : held <+: s.data.getD k []
  firm : held.length ≤ s.firm.getD k 0
/-- an Append, a Create leave it so -/
theorem kept_step {s : Dk} (h : Wf s) {name : Nm} {k : Nat} {held : List UInt8} (hk : Kept s name k held) (o : DOp) (hw : o.what = 1 ∨ o.what = 2) : Kept (s.step o).1 name k held := by
  have hkl := (h.now.2 _ hk.now).1
  have hfl : k < s.firm.length := by rw [h.len]; exact hkl
  rcases step_cases s o with ⟨n, e⟩ | ⟨j, e, hj⟩
  · rw [e]; exact ⟨hk.safe, hk.now, hk.pend, hk.data, hk.firm⟩
  · by_cases hone : o.what = 1
    · by_cases hn : name = o.name
      · -- there is such a file: nothing is done
        have ha : atN s.now o.name = some k := at_mem h.now.1 (by rw [← hn]; exact hk.now)
        have : ∃ n, (s.step o).1 = { s with n := n } := by
          unfold Dk.step
          split
          · exact ⟨s.n, rfl⟩
          · split
            · exact ⟨_, rfl⟩
            · split
              · exact ⟨_, rfl⟩
              · rw [ha]; simp only; first | exact ⟨_, rfl⟩ | (rw [if_pos hone]; exact ⟨_, rfl⟩)
        obtain ⟨n, e2⟩ := this
        rw [e2]; exact ⟨hk.safe, hk.now, hk.pend, hk.data, hk.firm⟩
      · rw [e]
        unfold Dk.act
        rw [if_pos hone]
        have hm : (name, k) ∈ putN s.now o.name s.data.length := mem_put.2 (.inr ⟨hk.now, hn⟩)
        refine ⟨hk.safe, hm, fun l hl => ?_, ?_, ?_⟩
        · rcases List.mem_append.1 hl with hl | hl
          · exact hk.pend l hl
          · rw [List.mem_singleton.1 hl]; exact hm
        · show held <+: (s.data ++ [[]]).getD k []
          have e9 : (s.data ++ [[]]).getD k [] = s.data.getD k [] := by simp only [List.getD, List.getElem?_append_left hkl]
          rw [e9]
          exact hk.data
        · show held.length ≤ (s.firm ++ [0]).getD k 0
          have e9 : (s.firm ++ [0]).getD k 0 = s.firm.getD k 0 := by simp only [List.getD, List.getElem?_append_left hfl]
          rw [e9]
          exact hk.firm
    · have h2 : o.what = 2 := by
        rcases hw with hw | hw
        · exact absurd hw hone
        · exact hw
      rw [e]
      unfold Dk.act
      rw [if_neg hone, if_pos h2]
      split
      · exact ⟨hk.safe, hk.now, hk.pend, hk.data, hk.firm⟩
      · refine ⟨hk.safe, hk.now, hk.pend, ?_, hk.firm⟩
        show held <+: (s.data.set j (s.data.getD j [] ++ o.data)).getD k []
        rw [getD_set]
        split
        · rename_i ej
          rw [← ej.1]
          exact List.IsPrefix.trans hk.data (List.prefix_append _ _)
        · exact hk.data
/-- so it is left by every loss of power -/
theorem kept_left {s : Dk} (h : Wf s) {name : Nm} {k : Nat} {held : List UInt8} (hk : Kept s name k held) (f : Int) (keep : List Int) : ∃ d, (name, d) ∈ s.left f keep ∧ held <+: d := by
  have hm : (name, k) ∈ leftNames s f := by
    unfold leftNames
    split
    · exact hk.safe
    · split
      · exact hk.safe
      · rename_i hp
        have hl : 0 < s.pend.length := List.length_pos_iff.2 hp
        have hi : min f.toNat s.pend.length - 1 < s.pend.length := by omega
        rw [show s.pend.getD (min f.toNat s.pend.length - 1) [] = s.pend[min f.toNat s.pend.length - 1] by simp [List.getD, hi]]
        exact hk.pend _ (List.getElem_mem _)
  refine ⟨_, List.mem_map.2 ⟨(name, k), hm, rfl⟩, ?_⟩
  have hl := leftLen_le s h keep k
  have hf := hk.firm
  obtain ⟨t, ht⟩ := hk.data
  show held <+: (s.data.getD k []).take (leftLen s keep k)
  rw [← ht, List.take_append, List.take_of_length_le (by omega)]
  exact List.prefix_append _ _
end Go.Proofs.Ytikkmnclcbanfaa
