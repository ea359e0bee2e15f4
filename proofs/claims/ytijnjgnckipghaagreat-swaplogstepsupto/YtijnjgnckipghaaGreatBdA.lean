/- Plain: a disk in the document's words: names in their order, files by their numbers, what is safe; a step, what is read, what is left. Plain: a step that fails changes nothing but the count; no more bytes are seen than there is room for. Plain: the disk at its beginning; each file has one name; what is left holds a beginning of what is seen, and at least what is safe; what is safe stays. Plain: a life of Appends and Syncs alone; the document's walk over names, one by one. -/
import Derived.Test.YtijnjgnckipghaaGreatPlain
import GoSem.Op.String
namespace Go.Proofs.YtijnjgnckipghaaGreat
open Go.RowKit
abbrev Nm := List UInt8
abbrev NL := List (Nm × Nat)
def lessN (a b : Nm) : Bool := Op.bytesLess a b
theorem less_nil (a : Nm) : lessN a [] = false := by cases a <;> rfl
theorem less_cons (a b : UInt8) (x y : Nm) : lessN (a :: x) (b :: y) = (decide (a < b) || (a == b && lessN x y)) := rfl
theorem less_irrefl : ∀ a : Nm, lessN a a = false := by
  intro a
  induction a with
  | nil => rfl
  | cons c r ih => rw [less_cons, ih]; simp
theorem less_trans : ∀ a b c : Nm, lessN a b = true → lessN b c = true → lessN a c = true := by
  intro a
  induction a with
  | nil =>
    intro b c h1 h2
    cases c with
    | nil => rw [less_nil] at h2; cases h2
    | cons z w => rfl
  | cons x u ih =>
    intro b c h1 h2
    cases b with
    | nil => rw [less_nil] at h1; cases h1
    | cons y v =>
      cases c with
      | nil => rw [less_nil] at h2; cases h2
      | cons z w =>
        rw [less_cons] at h1 h2 ⊢
        simp only [Bool.or_eq_true, decide_eq_true_eq, Bool.and_eq_true, beq_iff_eq] at h1 h2 ⊢
        rcases h1 with h1 | ⟨rfl, h1⟩
        · rcases h2 with h2 | ⟨rfl, h2⟩
          · exact .inl (UInt8.lt_trans h1 h2)
          · exact .inl h1
        · rcases h2 with h2 | ⟨rfl, h2⟩
          · exact .inl h2
          · exact .inr ⟨rfl, ih v w h1 h2⟩
theorem less_total : ∀ a b : Nm, a = b ∨ lessN a b = true ∨ lessN b a = true := by
  intro a
  induction a with
  | nil => intro b; cases b with
    | nil => exact .inl rfl
    | cons y v => exact .inr (.inl rfl)
  | cons x u ih =>
    intro b
    cases b with
    | nil => exact .inr (.inr rfl)
    | cons y v =>
      rw [less_cons, less_cons]
      simp only [Bool.or_eq_true, decide_eq_true_eq, Bool.and_eq_true, beq_iff_eq]
      by_cases h : x = y
      · subst h
        rcases ih v with h1 | h1 | h1
        · exact .inl (by rw [h1])
        · exact .inr (.inl (.inr ⟨rfl, h1⟩))
        · exact .inr (.inr (.inr ⟨rfl, h1⟩))
      · rcases UInt8.lt_or_lt_of_ne h with h1 | h1
        · exact .inr (.inl (.inl h1))
        · exact .inr (.inr (.inl h1))
theorem less_asymm (a b : Nm) (h : lessN a b = true) : lessN b a = false := by
  cases h2 : lessN b a with
  | false => rfl
  | true =>
    have := less_trans a b a h h2
    rw [less_irrefl] at this
    cases this
/-! names in their order -/
def SortedN (l : NL) : Prop := l.Pairwise (fun a b => lessN a.1 b.1 = true)
def delN (l : NL) (name : Nm) : NL := l.filter (fun p => decide (p.1 ≠ name))
def insN (name : Nm) (no : Nat) : NL → NL
  | [] => [(name, no)]
  | p :: r => if lessN name p.1 = true then (name, no) :: p :: r else p :: insN name no r
def putN (l : NL) (name : Nm) (no : Nat) : NL := insN name no (delN l name)
def atN (l : NL) (name : Nm) : Option Nat := (l.find? (fun p => decide (p.1 = name))).map (fun p => p.2)
theorem mem_del {l : NL} {name : Nm} {p : Nm × Nat} : p ∈ delN l name ↔ p ∈ l ∧ p.1 ≠ name := by unfold delN; simp
theorem mem_ins {name : Nm} {no : Nat} {p : Nm × Nat} : ∀ {l : NL}, p ∈ insN name no l ↔ p = (name, no) ∨ p ∈ l := by
  intro l
  induction l with
  | nil => simp [insN]
  | cons q r ih =>
    unfold insN
    split
    · simp
    · rw [List.mem_cons, ih, List.mem_cons]
      constructor
      · rintro (h | h | h)
        · exact .inr (.inl h)
        · exact .inl h
        · exact .inr (.inr h)
      · rintro (h | h | h)
        · exact .inr (.inl h)
        · exact .inl h
        · exact .inr (.inr h)
theorem sorted_del {l : NL} (h : SortedN l) (name : Nm) : SortedN (delN l name) := h.filter _
theorem sorted_ins {name : Nm} {no : Nat} : ∀ {l : NL}, SortedN l → (∀ p ∈ l, p.1 ≠ name) → SortedN (insN name no l) := by
  intro l
  induction l with
  | nil => intro _ _; exact List.pairwise_singleton _ _
  | cons q r ih =>
    intro hs hn
    obtain ⟨h1, h2⟩ := List.pairwise_cons.1 hs
    unfold insN
    split
    · rename_i hl
      refine List.pairwise_cons.2 ⟨fun p hp => ?_, hs⟩
      rcases List.mem_cons.1 hp with rfl | hp
      · exact hl
      · exact less_trans _ _ _ hl (h1 p hp)
    · rename_i hl
      refine List.pairwise_cons.2 ⟨fun p hp => ?_, ih h2 (fun p hp => hn p (List.mem_cons_of_mem _ hp))⟩
      rcases mem_ins.1 hp with rfl | hp
      · rcases less_total q.1 name with h | h | h
        · exact absurd h (hn q (List.mem_cons_self ..))
        · exact h
        · exact absurd h hl
      · exact h1 p hp
theorem sorted_put {l : NL} (h : SortedN l) (name : Nm) (no : Nat) : SortedN (putN l name no) :=
  sorted_ins (sorted_del h name) (fun _ hp => (mem_del.1 hp).2)
theorem mem_put {l : NL} {name : Nm} {no : Nat} {p : Nm × Nat} : p ∈ putN l name no ↔ p = (name, no) ∨ (p ∈ l ∧ p.1 ≠ name) := by unfold putN; rw [mem_ins, mem_del]
theorem at_some {l : NL} {name : Nm} {k : Nat} (h : atN l name = some k) : (name, k) ∈ l := by
  unfold atN at h
  obtain ⟨p, hp, rfl⟩ := Option.map_eq_some_iff.1 h
  have h1 := List.find?_some hp
  have h2 := List.mem_of_find?_eq_some hp
  simp only [decide_eq_true_eq] at h1
  rw [← h1]
  exact h2
theorem at_none {l : NL} {name : Nm} (h : atN l name = none) : ∀ p ∈ l, p.1 ≠ name := by
  unfold atN at h
  rw [Option.map_eq_none_iff, List.find?_eq_none] at h
  intro p hp e
  exact h p hp (by simpa using e)
theorem sorted_one {l : NL} (h : SortedN l) : ∀ {p q : Nm × Nat}, p ∈ l → q ∈ l → p.1 = q.1 → p = q := by
  induction l with
  | nil => intro p q hp; cases hp
  | cons x r ih =>
    intro p q hp hq e
    obtain ⟨h1, h2⟩ := List.pairwise_cons.1 h
    rcases List.mem_cons.1 hp with hp1 | hp1
    · rcases List.mem_cons.1 hq with hq1 | hq1
      · rw [hp1, hq1]
      · have := h1 q hq1
        rw [← hp1, e, less_irrefl] at this
        cases this
    · rcases List.mem_cons.1 hq with hq1 | hq1
      · have := h1 p hp1
        rw [← hq1, e, less_irrefl] at this
        cases this
      · exact ih h2 hp1 hq1 e
theorem at_mem {l : NL} (h : SortedN l) {name : Nm} {k : Nat} (hm : (name, k) ∈ l) : atN l name = some k := by
  cases e : atN l name with
  | none => exact absurd rfl (at_none e _ hm)
  | some j =>
    have := sorted_one h (at_some e) hm rfl
    simp only [Prod.mk.injEq] at this
    rw [this.2]
/-! the disk -/
def goodC (c : UInt8) : Bool := decide ((97 ≤ c.toNat ∧ c.toNat ≤ 122) ∨ (48 ≤ c.toNat ∧ c.toNat ≤ 57) ∨ c = 46 ∨ c = 45 ∨ c = 95 ∨ c = 47)
def goodN (l : Nm) : Bool := l.all goodC && (decide (1 ≤ l.length) && decide (l.length ≤ 64))
structure Dk where
  now : NL
  safe : NL
  pend : List NL
  data : List (List UInt8)
  firm : List Nat
  room : Int
  fails : List Int
  power : Int
  n : Nat
structure DOp where
  what : Int
  name : Nm
  to : Nm
  data : List UInt8
def Dk.down (s : Dk) : Bool := decide (0 ≤ s.power ∧ (s.n : Int) = s.power)
def Dk.used (s : Dk) : Nat := (s.now.map (fun p => (s.data.getD p.2 []).length)).sum
def Dk.named (s : Dk) (l : NL) : Dk := { s with now := l, pend := s.pend ++ [l] }
def Dk.fault (s : Dk) : Bool := decide (((s.n + 1 : Nat) : Int) ∈ s.fails)
/-- what a step does where nothing stands against it -/
def Dk.act (s : Dk) (o : DOp) (k : Nat) : Dk × Int :=
  if o.what = 1 then ({ s with data := s.data ++ [[]], firm := s.firm ++ [0] }.named (putN s.now o.name s.data.length), 0)
  else if o.what = 2 then (if o.data ≠ [] ∧ s.room < ((s.used + o.data.length : Nat) : Int) then (s, 92) else ({ s with data := s.data.set k (s.data.getD k [] ++ o.data) }, 0))
  else if o.what = 3 then ({ s with firm := s.firm.set k (s.data.getD k []).length }, 0)
  else if o.what = 4 then ({ s with safe := s.now, pend := [] }, 0)
  else if o.what = 5 then (if o.name = o.to then (s, 0) else (s.named (putN (delN s.now o.name) o.to k), 0))
  else (s.named (delN s.now o.name), 0)
def Dk.step (s : Dk) (o : DOp) : Dk × Int :=
  if s.down = true then (s, 93)
  else if s.fault = true then ({ s with n := s.n + 1 }, 94)
  else if (o.what ≠ 4 ∧ goodN o.name = false) ∨ (o.what = 5 ∧ goodN o.to = false) then ({ s with n := s.n + 1 }, 95)
  else match atN s.now o.name with
    | none => if o.what = 1 ∨ o.what = 4 then { s with n := s.n + 1 }.act o 0 else ({ s with n := s.n + 1 }, 90)
    | some k => if o.what = 1 then ({ s with n := s.n + 1 }, 91) else { s with n := s.n + 1 }.act o k
def Dk.read (s : Dk) (name : Nm) : List UInt8 × Int :=
  if s.down = true then ([], 93) else if goodN name = false then ([], 95) else match atN s.now name with | none => ([], 90) | some k => (s.data.getD k [], 0)
def Dk.list (s : Dk) : List Nm := if s.down = true then [] else s.now.map (fun p => p.1)
def leftNames (s : Dk) (k : Int) : NL := if k ≤ 0 then s.safe else (if s.pend = [] then s.safe else s.pend.getD (min k.toNat s.pend.length - 1) [])
def leftLen (s : Dk) (keep : List Int) (no : Nat) : Nat := min (s.data.getD no []).length (s.firm.getD no 0 + (keep.getD no 0).toNat)
def Dk.left (s : Dk) (k : Int) (keep : List Int) : List (Nm × List UInt8) := (leftNames s k).map (fun p => (p.1, (s.data.getD p.2 []).take (leftLen s keep p.2)))
/-- names in order, good, each of a file -/
def WfN (s : Dk) (l : NL) : Prop := SortedN l ∧ ∀ p ∈ l, p.2 < s.data.length ∧ goodN p.1 = true
structure Wf (s : Dk) : Prop where
  len : s.firm.length = s.data.length
  firm : ∀ i, s.firm.getD i 0 ≤ (s.data.getD i []).length
  now : WfN s s.now
  safe : WfN s s.safe
  pend : ∀ l ∈ s.pend, WfN s l
theorem wf_count {s : Dk} (h : Wf s) (n : Nat) : Wf { s with n := n } := ⟨h.len, h.firm, h.now, h.safe, h.pend⟩
theorem wfN_more {s : Dk} {l : NL} (h : WfN s l) {d : List (List UInt8)} {f : List Nat} (hd : s.data.length ≤ d.length) : WfN { s with data := d, firm := f } l := ⟨h.1, fun p hp => ⟨Nat.lt_of_lt_of_le (h.2 p hp).1 hd, (h.2 p hp).2⟩⟩
theorem wf_named {s : Dk} (h : Wf s) {l : NL} (hl : WfN s l) : Wf (s.named l) :=
  ⟨h.len, h.firm, hl, h.safe, fun x hx => by
    rcases List.mem_append.1 hx with hx | hx
    · exact h.pend x hx
    · rw [List.mem_singleton.1 hx]; exact hl⟩
theorem getD_set (l : List (List UInt8)) (k i : Nat) (x : List UInt8) : (l.set k x).getD i [] = if i = k ∧ k < l.length then x else l.getD i [] := by
  by_cases h : i = k
  · subst h
    by_cases hl : i < l.length
    · simp [List.getD, hl]
    · simp [List.getD, hl]
  · simp [List.getD, h, Ne.symm h]
theorem getD_setN (l : List Nat) (k i x : Nat) : (l.set k x).getD i 0 = if i = k ∧ k < l.length then x else l.getD i 0 := by
  by_cases h : i = k
  · subst h
    by_cases hl : i < l.length
    · simp [List.getD, hl]
    · simp [List.getD, hl]
  · simp [List.getD, h, Ne.symm h]
/-- a step keeps a disk in order -/
theorem wf_act {s : Dk} (h : Wf s) (o : DOp) (k : Nat) (hk : o.what = 1 ∨ o.what = 4 ∨ (o.name, k) ∈ s.now) (hg : o.what = 4 ∨ goodN o.name = true) (ht : o.what ≠ 5 ∨ goodN o.to = true) : Wf (s.act o k).1 := by
  unfold Dk.act
  split
  · rename_i hw
    have hl : s.data.length ≤ (s.data ++ [[]]).length := by simp
    refine wf_named (s := { s with data := s.data ++ [[]], firm := s.firm ++ [0] }) ⟨by simp [h.len], fun i => ?_, wfN_more (d := s.data ++ [[]]) (f := s.firm ++ [0]) h.now hl, wfN_more (d := s.data ++ [[]]) (f := s.firm ++ [0]) h.safe hl, fun l hx => wfN_more (d := s.data ++ [[]]) (f := s.firm ++ [0]) (h.pend l hx) hl⟩ ⟨sorted_put h.now.1 _ _, fun p hp => ?_⟩
    · rcases Nat.lt_trichotomy i s.firm.length with hi | hi | hi
      · have := h.firm i
        have hi2 : i < s.data.length := by rw [← h.len]; exact hi
        simp only [List.getD, List.getElem?_append_left hi, List.getElem?_append_left hi2]
        exact this
      · have hi2 : i = s.data.length := by rw [← h.len]; exact hi
        simp [List.getD, hi]
      · have : ¬ i < (s.firm ++ [0]).length := by simp; omega
        simp [List.getD, List.getElem?_eq_none (Nat.le_of_not_lt this)]
    · rcases mem_put.1 hp with rfl | ⟨hp, _⟩
      · refine ⟨by simp, ?_⟩
        rcases hg with hg | hg
        · rw [hw] at hg; cases hg
        · exact hg
      · exact ⟨Nat.lt_of_lt_of_le (h.now.2 p hp).1 hl, (h.now.2 p hp).2⟩
  · split
    · split
      · exact h
      · have hl : s.data.length ≤ (s.data.set k (s.data.getD k [] ++ o.data)).length := by simp
        refine ⟨by simp [h.len], fun i => ?_, wfN_more h.now hl, wfN_more h.safe hl, fun l hx => wfN_more (h.pend l hx) hl⟩
        have := h.firm i
        show s.firm.getD i 0 ≤ ((s.data.set k (s.data.getD k [] ++ o.data)).getD i []).length
        rw [getD_set]
        split
        · rename_i e
          rw [List.length_append, ← e.1]
          omega
        · exact this
    · split
      · refine ⟨by simp [h.len], fun i => ?_, ⟨h.now.1, h.now.2⟩, ⟨h.safe.1, h.safe.2⟩, fun l hx => ⟨(h.pend l hx).1, (h.pend l hx).2⟩⟩
        have := h.firm i
        show (s.firm.set k (s.data.getD k []).length).getD i 0 ≤ (s.data.getD i []).length
        rw [getD_setN]
        split
        · rename_i e; rw [e.1]; exact Nat.le_refl _
        · exact this
      · split
        · exact ⟨h.len, h.firm, h.now, h.now, fun l hx => by cases hx⟩
        · rename_i n1 n2 n3 n4
          have hm : (o.name, k) ∈ s.now := by
            rcases hk with hk | hk | hk
            · exact absurd hk n1
            · exact absurd hk n4
            · exact hk
          split
          · split
            · exact h
            · refine wf_named h ⟨sorted_put (sorted_del h.now.1 _) _ _, fun p hp => ?_⟩
              rcases mem_put.1 hp with rfl | ⟨hp, _⟩
              · refine ⟨(h.now.2 _ hm).1, ?_⟩
                rcases ht with ht | ht
                · rename_i h5 _; exact absurd h5 ht
                · exact ht
              · exact h.now.2 p (mem_del.1 hp).1
          · exact wf_named h ⟨sorted_del h.now.1 _, fun p hp => h.now.2 p (mem_del.1 hp).1⟩
theorem wf_step {s : Dk} (h : Wf s) (o : DOp) : Wf (s.step o).1 := by
  unfold Dk.step
  split
  · exact h
  · split
    · exact wf_count h _
    · split
      · exact wf_count h _
      · rename_i hn
        have hg : o.what = 4 ∨ goodN o.name = true := by
          by_cases h4 : o.what = 4
          · exact .inl h4
          · exact .inr (by cases e : goodN o.name with | true => rfl | false => exact absurd (.inl ⟨h4, e⟩) hn)
        have ht : o.what ≠ 5 ∨ goodN o.to = true := by
          by_cases h5 : o.what = 5
          · exact .inr (by cases e : goodN o.to with | true => rfl | false => exact absurd (.inr ⟨h5, e⟩) hn)
          · exact .inl h5
        split
        · split
          · rename_i hw
            refine wf_act (wf_count h _) o 0 ?_ hg ht
            rcases hw with hw | hw
            · exact .inl hw
            · exact .inr (.inl hw)
          · exact wf_count h _
        · rename_i k e
          split
          · exact wf_count h _
          · exact wf_act (wf_count h _) o k (.inr (.inr (at_some e))) hg ht
end Go.Proofs.YtijnjgnckipghaaGreat
namespace Go.Proofs.YtijnjgnckipghaaGreat
open Go.RowKit
theorem act_bad (s : Dk) (o : DOp) (k : Nat) (h : (s.act o k).2 ≠ 0) : (s.act o k).1 = s := by
  unfold Dk.act at h ⊢
  by_cases h1 : o.what = 1
  · rw [if_pos h1] at h; exact absurd rfl h
  · rw [if_neg h1] at h ⊢
    by_cases h2 : o.what = 2
    · rw [if_pos h2] at h ⊢
      split
      · rfl
      · rename_i h3; rw [if_neg h3] at h; exact absurd rfl h
    · rw [if_neg h2] at h ⊢
      by_cases h3 : o.what = 3
      · rw [if_pos h3] at h; exact absurd rfl h
      · rw [if_neg h3] at h ⊢
        by_cases h4 : o.what = 4
        · rw [if_pos h4] at h; exact absurd rfl h
        · rw [if_neg h4] at h ⊢
          by_cases h5 : o.what = 5
          · rw [if_pos h5] at h
            split at h <;> exact absurd rfl h
          · rw [if_neg h5] at h; exact absurd rfl h
/-- a step that fails has changed nothing but the count -/
theorem step_bad (s : Dk) (o : DOp) (h : (s.step o).2 ≠ 0) : ∃ n, (s.step o).1 = { s with n := n } := by
  unfold Dk.step at h ⊢
  split
  · exact ⟨s.n, rfl⟩
  · rename_i h1
    rw [if_neg h1] at h
    split
    · exact ⟨_, rfl⟩
    · rename_i h2
      rw [if_neg h2] at h
      split
      · exact ⟨_, rfl⟩
      · rename_i h3
        rw [if_neg h3] at h
        cases e : atN s.now o.name with
        | none =>
          rw [e] at h
          simp only at h ⊢
          split
          · rename_i h4
            rw [if_pos h4] at h
            exact ⟨_, act_bad _ _ _ h⟩
          · exact ⟨_, rfl⟩
        | some k =>
          rw [e] at h
          simp only at h ⊢
          split
          · exact ⟨_, rfl⟩
          · rename_i h4
            rw [if_neg h4] at h
            exact ⟨_, act_bad _ _ _ h⟩
/-- the bytes of these names' files -/
def sumN (d : List (List UInt8)) (l : NL) : Nat := (l.map (fun p => (d.getD p.2 []).length)).sum
theorem sum_del (d : List (List UInt8)) (l : NL) (name : Nm) : sumN d (delN l name) ≤ sumN d l := by
  induction l with
  | nil => exact Nat.le_refl _
  | cons q r ih =>
    unfold delN sumN at *
    rw [List.filter_cons]
    split
    · simp only [List.map_cons, List.sum_cons]; omega
    · simp only [List.map_cons, List.sum_cons]; omega
theorem sum_out (d : List (List UInt8)) {l : NL} {name : Nm} {k : Nat} (h : (name, k) ∈ l) : sumN d (delN l name) + (d.getD k []).length ≤ sumN d l := by
  induction l with
  | nil => cases h
  | cons q r ih =>
    have hd := sum_del d r name
    rcases List.mem_cons.1 h with h1 | h1
    · have e : delN (q :: r) name = delN r name := by unfold delN; rw [List.filter_cons, ← h1]; simp
      rw [e]
      unfold sumN at *
      simp only [List.map_cons, List.sum_cons, ← h1]
      omega
    · have := ih h1
      unfold delN at *
      rw [List.filter_cons]
      split
      · unfold sumN at *
        simp only [List.map_cons, List.sum_cons]
        omega
      · unfold sumN at *
        simp only [List.map_cons, List.sum_cons]
        omega
theorem sum_ins (d : List (List UInt8)) (name : Nm) (no : Nat) : ∀ l : NL, sumN d (insN name no l) = sumN d l + (d.getD no []).length := by
  intro l
  induction l with
  | nil => simp [insN, sumN]
  | cons q r ih =>
    unfold insN
    split
    · unfold sumN; simp only [List.map_cons, List.sum_cons]; omega
    · have : sumN d (q :: insN name no r) = (d.getD q.2 []).length + sumN d (insN name no r) := by unfold sumN; simp
      rw [this, ih]
      unfold sumN
      simp only [List.map_cons, List.sum_cons]
      omega
theorem sum_put (d : List (List UInt8)) (l : NL) (name : Nm) (no : Nat) : sumN d (putN l name no) ≤ sumN d l + (d.getD no []).length := by
  unfold putN
  rw [sum_ins]
  have := sum_del d l name
  omega
theorem used_sum (s : Dk) : s.used = sumN s.data s.now := rfl
/-- each number stands once -/
def Once (l : NL) : Prop := (l.map (fun p => p.2)).Nodup
theorem sum_same {d e : List (List UInt8)} {l : NL} (h : ∀ p ∈ l, (e.getD p.2 []).length = (d.getD p.2 []).length) : sumN e l = sumN d l := by
  unfold sumN
  congr 1
  exact List.map_congr_left h
theorem sum_set {d : List (List UInt8)} {l : NL} {k : Nat} (x : List UInt8) (hk : k < d.length) (ho : Once l) : sumN (d.set k x) l ≤ sumN d l + (x.length - (d.getD k []).length) := by
  induction l with
  | nil => exact Nat.zero_le _
  | cons q r ih =>
    have ho2 : Once r := (List.nodup_cons.1 ho).2
    have hn : q.2 ∉ r.map (fun p => p.2) := (List.nodup_cons.1 ho).1
    by_cases e : q.2 = k
    · have hs : sumN (d.set k x) r = sumN d r := sum_same (fun p hp => by
        rw [getD_set, if_neg (fun h => hn (by rw [e, ← h.1]; exact List.mem_map_of_mem hp))])
      have h1 : sumN (d.set k x) (q :: r) = ((d.set k x).getD q.2 []).length + sumN (d.set k x) r := by unfold sumN; simp
      have h2 : sumN d (q :: r) = (d.getD q.2 []).length + sumN d r := by unfold sumN; simp
      rw [h1, h2, hs, getD_set, if_pos ⟨e, hk⟩, e]
      omega
    · have h1 : sumN (d.set k x) (q :: r) = ((d.set k x).getD q.2 []).length + sumN (d.set k x) r := by unfold sumN; simp
      have h2 : sumN d (q :: r) = (d.getD q.2 []).length + sumN d r := by unfold sumN; simp
      have := ih ho2
      rw [h1, h2, getD_set, if_neg (fun h => e h.1)]
      omega
/-- no more bytes are seen than before, or than there is room for -/
theorem used_act (s : Dk) (o : DOp) (k : Nat) (hk : o.what = 1 ∨ o.what = 4 ∨ ((o.name, k) ∈ s.now ∧ k < s.data.length)) (ho : Once s.now) (hw : ∀ p ∈ s.now, p.2 < s.data.length) : (s.act o k).1.used ≤ s.used ∨ (((s.act o k).1.used : Nat) : Int) ≤ s.room := by
  unfold Dk.act
  by_cases h1 : o.what = 1
  · rw [if_pos h1]
    left
    show sumN (s.data ++ [[]]) (putN s.now o.name s.data.length) ≤ sumN s.data s.now
    have a := sum_put (s.data ++ [[]]) s.now o.name s.data.length
    have b : sumN (s.data ++ [[]]) s.now = sumN s.data s.now := sum_same (fun p hp => by simp [List.getD, List.getElem?_append_left (hw p hp)])
    have c : ((s.data ++ [[]]).getD s.data.length []).length = 0 := by simp [List.getD]
    omega
  · rw [if_neg h1]
    by_cases h2 : o.what = 2
    · rw [if_pos h2]
      have hm : (o.name, k) ∈ s.now ∧ k < s.data.length := by
        rcases hk with hk | hk | hk
        · exact absurd hk h1
        · omega
        · exact hk
      split
      · exact .inl (Nat.le_refl _)
      · rename_i h3
        have a := sum_set (s.data.getD k [] ++ o.data) hm.2 ho
        rw [List.length_append] at a
        by_cases hd : o.data = []
        · left
          show sumN (s.data.set k (s.data.getD k [] ++ o.data)) s.now ≤ sumN s.data s.now
          rw [hd] at a ⊢
          simp only [List.length_nil] at a
          omega
        · right
          show ((sumN (s.data.set k (s.data.getD k [] ++ o.data)) s.now : Nat) : Int) ≤ s.room
          have b : ¬ s.room < ((s.used + o.data.length : Nat) : Int) := fun h => h3 ⟨hd, h⟩
          rw [used_sum] at b
          omega
    · rw [if_neg h2]
      by_cases h3 : o.what = 3
      · rw [if_pos h3]; exact .inl (Nat.le_refl _)
      · rw [if_neg h3]
        by_cases h4 : o.what = 4
        · rw [if_pos h4]; exact .inl (Nat.le_refl _)
        · rw [if_neg h4]
          have hm : (o.name, k) ∈ s.now := by
            rcases hk with hk | hk | hk
            · exact absurd hk h1
            · exact absurd hk h4
            · exact hk.1
          by_cases h5 : o.what = 5
          · rw [if_pos h5]
            split
            · exact .inl (Nat.le_refl _)
            · left
              show sumN s.data (putN (delN s.now o.name) o.to k) ≤ sumN s.data s.now
              have a := sum_put s.data (delN s.now o.name) o.to k
              have b := sum_out s.data hm
              omega
          · rw [if_neg h5]
            left
            exact sum_del s.data s.now o.name
end Go.Proofs.YtijnjgnckipghaaGreat
namespace Go.Proofs.YtijnjgnckipghaaGreat
open Go.RowKit
abbrev FilL := List (Nm × List UInt8)
def chainOk : List Nm → Bool
  | a :: b :: r => lessN a b && chainOk (b :: r)
  | _ => true
def filesOk (fs : FilL) : Bool := fs.all (fun f => goodN f.1) && chainOk (fs.map (fun f => f.1))
def numbered (fs : FilL) : NL := fs.zipIdx.map (fun p => (p.1.1, p.2))
def newS (fs : FilL) (room : Int) (fails : List Int) (power : Int) : Dk := ⟨numbered fs, numbered fs, [], fs.map (fun f => f.2), fs.map (fun f => f.2.length), room, fails, power, 0⟩
def newE (fs : FilL) (room : Int) : Int := if room < 0 ∨ 1073741824 < room then 131 else if filesOk fs = true then 0 else 95
theorem chain_pair : ∀ (l : List Nm), chainOk l = true → l.Pairwise (fun a b => lessN a b = true) := by
  intro l
  induction l with
  | nil => intro _; exact List.Pairwise.nil
  | cons a r ih =>
    intro h
    cases r with
    | nil => exact List.pairwise_singleton _ _
    | cons b t =>
      have h' : lessN a b = true ∧ chainOk (b :: t) = true := by simpa [chainOk] using h
      have ih' := ih h'.2
      refine List.pairwise_cons.2 ⟨fun x hx => ?_, ih'⟩
      rcases List.mem_cons.1 hx with rfl | hx
      · exact h'.1
      · exact less_trans _ _ _ h'.1 ((List.pairwise_cons.1 ih').1 x hx)
theorem pair_chain : ∀ (l : List Nm), l.Pairwise (fun a b => lessN a b = true) → chainOk l = true := by
  intro l
  induction l with
  | nil => intro _; rfl
  | cons a r ih =>
    intro h
    cases r with
    | nil => rfl
    | cons b t =>
      obtain ⟨h1, h2⟩ := List.pairwise_cons.1 h
      have : chainOk (a :: b :: t) = (lessN a b && chainOk (b :: t)) := rfl
      rw [this, h1 b (List.mem_cons_self ..), ih h2]
      rfl
theorem num_fst (fs : FilL) : (numbered fs).map (fun p => p.1) = fs.map (fun f => f.1) := by
  unfold numbered
  rw [List.map_map]
  have : ((fun p : Nm × Nat => p.1) ∘ fun p : (Nm × List UInt8) × Nat => (p.1.1, p.2)) = (fun f : Nm × List UInt8 => f.1) ∘ Prod.fst := rfl
  rw [this, ← List.map_map, List.zipIdx_map_fst]
theorem num_snd (fs : FilL) : (numbered fs).map (fun p => p.2) = List.range fs.length := by
  unfold numbered
  rw [List.map_map]
  have : ((fun p : Nm × Nat => p.2) ∘ fun p : (Nm × List UInt8) × Nat => (p.1.1, p.2)) = Prod.snd := rfl
  rw [this, List.zipIdx_map_snd, List.range_eq_range']
theorem num_len (fs : FilL) : (numbered fs).length = fs.length := by unfold numbered; simp
theorem num_get (fs : FilL) (i : Nat) (h : i < (numbered fs).length) : (numbered fs)[i] = ((fs[i]'(by rw [← num_len]; exact h)).1, i) := by
  simp only [numbered, List.getElem_map, List.getElem_zipIdx, Nat.zero_add]
theorem num_sorted {fs : FilL} (h : filesOk fs = true) : SortedN (numbered fs) := by
  unfold filesOk at h
  rw [Bool.and_eq_true] at h
  have := chain_pair _ h.2
  rw [← num_fst] at this
  exact List.pairwise_map.1 this
theorem wf_new {fs : FilL} (h : filesOk fs = true) (room : Int) (fails : List Int) (power : Int) : Wf (newS fs room fails power) ∧ Once (newS fs room fails power).now := by
  have hn : WfN (newS fs room fails power) (numbered fs) := by
    refine ⟨num_sorted h, fun p hp => ?_⟩
    obtain ⟨i, hi, rfl⟩ := List.getElem_of_mem hp
    rw [num_get]
    rw [num_len] at hi
    refine ⟨by show i < (fs.map _).length; rw [List.length_map]; exact hi, ?_⟩
    unfold filesOk at h
    rw [Bool.and_eq_true, List.all_eq_true] at h
    exact h.1 _ (List.getElem_mem _)
  refine ⟨⟨by simp [newS], fun i => ?_, hn, hn, fun l hl => by cases hl⟩, ?_⟩
  · show (fs.map (fun f => f.2.length)).getD i 0 ≤ ((fs.map (fun f => f.2)).getD i []).length
    simp only [List.getD, List.getElem?_map]
    cases fs[i]? <;> simp
  · unfold Once
    show ((numbered fs).map (fun p => p.2)).Nodup
    rw [num_snd]
    exact List.nodup_range
/-- what is left of a disk that has just begun are its files -/
theorem left_new (fs : FilL) (room : Int) (fails : List Int) (power k : Int) (keep : List Int) : (newS fs room fails power).left k keep = fs := by
  unfold Dk.left
  have e : leftNames (newS fs room fails power) k = numbered fs := by
    unfold leftNames
    split
    · rfl
    · show (if ([] : List NL) = [] then numbered fs else _) = numbered fs
      rw [if_pos rfl]
  rw [e]
  apply List.ext_getElem
  · rw [List.length_map, num_len]
  · intro i h1 h2
    rw [List.getElem_map, num_get]
    have hd : (newS fs room fails power).data.getD i [] = fs[i].2 := by
      show (fs.map (fun f => f.2)).getD i [] = _
      simp [List.getD, h2]
    have hf : (newS fs room fails power).firm.getD i 0 = fs[i].2.length := by
      show (fs.map (fun f => f.2.length)).getD i 0 = _
      simp [List.getD, h2]
    simp only [hd]
    unfold leftLen
    rw [hd, hf, Nat.min_eq_left (by omega), List.take_length]
/-- the names of what is left are names of the disk -/
theorem leftNames_wf {s : Dk} (h : Wf s) (k : Int) : WfN s (leftNames s k) := by
  unfold leftNames
  split
  · exact h.safe
  · split
    · exact h.safe
    · rename_i hp
      have hl : 0 < s.pend.length := List.length_pos_iff.2 hp
      have hi : min k.toNat s.pend.length - 1 < s.pend.length := by omega
      rw [show s.pend.getD (min k.toNat s.pend.length - 1) [] = s.pend[min k.toNat s.pend.length - 1] by simp [List.getD, hi]]
      exact h.pend _ (List.getElem_mem _)
/-- what is left makes a disk -/
theorem left_ok {s : Dk} (h : Wf s) (k : Int) (keep : List Int) : filesOk (s.left k keep) = true := by
  obtain ⟨h1, h2⟩ := leftNames_wf h k
  unfold filesOk
  rw [Bool.and_eq_true]
  refine ⟨List.all_eq_true.2 (fun f hf => ?_), ?_⟩
  · unfold Dk.left at hf
    obtain ⟨p, hp, rfl⟩ := List.mem_map.1 hf
    exact (h2 p hp).2
  · have e : (s.left k keep).map (fun f => f.1) = (leftNames s k).map (fun p => p.1) := by unfold Dk.left; rw [List.map_map]; rfl
    rw [e]
    exact pair_chain _ (List.pairwise_map.2 h1)
theorem leftLen_le (s : Dk) (h : Wf s) (keep : List Int) (no : Nat) : s.firm.getD no 0 ≤ leftLen s keep no ∧ leftLen s keep no ≤ (s.data.getD no []).length := by
  unfold leftLen
  have := h.firm no
  omega
/-- each number has one name, behind a step, too -/
theorem once_del {l : NL} (h : Once l) (name : Nm) : Once (delN l name) := by
  unfold Once delN at *
  exact List.Nodup.sublist (List.filter_sublist.map _) h
theorem once_ins {l : NL} {name : Nm} {no : Nat} (h : Once l) (hn : ∀ p ∈ l, p.2 ≠ no) : Once (insN name no l) := by
  induction l with
  | nil => unfold Once insN; simp
  | cons q r ih =>
    unfold insN
    split
    · unfold Once at *
      rw [List.map_cons, List.nodup_cons]
      refine ⟨fun hm => ?_, h⟩
      obtain ⟨p, hp, e⟩ := List.mem_map.1 hm
      exact hn p hp e
    · have h2 : Once r := (List.nodup_cons.1 h).2
      have h1 : q.2 ∉ r.map (fun p => p.2) := (List.nodup_cons.1 h).1
      have ih' := ih h2 (fun p hp => hn p (List.mem_cons_of_mem _ hp))
      unfold Once at *
      rw [List.map_cons, List.nodup_cons]
      refine ⟨fun hm => ?_, ih'⟩
      obtain ⟨p, hp, e⟩ := List.mem_map.1 hm
      rcases mem_ins.1 hp with rfl | hp
      · exact hn q (List.mem_cons_self ..) e.symm
      · exact h1 (by rw [← e]; exact List.mem_map_of_mem hp)
theorem once_out {l : NL} (ho : Once l) {name : Nm} {k : Nat} (h : (name, k) ∈ l) : ∀ p ∈ delN l name, p.2 ≠ k := by
  induction l with
  | nil => cases h
  | cons q r ih =>
    intro p hp e
    obtain ⟨h1, h2⟩ := mem_del.1 hp
    have ho2 : Once r := (List.nodup_cons.1 ho).2
    have hn : q.2 ∉ r.map (fun p => p.2) := (List.nodup_cons.1 ho).1
    rcases List.mem_cons.1 h with hq | hq
    · rcases List.mem_cons.1 h1 with h1 | h1
      · rw [h1, ← hq] at h2; exact h2 rfl
      · rw [← hq] at hn
        exact hn (by show k ∈ _; rw [← e]; exact List.mem_map_of_mem h1)
    · rcases List.mem_cons.1 h1 with h1 | h1
      · rw [← h1, e] at hn
        exact hn (List.mem_map_of_mem (f := fun p : Nm × Nat => p.2) hq)
      · exact ih ho2 hq p (mem_del.2 ⟨h1, h2⟩) e
/-- each number has one name -/
theorem once_act {s : Dk} (h : Wf s) (ho : Once s.now) (o : DOp) (k : Nat) (hk : o.what = 1 ∨ o.what = 4 ∨ (o.name, k) ∈ s.now) : Once (s.act o k).1.now := by
  unfold Dk.act
  by_cases h1 : o.what = 1
  · rw [if_pos h1]
    exact once_ins (once_del ho _) (fun p hp => by have := (h.now.2 p (mem_del.1 hp).1).1; omega)
  · rw [if_neg h1]
    by_cases h2 : o.what = 2
    · rw [if_pos h2]; split <;> exact ho
    · rw [if_neg h2]
      by_cases h3 : o.what = 3
      · rw [if_pos h3]; exact ho
      · rw [if_neg h3]
        by_cases h4 : o.what = 4
        · rw [if_pos h4]; exact ho
        · rw [if_neg h4]
          have hm : (o.name, k) ∈ s.now := by
            rcases hk with hk | hk | hk
            · exact absurd hk h1
            · exact absurd hk h4
            · exact hk
          by_cases h5 : o.what = 5
          · rw [if_pos h5]
            split
            · exact ho
            · exact once_ins (once_del (once_del ho _) _) (fun p hp => once_out ho hm p (mem_del.1 hp).1)
          · rw [if_neg h5]; exact once_del ho _
theorem step_cases (s : Dk) (o : DOp) : (∃ n, (s.step o).1 = { s with n := n }) ∨ ∃ k, (s.step o) = { s with n := s.n + 1 }.act o k ∧ (o.what = 1 ∨ o.what = 4 ∨ (o.name, k) ∈ s.now) := by
  unfold Dk.step
  split
  · exact .inl ⟨s.n, rfl⟩
  · split
    · exact .inl ⟨_, rfl⟩
    · split
      · exact .inl ⟨_, rfl⟩
      · split
        · split
          · rename_i hw
            refine .inr ⟨0, rfl, ?_⟩
            rcases hw with hw | hw
            · exact .inl hw
            · exact .inr (.inl hw)
          · exact .inl ⟨_, rfl⟩
        · rename_i k e
          split
          · exact .inl ⟨_, rfl⟩
          · exact .inr ⟨k, rfl, .inr (.inr (at_some e))⟩
theorem once_step {s : Dk} (h : Wf s) (ho : Once s.now) (o : DOp) : Once (s.step o).1.now := by
  rcases step_cases s o with ⟨n, e⟩ | ⟨k, e, hk⟩
  · rw [e]; exact ho
  · rw [e]; exact once_act (s := { s with n := s.n + 1 }) (wf_count h (s.n + 1)) ho o k hk
/-- no more bytes are seen than before the step, or than there is room for -/
theorem used_step {s : Dk} (h : Wf s) (ho : Once s.now) (o : DOp) : (s.step o).1.used ≤ s.used ∨ (((s.step o).1.used : Nat) : Int) ≤ s.room := by
  rcases step_cases s o with ⟨n, e⟩ | ⟨k, e, hk⟩
  · rw [e]; exact .inl (Nat.le_refl _)
  · rw [e]
    refine used_act { s with n := s.n + 1 } o k ?_ ho (fun p hp => (h.now.2 p hp).1)
    rcases hk with hk | hk | hk
    · exact .inl hk
    · exact .inr (.inl hk)
    · exact .inr (.inr ⟨hk, (h.now.2 _ hk).1⟩)
/-- the name has the file k in every names' list, and the file begins with 'held', all of it safe -/
structure Kept (s : Dk) (name : Nm) (k : Nat) (held : List UInt8) : Prop where
  safe : (name, k) ∈ s.safe
  now : (name, k) ∈ s.now
  pend : ∀ l ∈ s.pend, (name, k) ∈ l
  data : held <+: s.data.getD k []
  firm : held.length ≤ s.firm.getD k 0
/-- an Append, a Create leave it so -/
theorem kept_step {s : Dk} (h : Wf s) {name : Nm} {k : Nat} {held : List UInt8} (hk : Kept s name k held) (o : DOp) (hw : o.what = 1 ∨ o.what = 2) : Kept (s.step o).1 name k held := by
  have hkl := (h.now.2 _ hk.now).1
  have hfl : k < s.firm.length := by rw [h.len]; exact hkl
  rcases step_cases s o with ⟨n, e⟩ | ⟨j, e, hj⟩
  · rw [e]; exact ⟨hk.safe, hk.now, hk.pend, hk.data, hk.firm⟩
  · by_cases hone : o.what = 1
    · by_cases hn : name = o.name
      · -- there is such a file: nothing is done
        have ha : atN s.now o.name = some k := at_mem h.now.1 (by rw [← hn]; exact hk.now)
        have : ∃ n, (s.step o).1 = { s with n := n } := by
          unfold Dk.step
          split
          · exact ⟨s.n, rfl⟩
          · split
            · exact ⟨_, rfl⟩
            · split
              · exact ⟨_, rfl⟩
              · rw [ha]; simp only; first | exact ⟨_, rfl⟩ | (rw [if_pos hone]; exact ⟨_, rfl⟩)
        obtain ⟨n, e2⟩ := this
        rw [e2]; exact ⟨hk.safe, hk.now, hk.pend, hk.data, hk.firm⟩
      · rw [e]
        unfold Dk.act
        rw [if_pos hone]
        have hm : (name, k) ∈ putN s.now o.name s.data.length := mem_put.2 (.inr ⟨hk.now, hn⟩)
        refine ⟨hk.safe, hm, fun l hl => ?_, ?_, ?_⟩
        · rcases List.mem_append.1 hl with hl | hl
          · exact hk.pend l hl
          · rw [List.mem_singleton.1 hl]; exact hm
        · show held <+: (s.data ++ [[]]).getD k []
          have e9 : (s.data ++ [[]]).getD k [] = s.data.getD k [] := by simp only [List.getD, List.getElem?_append_left hkl]
          rw [e9]
          exact hk.data
        · show held.length ≤ (s.firm ++ [0]).getD k 0
          have e9 : (s.firm ++ [0]).getD k 0 = s.firm.getD k 0 := by simp only [List.getD, List.getElem?_append_left hfl]
          rw [e9]
          exact hk.firm
    · have h2 : o.what = 2 := by
        rcases hw with hw | hw
        · exact absurd hw hone
        · exact hw
      rw [e]
      unfold Dk.act
      rw [if_neg hone, if_pos h2]
      split
      · exact ⟨hk.safe, hk.now, hk.pend, hk.data, hk.firm⟩
      · refine ⟨hk.safe, hk.now, hk.pend, ?_, hk.firm⟩
        show held <+: (s.data.set j (s.data.getD j [] ++ o.data)).getD k []
        rw [getD_set]
        split
        · rename_i ej
          rw [← ej.1]
          exact List.IsPrefix.trans hk.data (List.prefix_append _ _)
        · exact hk.data
/-- so it is left by every loss of power -/
theorem kept_left {s : Dk} (h : Wf s) {name : Nm} {k : Nat} {held : List UInt8} (hk : Kept s name k held) (f : Int) (keep : List Int) : ∃ d, (name, d) ∈ s.left f keep ∧ held <+: d := by
  have hm : (name, k) ∈ leftNames s f := by
    unfold leftNames
    split
    · exact hk.safe
    · split
      · exact hk.safe
      · rename_i hp
        have hl : 0 < s.pend.length := List.length_pos_iff.2 hp
        have hi : min f.toNat s.pend.length - 1 < s.pend.length := by omega
        rw [show s.pend.getD (min f.toNat s.pend.length - 1) [] = s.pend[min f.toNat s.pend.length - 1] by simp [List.getD, hi]]
        exact hk.pend _ (List.getElem_mem _)
  refine ⟨_, List.mem_map.2 ⟨(name, k), hm, rfl⟩, ?_⟩
  have hl := leftLen_le s h keep k
  have hf := hk.firm
  obtain ⟨t, ht⟩ := hk.data
  show held <+: (s.data.getD k []).take (leftLen s keep k)
  rw [← ht, List.take_append, List.take_of_length_le (by omega)]
  exact List.prefix_append _ _
end Go.Proofs.YtijnjgnckipghaaGreat
namespace Go.Proofs.YtijnjgnckipghaaGreat
open Go.RowKit
/-- behind Appends and Syncs alone: the names are those of the beginning, each file begins with what it held, all that safe -/
structure Beg (fs : FilL) (s : Dk) : Prop where
  now : s.now = numbered fs
  safe : s.safe = numbered fs
  pend : s.pend = []
  len : s.data.length = fs.length
  flen : s.firm.length = fs.length
  data : ∀ i, (fs.map (fun f => f.2)).getD i [] <+: s.data.getD i []
  firm : ∀ i, ((fs.map (fun f => f.2)).getD i []).length ≤ s.firm.getD i 0
theorem beg_new (fs : FilL) (room : Int) (fails : List Int) (power : Int) : Beg fs (newS fs room fails power) :=
  ⟨rfl, rfl, rfl, by simp [newS], by simp [newS], fun i => List.prefix_refl _, fun i => by
    show _ ≤ (fs.map (fun f => f.2.length)).getD i 0
    simp only [List.getD, List.getElem?_map]
    cases fs[i]? <;> simp⟩
theorem beg_step {fs : FilL} {s : Dk} (h : Beg fs s) (o : DOp) (hw : o.what = 2 ∨ o.what = 3) : Beg fs (s.step o).1 := by
  rcases step_cases s o with ⟨n, e⟩ | ⟨k, e, hk⟩
  · rw [e]; exact ⟨h.now, h.safe, h.pend, h.len, h.flen, h.data, h.firm⟩
  · rw [e]
    have hm : (o.name, k) ∈ s.now := by
      rcases hk with hk | hk | hk
      · omega
      · omega
      · exact hk
    unfold Dk.act
    rw [if_neg (by omega)]
    by_cases h2 : o.what = 2
    · rw [if_pos h2]
      split
      · exact ⟨h.now, h.safe, h.pend, h.len, h.flen, h.data, h.firm⟩
      · refine ⟨h.now, h.safe, h.pend, by simp [h.len], h.flen, fun i => ?_, h.firm⟩
        show _ <+: (s.data.set k (s.data.getD k [] ++ o.data)).getD i []
        rw [getD_set]
        split
        · rename_i ej
          rw [← ej.1]
          exact List.IsPrefix.trans (h.data i) (List.prefix_append _ _)
        · exact h.data i
    · rw [if_neg h2, if_pos (by omega)]
      refine ⟨h.now, h.safe, h.pend, h.len, by simp [h.flen], h.data, fun i => ?_⟩
      show _ ≤ (s.firm.set k (s.data.getD k []).length).getD i 0
      rw [getD_setN]
      split
      · rename_i ej
        rw [← ej.1]
        exact (h.data i).length_le
      · exact h.firm i
/-- what is left then: the files of the beginning by name, each a beginning of what is seen that has what it held -/
theorem beg_left {fs : FilL} {s : Dk} (h : Beg fs s) (hw : Wf s) (k : Int) (keep : List Int) : (s.left k keep).length = fs.length ∧ (s.left k keep).map (fun f => f.1) = fs.map (fun f => f.1) ∧
    ∀ i (hi : i < (s.left k keep).length), ((s.left k keep)[i]).2 = (s.data.getD i []).take (leftLen s keep i) ∧ ((fs.map (fun f => f.2)).getD i []).length ≤ leftLen s keep i ∧ leftLen s keep i ≤ (s.data.getD i []).length := by
  have e : leftNames s k = numbered fs := by
    unfold leftNames
    rw [h.pend, if_pos rfl, h.safe]
    split <;> rfl
  have el : s.left k keep = (numbered fs).map (fun p => (p.1, (s.data.getD p.2 []).take (leftLen s keep p.2))) := by unfold Dk.left; rw [e]
  refine ⟨by rw [el, List.length_map, num_len], by rw [el, List.map_map, ← num_fst]; rfl, fun i hi => ?_⟩
  have hl := leftLen_le s hw keep i
  have hf := h.firm i
  refine ⟨?_, by omega, hl.2⟩
  simp only [el, List.getElem_map, num_get]
/-! the document's walk over names -/
def nmGo (name : Nm) (no : Nat) : NL → Bool → NL → NL
  | out, put, [] => if put = true then out else out ++ [(name, no)]
  | out, put, q :: r => if q.1 = name then nmGo name no out put r else if put = false ∧ lessN name q.1 = true then nmGo name no (out ++ [(name, no), q]) true r else nmGo name no (out ++ [q]) put r
theorem nm_true (name : Nm) (no : Nat) : ∀ (l out : NL), nmGo name no out true l = out ++ delN l name := by
  intro l
  induction l with
  | nil => intro out; simp [nmGo, delN]
  | cons q r ih =>
    intro out
    unfold nmGo
    by_cases h : q.1 = name
    · rw [if_pos h, ih]
      unfold delN
      rw [List.filter_cons, if_neg (by simp [h])]
    · rw [if_neg h, if_neg (by simp), ih]
      unfold delN
      rw [List.filter_cons, if_pos (by simp [h])]
      simp
theorem nm_false (name : Nm) (no : Nat) : ∀ (l out : NL), nmGo name no out false l = out ++ putN l name no := by
  intro l
  induction l with
  | nil => intro out; simp [nmGo, putN, delN, insN]
  | cons q r ih =>
    intro out
    unfold nmGo
    by_cases h : q.1 = name
    · rw [if_pos h, ih]
      unfold putN delN
      rw [List.filter_cons, if_neg (by simp [h])]
    · rw [if_neg h]
      have hd : delN (q :: r) name = q :: delN r name := by unfold delN; rw [List.filter_cons, if_pos (by simp [h])]
      by_cases hl : lessN name q.1 = true
      · rw [if_pos ⟨rfl, hl⟩, nm_true]
        unfold putN
        rw [hd]
        unfold insN
        rw [if_pos hl]
        simp
      · rw [if_neg (fun e => hl e.2), ih]
        unfold putN
        rw [hd]
        have : insN name no (q :: delN r name) = q :: insN name no (delN r name) := by rw [insN, if_neg hl]
        rw [this]
        simp
/-- 'greater than name', in the words of the comparison that the language makes -/
theorem gt_less (a name : Nm) (h : a ≠ name) : (!(Op.bytesLess a name || a == name)) = lessN name a := by
  have e : (a == name) = false := by simpa using h
  rw [e, Bool.or_false]
  show (!(lessN a name)) = lessN name a
  rcases less_total a name with h1 | h1 | h1
  · exact absurd h1 h
  · rw [h1, less_asymm a name h1]; rfl
  · rw [h1, less_asymm name a h1]; rfl
end Go.Proofs.YtijnjgnckipghaaGreat
