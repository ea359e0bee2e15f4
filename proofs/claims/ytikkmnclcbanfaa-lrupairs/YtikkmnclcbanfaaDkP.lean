/- Plain: a disk in the document's words: names in their order, files by their numbers, what is safe; a step, what is read, what is left. -/
import Derived.Test.YtikkmnclcbanfaaPlain
import GoSem.Op.String
namespace Go.Proofs.Ytikkmnclcbanfaa
open Go.RowKit
abbrev Nm := List UInt8
abbrev NL := List (Nm × Nat)
def lessN (a b : Nm) : Bool := Op.bytesLess a b
theorem less_nil (a : Nm) : lessN a [] = false := by cases a <;> rfl
theorem less_cons (a b : UInt8) (x y : Nm) : lessN (a :: x) (b :: y) = (decide (a < b) || (a == b && lessN x y)) := rfl
theorem less_irrefl : ∀ a : Nm, lessN a a = false := by
  intro a
  induction a with
  | nil => rfl
  | cons c r ih => rw [less_cons, ih]; simp
theorem less_trans : ∀ a b c : Nm, lessN a b = true → lessN b c = true → lessN a c = true := by
  intro a
  induction a with
  | nil =>
    intro b c h1 h2
    cases c with
    | nil => rw [less_nil] at h2; cases h2
    | cons z w => rfl
  | cons x u ih =>
    intro b c h1 h2
    cases b with
    | nil => rw [less_nil] at h1; cases h1
    | cons y v =>
      cases c with
      | nil => rw [less_nil] at h2; cases h2
      | cons z w =>
        rw [less_cons] at h1 h2 ⊢
        simp only [Bool.or_eq_true, decide_eq_true_eq, Bool.and_eq_true, beq_iff_eq] at h1 h2 ⊢
        rcases h1 with h1 | ⟨rfl, h1⟩
        · rcases h2 with h2 | ⟨rfl, h2⟩
          · exact .inl (UInt8.lt_trans h1 h2)
          · exact .inl h1
        · rcases h2 with h2 | ⟨rfl, h2⟩
          · exact .inl h2
          · exact .inr ⟨rfl, ih v w h1 h2⟩
theorem less_total : ∀ a b : Nm, a = b ∨ lessN a b = true ∨ lessN b a = true := by
  intro a
  induction a with
  | nil => intro b; cases b with
    | nil => exact .inl rfl
    | cons y v => exact .inr (.inl rfl)
  | cons x u ih =>
    intro b
    cases b with
    | nil => exact .inr (.inr rfl)
    | cons y v =>
      rw [less_cons, less_cons]
      simp only [Bool.or_eq_true, decide_eq_true_eq, Bool.and_eq_true, beq_iff_eq]
      by_cases h : x = y
      · subst h
        rcases ih v with h1 | h1 | h1
        · exact .inl (by rw [h1])
        · exact .inr (.inl (.inr ⟨rfl, h1⟩))
        · exact .inr (.inr (.inr ⟨rfl, h1⟩))
      · rcases UInt8.lt_or_lt_of_ne h with h1 | h1
        · exact .inr (.inl (.inl h1))
        · exact .inr (.inr (.inl h1))
theorem less_asymm (a b : Nm) (h : lessN a b = true) : lessN b a = false := by
  cases h2 : lessN b a with
  | false => rfl
  | true =>
    have := less_trans a b a h h2
    rw [less_irrefl] at this
    cases this
/-! names in their order -/
def SortedN (l : NL) : Prop := l.Pairwise (fun a b => lessN a.1 b.1 = true)
def delN (l : NL) (name : Nm) : NL := l.filter (fun p => decide (p.1 ≠ name))
def insN (name : Nm) (no : Nat) : NL → NL
  | [] => [(name, no)]
  | p :: r => if lessN name p.1 = true then (name, no) :: p :: r else p :: insN name no r
def putN (l : NL) (name : Nm) (no : Nat) : NL := insN name no (delN l name)
def atN (l : NL) (name : Nm) : Option Nat := (l.find? (fun p => decide (p.1 = name))).map (fun p => p.2)
theorem mem_del {l : NL} {name : Nm} {p : Nm × Nat} : p ∈ delN l name ↔ p ∈ l ∧ p.1 ≠ name := by unfold delN; simp
theorem mem_ins {name : Nm} {no : Nat} {p : Nm × Nat} : ∀ {l : NL}, p ∈ insN name no l ↔ p = (name, no) ∨ p ∈ l := by
  intro l
  induction l with
  | nil => simp [insN]
  | cons q r ih =>
    unfold insN
    split
    · simp
    · rw [List.mem_cons, ih, List.mem_cons]
      constructor
      · rintro (h | h | h)
        · exact .inr (.inl h)
        · exact .inl h
        · exact .inr (.inr h)
      · rintro (h | h | h)
        · exact .inr (.inl h)
        · exact .inl h
        · exact .inr (.inr h)
theorem sorted_del {l : NL} (h : SortedN l) (name : Nm) : SortedN (delN l name) := h.filter _
theorem sorted_ins {name : Nm} {no : Nat} : ∀ {l : NL}, SortedN l → (∀ p ∈ l, p.1 ≠ name) → SortedN (insN name no l) := by
  intro l
  induction l with
  | nil => intro _ _; exact List.pairwise_singleton _ _
  | cons q r ih =>
    intro hs hn
    obtain ⟨h1, h2⟩ := List.pairwise_cons.1 hs
    unfold insN
    split
    · rename_i hl
      refine List.pairwise_cons.2 ⟨fun p hp => ?_, hs⟩
      rcases List.mem_cons.1 hp with rfl | hp
      · exact hl
      · exact less_trans _ _ _ hl (h1 p hp)
    · rename_i hl
      refine List.pairwise_cons.2 ⟨fun p hp => ?_, ih h2 (fun p hp => hn p (List.mem_cons_of_mem _ hp))⟩
      rcases mem_ins.1 hp with rfl | hp
      · rcases less_total q.1 name with h | h | h
        · exact absurd h (hn q (List.mem_cons_self ..))
        · exact h
        · exact absurd h hl
      · exact h1 p hp
theorem sorted_put {l : NL} (h : SortedN l) (name : Nm) (no : Nat) : SortedN (putN l name no) :=
  sorted_ins (sorted_del h name) (fun _ hp => (mem_del.1 hp).2)
theorem mem_put {l : NL} {name : Nm} {no : Nat} {p : Nm × Nat} : p ∈ putN l name no ↔ p = (name, no) ∨ (p ∈ l ∧ p.1 ≠ name) := by unfold putN; rw [mem_ins, mem_del]
theorem at_some {l : NL} {name : Nm} {k : Nat} (h : atN l name = some k) : (name, k) ∈ l := by
  unfold atN at h
  obtain ⟨p, hp, rfl⟩ := Option.map_eq_some_iff.1 h
  have h1 := List.find?_some hp
  have h2 := List.mem_of_find?_eq_some hp
  simp only [decide_eq_true_eq] at h1
  rw [← h1]
  exact h2
theorem at_none {l : NL} {name : Nm} (h : atN l name = none) : ∀ p ∈ l, p.1 ≠ name := by
  unfold atN at h
  rw [Option.map_eq_none_iff, List.find?_eq_none] at h
  intro p hp e
  exact h p hp (by simpa using e)
theorem sorted_one {l : NL} (h : SortedN l) : ∀ {p q : Nm × Nat}, p ∈ l → q ∈ l → p.1 = q.1 → p = q := by
  induction l with
  | nil => intro p q hp; cases hp
  | cons x r ih =>
    intro p q hp hq e
    obtain ⟨h1, h2⟩ := List.pairwise_cons.1 h
    rcases List.mem_cons.1 hp with hp1 | hp1
    · rcases List.mem_cons.1 hq with hq1 | hq1
      · rw [hp1, hq1]
      · have := h1 q hq1
        rw [← hp1, e, less_irrefl] at this
        cases this
    · rcases List.mem_cons.1 hq with hq1 | hq1
      · have := h1 p hp1
        rw [← hq1, e, less_irrefl] at this
        cases this
      · exact ih h2 hp1 hq1 e
theorem at_mem {l : NL} (h : SortedN l) {name : Nm} {k : Nat} (hm : (name, k) ∈ l) : atN l name = some k := by
  cases e : atN l name with
  | none => exact absurd rfl (at_none e _ hm)
  | some j =>
    have := sorted_one h (at_some e) hm rfl
    simp only [Prod.mk.injEq] at this
    rw [this.2]
/-! the disk -/
def goodC (c : UInt8) : Bool := decide ((97 ≤ c.toNat ∧ c.toNat ≤ 122) ∨ (48 ≤ c.toNat ∧ c.toNat ≤ 57) ∨ c = 46 ∨ c = 45 ∨ c = 95 ∨ c = 47)
def goodN (l : Nm) : Bool := l.all goodC && (decide (1 ≤ l.length) && decide (l.length ≤ 64))
structure Dk where
  now : NL
  safe : NL
  pend : List NL
  data : List (List UInt8)
  firm : List Nat
  room : Int
  fails : List Int
  power : Int
  n : Nat
structure DOp where
  what : Int
  name : Nm
  to : Nm
  data : List UInt8
def Dk.down (s : Dk) : Bool := decide (0 ≤ s.power ∧ (s.n : Int) = s.power)
def Dk.used (s : Dk) : Nat := (s.now.map (fun p => (s.data.getD p.2 []).length)).sum
def Dk.named (s : Dk) (l : NL) : Dk := { s with now := l, pend := s.pend ++ [l] }
def Dk.fault (s : Dk) : Bool := decide (((s.n + 1 : Nat) : Int) ∈ s.fails)
/-- what a step does where nothing stands against it -/
def Dk.act (s : Dk) (o : DOp) (k : Nat) : Dk × Int :=
  if o.what = 1 then ({ s with data := s.data ++ [[]], firm := s.firm ++ [0] }.named (putN s.now o.name s.data.length), 0)
  else if o.what = 2 then (if o.data ≠ [] ∧ s.room < ((s.used + o.data.length : Nat) : Int) then (s, 92) else ({ s with data := s.data.set k (s.data.getD k [] ++ o.data) }, 0))
  else if o.what = 3 then ({ s with firm := s.firm.set k (s.data.getD k []).length }, 0)
  else if o.what = 4 then ({ s with safe := s.now, pend := [] }, 0)
  else if o.what = 5 then (if o.name = o.to then (s, 0) else (s.named (putN (delN s.now o.name) o.to k), 0))
  else (s.named (delN s.now o.name), 0)
def Dk.step (s : Dk) (o : DOp) : Dk × Int :=
  if s.down = true then (s, 93)
  else if s.fault = true then ({ s with n := s.n + 1 }, 94)
  else if (o.what ≠ 4 ∧ goodN o.name = false) ∨ (o.what = 5 ∧ goodN o.to = false) then ({ s with n := s.n + 1 }, 95)
  else match atN s.now o.name with
    | none => if o.what = 1 ∨ o.what = 4 then { s with n := s.n + 1 }.act o 0 else ({ s with n := s.n + 1 }, 90)
    | some k => if o.what = 1 then ({ s with n := s.n + 1 }, 91) else { s with n := s.n + 1 }.act o k
def Dk.read (s : Dk) (name : Nm) : List UInt8 × Int :=
  if s.down = true then ([], 93) else if goodN name = false then ([], 95) else match atN s.now name with | none => ([], 90) | some k => (s.data.getD k [], 0)
def Dk.list (s : Dk) : List Nm := if s.down = true then [] else s.now.map (fun p => p.1)
def leftNames (s : Dk) (k : Int) : NL := if k ≤ 0 then s.safe else (if s.pend = [] then s.safe else s.pend.getD (min k.toNat s.pend.length - 1) [])
def leftLen (s : Dk) (keep : List Int) (no : Nat) : Nat := min (s.data.getD no []).length (s.firm.getD no 0 + (keep.getD no 0).toNat)
def Dk.left (s : Dk) (k : Int) (keep : List Int) : List (Nm × List UInt8) := (leftNames s k).map (fun p => (p.1, (s.data.getD p.2 []).take (leftLen s keep p.2)))
/-- names in order, good, each of a file -/
def WfN (s : Dk) (l : NL) : Prop := SortedN l ∧ ∀ p ∈ l, p.2 < s.data.length ∧ goodN p.1 = true
structure Wf (s : Dk) : Prop where
  len : s.firm.length = s.data.length
  firm : ∀ i, s.firm.getD i 0 ≤ (s.data.getD i []).length
  now : WfN s s.now
  safe : WfN s s.safe
  pend : ∀ l ∈ s.pend, WfN s l
theorem wf_count {s : Dk} (h : Wf s) (n : Nat) : Wf { s with n := n } := ⟨h.len, h.firm, h.now, h.safe, h.pend⟩
theorem wfN_more {s : Dk} {l : NL} (h : WfN s l) {d : List (List UInt8)} {f : List Nat} (hd : s.data.length ≤ d.length) : WfN { s with data := d, firm := f } l := ⟨h.1, fun p hp => ⟨Nat.lt_of_lt_of_le (h.2 p hp).1 hd, (h.2 p hp).2⟩⟩
theorem wf_named {s : Dk} (h : Wf s) {l : NL} (hl : WfN s l) : Wf (s.named l) :=
  ⟨h.len, h.firm, hl, h.safe, fun x hx => by
    rcases List.mem_append.1 hx with hx | hx
    · exact h.pend x hx
    · rw [List.mem_singleton.1 hx]; exact hl⟩
theorem getD_set (l : List (List UInt8)) (k i : Nat) (x : List UInt8) : (l.set k x).getD i [] = if i = k ∧ k < l.length then x else l.getD i [] := by
  by_cases h : i = k
  · subst h
    by_cases hl : i < l.length
    · simp [List.getD, hl]
    · simp [List.getD, hl]
  · simp [List.getD, h, Ne.symm h]
theorem getD_setN (l : List Nat) (k i x : Nat) : (l.set k x).getD i 0 = if i = k ∧ k < l.length then x else l.getD i 0 := by
  by_cases h : i = k
  · subst h
    by_cases hl : i < l.length
    · simp [List.getD, hl]
    · simp [List.getD, hl]
  · simp [List.getD, h, Ne.symm h]
/-- a step keeps a disk in order -/
theorem wf_act {s : Dk} (h : Wf s) (o : DOp) (k : Nat) (hk : o.what = 1 ∨ o.what = 4 ∨ (o.name, k) ∈ s.now) (hg : o.what = 4 ∨ goodN o.name = true) (ht : o.what ≠ 5 ∨ goodN o.to = true) : Wf (s.act o k).1 := by
  unfold Dk.act
  split
  · rename_i hw
    have hl : s.data.length ≤ (s.data ++ [[]]).length := by simp
    refine wf_named (s := { s with data := s.data ++ [[]], firm := s.firm ++ [0] }) ⟨by simp [h.len], fun i => ?_, wfN_more (d := s.data ++ [[]]) (f := s.firm ++ [0]) h.now hl, wfN_more (d := s.data ++ [[]]) (f := s.firm ++ [0]) h.safe hl, fun l hx => wfN_more (d := s.data ++ [[]]) (f := s.firm ++ [0]) (h.pend l hx) hl⟩ ⟨sorted_put h.now.1 _ _, fun p hp => ?_⟩
    · rcases Nat.lt_trichotomy i s.firm.length with hi | hi | hi
      · have := h.firm i
        have hi2 : i < s.data.length := by rw [← h.len]; exact hi
        simp only [List.getD, List.getElem?_append_left hi, List.getElem?_append_left hi2]
        exact this
      · have hi2 : i = s.data.length := by rw [← h.len]; exact hi
        simp [List.getD, hi]
      · have : ¬ i < (s.firm ++ [0]).length := by simp; omega
        simp [List.getD, List.getElem?_eq_none (Nat.le_of_not_lt this)]
    · rcases mem_put.1 hp with rfl | ⟨hp, _⟩
      · refine ⟨by simp, ?_⟩
        rcases hg with hg | hg
        · rw [hw] at hg; cases hg
        · exact hg
      · exact ⟨Nat.lt_of_lt_of_le (h.now.2 p hp).1 hl, (h.now.2 p hp).2⟩
  · split
    · split
      · exact h
      · have hl : s.data.length ≤ (s.data.set k (s.data.getD k [] ++ o.data)).length := by simp
        refine ⟨by simp [h.len], fun i => ?_, wfN_more h.now hl, wfN_more h.safe hl, fun l hx => wfN_more (h.pend l hx) hl⟩
        have := h.firm i
        show s.firm.getD i 0 ≤ ((s.data.set k (s.data.getD k [] ++ o.data)).getD i []).length
        rw [getD_set]
        split
        · rename_i e
          rw [List.length_append, ← e.1]
          omega
        · exact this
    · split
      · refine ⟨by simp [h.len], fun i => ?_, ⟨h.now.1, h.now.2⟩, ⟨h.safe.1, h.safe.2⟩, fun l hx => ⟨(h.pend l hx).1, (h.pend l hx).2⟩⟩
        have := h.firm i
        show (s.firm.set k (s.data.getD k []).length).getD i 0 ≤ (s.data.getD i []).length
        rw [getD_setN]
        split
        · rename_i e; rw [e.1]; exact Nat.le_refl _
        · exact this
      · split
        · exact ⟨h.len, h.firm, h.now, h.now, fun l hx => by cases hx⟩
        · rename_i n1 n2 n3 n4
          have hm : (o.name, k) ∈ s.now := by
            rcases hk with hk | hk | hk
            · exact absurd hk n1
            · exact absurd hk n4
            · exact hk
          split
          · split
            · exact h
            · refine wf_named h ⟨sorted_put (sorted_del h.now.1 _) _ _, fun p hp => ?_⟩
              rcases mem_put.1 hp with rfl | ⟨hp, _⟩
              · refine ⟨(h.now.2 _ hm).1, ?_⟩
                rcases ht with ht | ht
                · rename_i h5 _; exact absurd h5 ht
                · exact ht
              · exact h.now.2 p (mem_del.1 hp).1
          · exact wf_named h ⟨sorted_del h.now.1 _, fun p hp => h.now.2 p (mem_del.1 hp).1⟩
theorem wf_step {s : Dk} (h : Wf s) (o : DOp) : Wf (s.step o).1 := by
  unfold Dk.step
  split
  · exact h
  · split
    · exact wf_count h _
    · split
      · exact wf_count h _
      · rename_i hn
        have hg : o.what = 4 ∨ goodN o.name = true := by
          by_cases h4 : o.what = 4
          · exact .inl h4
          · exact .inr (by cases e : goodN o.name with | true => rfl | false => exact absurd (.inl ⟨h4, e⟩) hn)
        have ht : o.what ≠ 5 ∨ goodN o.to = true := by
          by_cases h5 : o.what = 5
          · exact .inr (by cases e : goodN o.to with | true => rfl | false => exact absurd (.inr ⟨h5, e⟩) hn)
          · exact .inl h5
        split
        · split
          · rename_i hw
            refine wf_act (wf_count h _) o 0 ?_ hg ht
            rcases hw with hw | hw
            · exact .inl hw
            · exact .inr (.inl hw)
          · exact wf_count h _
        · rename_i k e
          split
          · exact wf_count h _
          · exact wf_act (wf_count h _) o k (.inr (.inr (at_some e))) hg ht
end Go.Proofs.Ytikkmnclcbanfaa
