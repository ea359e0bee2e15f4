/- Plain: the names that Vary tells, rising, each once; what a request tells of them. -/
import Derived.Test.YtmibgcbolnpffaaDoorNmO
import Derived.Test.YtmibgcbolnpffaaDoorBm
import Derived.Sort.KeysCollected
import Derived.Lib.SlicesCompact
import Derived.Lib.Join
namespace Go.Proofs.YtmibgcbolnpffaaDoor
open Go.RowKit
/-! lists that rise, each text once -/
def Ris (l : List Nm) : Prop := l.Pairwise (fun a b => lessN a b = true)
def insU (x : Nm) : List Nm → List Nm
  | [] => [x]
  | y :: r => if y = x then y :: r else if lessN x y = true then x :: y :: r else y :: insU x r
def uniqS (ts : List Nm) : List Nm := ts.foldl (fun o x => insU x o) []
theorem mem_insU {x z : Nm} : ∀ {l : List Nm}, z ∈ insU x l ↔ z = x ∨ z ∈ l := by
  intro l
  induction l with
  | nil => simp [insU]
  | cons y r ih =>
    unfold insU
    by_cases h : y = x
    · subst h; simp
    · rw [if_neg h]
      by_cases h2 : lessN x y = true
      · rw [if_pos h2]; simp
      · rw [if_neg h2, List.mem_cons, ih, List.mem_cons]
        constructor
        · rintro (h | h | h)
          · exact .inr (.inl h)
          · exact .inl h
          · exact .inr (.inr h)
        · rintro (h | h | h)
          · exact .inr (.inl h)
          · exact .inl h
          · exact .inr (.inr h)
theorem ris_insU (x : Nm) : ∀ {l : List Nm}, Ris l → Ris (insU x l) := by
  intro l
  induction l with
  | nil => intro _; exact List.pairwise_singleton _ _
  | cons y r ih =>
    intro h
    obtain ⟨h1, h2⟩ := List.pairwise_cons.1 h
    unfold insU
    by_cases e : y = x
    · rw [if_pos e]; exact h
    · rw [if_neg e]
      by_cases hl : lessN x y = true
      · rw [if_pos hl]
        refine List.pairwise_cons.2 ⟨fun z hz => ?_, h⟩
        rcases List.mem_cons.1 hz with rfl | hz
        · exact hl
        · exact less_trans _ _ _ hl (h1 z hz)
      · rw [if_neg hl]
        refine List.pairwise_cons.2 ⟨fun z hz => ?_, ih h2⟩
        rcases mem_insU.1 hz with rfl | hz
        · rcases less_total y z with h3 | h3 | h3
          · exact absurd h3 e
          · exact h3
          · exact absurd h3 hl
        · exact h1 z hz
theorem uniq_acc : ∀ (ts o : List Nm), Ris o → Ris (ts.foldl (fun o x => insU x o) o) ∧ ∀ z, z ∈ ts.foldl (fun o x => insU x o) o ↔ z ∈ o ∨ z ∈ ts := by
  intro ts
  induction ts with
  | nil => intro o h; exact ⟨h, fun z => by simp⟩
  | cons x r ih =>
    intro o h
    obtain ⟨h1, h2⟩ := ih (insU x o) (ris_insU x h)
    refine ⟨h1, fun z => ?_⟩
    rw [List.foldl_cons, h2 z, mem_insU, List.mem_cons]
    constructor
    · rintro ((h | h) | h)
      · exact .inr (.inl h)
      · exact .inl h
      · exact .inr (.inr h)
    · rintro (h | h | h)
      · exact .inl (.inr h)
      · exact .inl (.inl h)
      · exact .inr h
theorem ris_uniq (ts : List Nm) : Ris (uniqS ts) := (uniq_acc ts [] List.Pairwise.nil).1
theorem mem_uniq (ts : List Nm) (z : Nm) : z ∈ uniqS ts ↔ z ∈ ts := by
  have := (uniq_acc ts [] List.Pairwise.nil).2 z
  unfold uniqS
  rw [this]; simp
theorem uniq_snoc (ts : List Nm) (x : Nm) : uniqS (ts ++ [x]) = insU x (uniqS ts) := by unfold uniqS; rw [List.foldl_append]; rfl
theorem insU_len (x : Nm) : ∀ l : List Nm, (insU x l).length ≤ l.length + 1 := by
  intro l
  induction l with
  | nil => simp [insU]
  | cons y r ih =>
    unfold insU
    split
    · simp
    · split
      · simp
      · simp only [List.length_cons]; omega
theorem uniq_len (ts : List Nm) : (uniqS ts).length ≤ ts.length := by
  have : ∀ (ts o : List Nm), (ts.foldl (fun o x => insU x o) o).length ≤ o.length + ts.length := by
    intro ts
    induction ts with
    | nil => intro o; simp
    | cons x r ih =>
      intro o
      have h1 := ih (insU x o)
      have h2 := insU_len x o
      rw [List.foldl_cons, List.length_cons]
      omega
  have h := this ts []
  simpa [uniqS] using h
/-- two lists that rise and have the same texts are one -/
theorem ris_ext : ∀ {a b : List Nm}, Ris a → Ris b → (∀ z, z ∈ a ↔ z ∈ b) → a = b := by
  intro a
  induction a with
  | nil =>
    intro b _ _ h
    cases b with
    | nil => rfl
    | cons y r => exact absurd ((h y).2 (by simp)) (by simp)
  | cons x u ih =>
    intro b ha hb h
    cases b with
    | nil => exact absurd ((h x).1 (by simp)) (by simp)
    | cons y v =>
      obtain ⟨a1, a2⟩ := List.pairwise_cons.1 ha
      obtain ⟨b1, b2⟩ := List.pairwise_cons.1 hb
      have exy : x = y := by
        rcases List.mem_cons.1 ((h x).1 (by simp)) with e | h1
        · exact e
        · rcases List.mem_cons.1 ((h y).2 (by simp)) with e | h2
          · exact e.symm
          · have h3 := less_asymm _ _ (b1 x h1)
            rw [a1 y h2] at h3
            cases h3
      subst exy
      congr 1
      refine ih a2 b2 (fun z => ?_)
      constructor
      · intro hz
        rcases List.mem_cons.1 ((h z).1 (List.mem_cons_of_mem _ hz)) with e | h1
        · subst e; have := a1 z hz; rw [less_irrefl] at this; cases this
        · exact h1
      · intro hz
        rcases List.mem_cons.1 ((h z).2 (List.mem_cons_of_mem _ hz)) with e | h1
        · subst e; have := b1 z hz; rw [less_irrefl] at this; cases this
        · exact h1
theorem uniq_same {a b : List Nm} (h : ∀ z, z ∈ a ↔ z ∈ b) : uniqS a = uniqS b :=
  ris_ext (ris_uniq a) (ris_uniq b) (fun z => by rw [mem_uniq, mem_uniq]; exact h z)
/-! sorted, then each once -/
open Go.Sort in
theorem le_less (a b : Nm) (h : a ≤ b) : a = b ∨ lessN a b = true := by
  rcases less_total a b with h1 | h1 | h1
  · exact .inl h1
  · exact .inr h1
  · exact absurd (less_lt _ _ h1) (List.not_lt.2 h)
open Go.Sort in
theorem compact_sorted (ts : List Nm) : Lib.compact (ts.mergeSort (fun x y => decide (x ≤ y))) = uniqS ts := by
  have tr : ∀ a b c : List UInt8, leB a b = true → leB b c = true → leB a c = true := fun a b c h1 h2 => by simp only [leB, decide_eq_true_eq] at *; exact List.le_trans h1 h2
  have to : ∀ a b : List UInt8, (leB a b || leB b a) = true := fun a b => by simp only [leB, Bool.or_eq_true, decide_eq_true_eq]; exact List.le_total a b
  have hp : (ts.mergeSort (fun x y => decide (x ≤ y))).Perm ts := List.mergeSort_perm _ _
  have hs : (ts.mergeSort (fun x y => decide (x ≤ y))).Pairwise (fun a b => leB a b = true) := List.pairwise_mergeSort tr to ts
  generalize ts.mergeSort (fun x y => decide (x ≤ y)) = zs at hp hs
  have hle : ∀ i j, i < j → j < zs.toArray.size → zs.toArray[i]! = zs.toArray[j]! ∨ lessN zs.toArray[i]! zs.toArray[j]! = true := by
    intro i j hij hj
    have hj' : j < zs.length := by simpa using hj
    have h1 := List.pairwise_iff_getElem.1 hs i j (by omega) hj' hij
    simp only [leB, decide_eq_true_eq] at h1
    rw [getElem!_pos _ i (by simp; omega), getElem!_pos _ j (by simpa using hj')]
    simpa using le_less _ _ h1
  have inv : ∀ m, m ≤ zs.toArray.size → Ris (Lib.compactUpTo zs.toArray m) ∧ (∀ z, z ∈ Lib.compactUpTo zs.toArray m ↔ ∃ j, j < m ∧ zs.toArray[j]! = z) := by
    intro m
    induction m with
    | zero => intro _; exact ⟨by unfold Lib.compactUpTo; exact List.Pairwise.nil, fun z => by simp [Lib.compactUpTo]⟩
    | succ m ih =>
      intro hm
      obtain ⟨i1, i2⟩ := ih (by omega)
      rw [Lib.compactUpTo_succ]
      by_cases hk : Lib.keeps zs.toArray m = true
      · rw [if_pos hk]
        refine ⟨List.pairwise_append.2 ⟨i1, List.pairwise_singleton _ _, fun a ha b hb => ?_⟩, fun z => ?_⟩
        · obtain rfl := List.mem_singleton.1 hb
          obtain ⟨j, hj, e⟩ := (i2 a).1 ha
          unfold Lib.keeps at hk
          simp only [decide_eq_true_eq] at hk
          have h1 : ¬ zs.toArray[m]! = zs.toArray[m - 1]! := by
            rcases hk with h | h
            · omega
            · exact h
          have h2 : lessN zs.toArray[m - 1]! zs.toArray[m]! = true := by
            rcases hle (m - 1) m (by omega) (by omega) with h | h
            · exact absurd h.symm h1
            · exact h
          rw [← e]
          rcases Nat.lt_or_ge j (m - 1) with h3 | h3
          · rcases hle j (m - 1) h3 (by omega) with h | h
            · rw [h]; exact h2
            · exact less_trans _ _ _ h h2
          · have : j = m - 1 := by omega
            rw [this]; exact h2
        · rw [List.mem_append, i2 z, List.mem_singleton]
          constructor
          · rintro (⟨j, hj, e⟩ | e)
            · exact ⟨j, by omega, e⟩
            · exact ⟨m, by omega, e.symm⟩
          · rintro ⟨j, hj, e⟩
            by_cases h : j = m
            · subst h; exact .inr e.symm
            · exact .inl ⟨j, by omega, e⟩
      · rw [if_neg hk, List.append_nil]
        refine ⟨i1, fun z => ?_⟩
        rw [i2 z]
        constructor
        · rintro ⟨j, hj, e⟩; exact ⟨j, by omega, e⟩
        · rintro ⟨j, hj, e⟩
          by_cases h : j = m
          · subst h
            unfold Lib.keeps at hk
            simp only [decide_eq_true_eq, not_or, Classical.not_not] at hk
            exact ⟨j - 1, by omega, by rw [← hk.2]; exact e⟩
          · exact ⟨j, by omega, e⟩
  obtain ⟨c1, c2⟩ := inv zs.toArray.size (Nat.le_refl _)
  have e : Lib.compact zs = Lib.compactUpTo zs.toArray zs.toArray.size := by unfold Lib.compact; simp
  rw [e]
  refine ris_ext c1 (ris_uniq ts) (fun z => ?_)
  rw [c2 z, mem_uniq, ← hp.mem_iff]
  constructor
  · rintro ⟨j, hj, h⟩
    have hj' : j < zs.length := by simpa using hj
    rw [← h, getElem!_pos _ j (by simpa using hj')]
    simp
  · intro hz
    obtain ⟨j, hj, h⟩ := List.getElem_of_mem hz
    exact ⟨j, by simpa using hj, by rw [getElem!_pos _ j (by simpa using hj)]; simpa using h⟩
/-! what Vary tells -/
def varyN : Nm := [86, 97, 114, 121]
def varyL : Nm := [118, 97, 114, 121]
theorem vals_low (fs : FL) {a b : Nm} (h : lows a = lows b) : valsOf fs a = valsOf fs b := by unfold valsOf; rw [h]
/-- the words of Vary, folded, as they stand -/
def wordsV (fs : FL) : List Nm := toksOf (valsOf fs varyN)
theorem words_low (fs : FL) : toksOf (valsOf fs varyL) = wordsV fs := by unfold wordsV; rw [vals_low fs (show lows varyL = lows varyN by decide)]
def namesB (fs : FL) : Bool := !decide (([42] : Nm) ∈ wordsV fs)
def namesV (fs : FL) : List Nm := if namesB fs = true then uniqS (wordsV fs) else []
/-! what a request tells of a name -/
def commas : List Nm → List UInt8 := fun vs => Lib.join vs [44]
def elsOf (fs : FL) (n : Nm) : List Nm := (valsOf fs n).flatMap listOf
def tellOf (fs : FL) (n : Nm) : List UInt8 := lows n ++ ((if valsOf fs n = [] then [] else 58 :: commas (elsOf fs n)) ++ [10])
def keyV (ns : List Nm) (fs : FL) : List UInt8 := ns.flatMap (tellOf fs)
def matchV (fs : FL) (vary : List UInt8) (ask : FL) : Bool := namesB fs && decide (keyV (namesV fs) ask = vary)
theorem tell_low (fs : FL) {a b : Nm} (h : lows a = lows b) : tellOf fs a = tellOf fs b := by unfold tellOf elsOf; rw [h, vals_low fs h]
theorem key_snoc (ns : List Nm) (k : Nat) (fs : FL) (h : k < ns.length) : keyV (ns.take (k + 1)) fs = keyV (ns.take k) fs ++ tellOf fs ns[k] := by
  unfold keyV
  rw [List.take_succ_eq_append_getElem h, List.flatMap_append]
  simp
theorem els_hit (fs : FL) (n : Nm) (k : Nat) (hk : k < fs.length) (h : lows (fs[k]).1 = lows n) : elsOf (fs.take (k + 1)) n = elsOf (fs.take k) n ++ listOf (fs[k]).2 := by
  unfold elsOf; rw [vals_hit fs n k hk h, List.flatMap_append]; simp
theorem els_miss (fs : FL) (n : Nm) (k : Nat) (hk : k < fs.length) (h : ¬ lows (fs[k]).1 = lows n) : elsOf (fs.take (k + 1)) n = elsOf (fs.take k) n := by
  unfold elsOf; rw [vals_miss fs n k hk h]
/-! .. by the folded name -/
def valsF (fs : FL) (x : Nm) : List Nm := (fs.filter (fun f => decide (lows f.1 = x))).map (fun f => f.2)
theorem valsF_of (fs : FL) (n : Nm) : valsF fs (lows n) = valsOf fs n := rfl
def isF (fs : FL) (x : Nm) : Bool := decide (valsF fs x ≠ [])
def elsF (fs : FL) (x : Nm) : List Nm := (valsF fs x).flatMap listOf
theorem valsF_next (fs : FL) (k : Nat) (hk : k < fs.length) (y : Nm) : valsF (fs.take (k + 1)) y = if y = lows (fs[k]).1 then valsF (fs.take k) y ++ [(fs[k]).2] else valsF (fs.take k) y := by
  unfold valsF
  rw [List.take_succ_eq_append_getElem hk, List.filter_append, List.map_append]
  by_cases h : y = lows (fs[k]).1
  · rw [if_pos h]
    simp [h]
  · rw [if_neg h]
    have h' : ¬ lows (fs[k]).1 = y := fun e => h e.symm
    simp [h']
/-! sizes -/
theorem tailc_len (r : List Nm) : (Lib.joinTail [44] r).length ≤ 2 * bulkT r := by
  induction r with
  | nil => simp [Lib.joinTail]
  | cons x r ih =>
    have e : Lib.joinTail [44] (x :: r) = [44] ++ x ++ Lib.joinTail [44] r := by simp [Lib.joinTail]
    rw [e]
    simp only [List.length_append, List.length_cons, List.length_nil, bulkT]
    omega
theorem commas_len (vs : List Nm) : (commas vs).length ≤ 2 * bulkT vs := by
  cases vs with
  | nil => simp [commas, Lib.join_nil]
  | cons x r =>
    unfold commas
    rw [Lib.join_cons, List.length_append]
    have := tailc_len r
    simp only [bulkT]
    omega
end Go.Proofs.YtmibgcbolnpffaaDoor
