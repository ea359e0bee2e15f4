/- Plain (layer 18, ahead of its landing): entity tags, when two are the same; a tag is one element of a list; what a merge answers. Plain (layer 18, ahead of its landing): what a response is asked after with, and whether a request knows it; D: the second that a text says, below 0 where none is read. -/
import Derived.Test.YtipcmbonhkelbabGreatDoorBm
import Derived.Test.YtipcmbonhkelbabGreatDoorBl
import Derived.Lib.Join
namespace Go.Proofs.YtipcmbonhkelbabGreatDoor
open Go.RowKit
theorem fit_bulk {fs : FL} {n : Nat} (h : bulkF fs ≤ n) (hn : n ≤ 140737488351232) : Fit fs := fun f hf => by have := bulkF_mem fs f hf; omega
/-- a byte of an opaque part -/
def etB (c : UInt8) : Bool := decide (33 ≤ (c.toNat : Int) ∧ (c.toNat : Int) ≠ 34 ∧ (c.toNat : Int) ≠ 127)
/-- a quoted part: two quotes at least, good bytes within -/
def isO (s : List UInt8) : Bool := decide (2 ≤ s.length) && (s.head? == some 34) && (s.getLast? == some 34) && ((s.drop 1).take (s.length - 2)).all etB
def isW (s : List UInt8) : Bool := decide (s.take 2 = [87, 47])
def restW (s : List UInt8) : List UInt8 := if isW s = true then s.drop 2 else s
/-- is it a tag; its opaque part; is it weak -/
def tagB (s : List UInt8) : Bool := isO (restW s)
def tagS (s : List UInt8) : List UInt8 := if tagB s = true then restW s else []
def tagK (s : List UInt8) : Bool := tagB s && isW s
def sameG (a b : List UInt8) (strong : Bool) : Bool := tagB a && tagB b && decide (tagS a = tagS b) && !(strong && (tagK a || tagK b))
theorem sameG_comm (a b : List UInt8) (st : Bool) : sameG a b st = sameG b a st := by
  unfold sameG
  by_cases h : tagS a = tagS b
  · rw [h, Bool.and_comm (tagB a), Bool.or_comm (tagK a)]
  · have h' : ¬ tagS b = tagS a := fun e => h e.symm
    rw [decide_eq_false h, decide_eq_false h']
    simp
theorem sameG_self (a : List UInt8) : sameG a a false = tagB a := by unfold sameG; simp
theorem sameG_strong (a : List UInt8) : sameG a a true = (tagB a && !tagK a) := by unfold sameG; simp
theorem sameG_weak (a b : List UInt8) (h : sameG a b true = true) : sameG a b false = true := by
  unfold sameG at h ⊢
  simp only [Bool.and_eq_true] at h
  simp [h.1.1.1, h.1.1.2, h.1.2]
theorem last_in (x y : UInt8) (m : List UInt8) : (x :: (m ++ [y])).getLast? = some y := by
  have h := List.getLast?_append (l := x :: m) (l' := [y])
  rw [List.cons_append] at h
  rw [h]
  rfl
/-- a quoted part in its three pieces -/
theorem isO_parts {s : List UInt8} (h : isO s = true) : ∃ m : List UInt8, s = 34 :: (m ++ [34]) ∧ m.all etB = true := by
  unfold isO at h
  simp only [Bool.and_eq_true, decide_eq_true_eq, beq_iff_eq] at h
  obtain ⟨⟨⟨h1, h2⟩, h3⟩, h4⟩ := h
  cases s with
  | nil => simp at h1
  | cons x r =>
    simp only [List.head?_cons, Option.some.injEq] at h2
    subst h2
    have hr : r ≠ [] := by intro e; subst e; simp at h1
    obtain ⟨m, y, e⟩ : ∃ m y, r = m ++ [y] := ⟨r.dropLast, r.getLast hr, (List.dropLast_concat_getLast hr).symm⟩
    subst e
    have hy : y = 34 := by
      rw [last_in] at h3
      exact Option.some.inj h3
    subst hy
    refine ⟨m, rfl, ?_⟩
    have e2 : ((34 :: (m ++ [34])).drop 1).take ((34 :: (m ++ [34])).length - 2) = m := by
      simp
    rw [e2] at h4
    exact h4
theorem isO_make (m : List UInt8) (h : m.all etB = true) : isO (34 :: (m ++ [34])) = true := by
  unfold isO
  have e2 : ((34 :: (m ++ [34] : List UInt8)).drop 1).take ((34 :: (m ++ [34] : List UInt8)).length - 2) = m := by simp
  rw [e2, h, last_in]
  simp
/-- within quotes, without an escape: no cut -/
theorem pcs_in (m : List UInt8) : ∀ (cur rest : List UInt8), (∀ c ∈ m, ¬ (c.toNat : Int) = 34 ∧ ¬ (c.toNat : Int) = 92) → pcs 44 true cur (m ++ rest) = pcs 44 true (cur ++ m) rest := by
  induction m with
  | nil => intro cur rest _; simp
  | cons c m ih =>
    intro cur rest h
    obtain ⟨h1, h2⟩ := h c List.mem_cons_self
    rw [List.cons_append, pcs_plain _ _ _ _ _ h1 (fun e => h2 e.2) (fun e => by cases e.1), ih _ _ (fun x hx => h x (List.mem_cons_of_mem _ hx))]
    simp
theorem pcs_quoted (p m : List UInt8) (hp : ∀ c ∈ p, ¬ (c.toNat : Int) = 34 ∧ ¬ (c.toNat : Int) = 44) (hm : ∀ c ∈ m, ¬ (c.toNat : Int) = 34 ∧ ¬ (c.toNat : Int) = 92) : pieces 44 (p ++ 34 :: (m ++ [34])) = [p ++ 34 :: (m ++ [34])] := by
  have pre : ∀ (p cur rest : List UInt8), (∀ c ∈ p, ¬ (c.toNat : Int) = 34 ∧ ¬ (c.toNat : Int) = 44) → pcs 44 false cur (p ++ rest) = pcs 44 false (cur ++ p) rest := by
    intro p
    induction p with
    | nil => intro cur rest _; simp
    | cons c p ih =>
      intro cur rest h
      obtain ⟨h1, h2⟩ := h c List.mem_cons_self
      rw [List.cons_append, pcs_plain _ _ _ _ _ h1 (by simp) (fun e => h2 e.2), ih _ _ (fun x hx => h x (List.mem_cons_of_mem _ hx))]
      simp
  unfold pieces
  rw [pre p [] _ hp, pcs_quote _ _ _ _ _ (by decide), Bool.not_false, pcs_in m _ _ hm, pcs_quote _ _ _ _ _ (by decide), Bool.not_true]
  simp [pcs]
/-- a tag without an escape is one element of a list -/
theorem listOf_tag (s : List UInt8) (h : tagB s = true) (h92 : ∀ c ∈ s, ¬ (c.toNat : Int) = 92) : listOf s = [s] := by
  have key : ∀ (p m : List UInt8), (∀ c ∈ p, ¬ (c.toNat : Int) = 34 ∧ ¬ (c.toNat : Int) = 44) → (∀ c ∈ m, ¬ (c.toNat : Int) = 34 ∧ ¬ (c.toNat : Int) = 92) → (∃ a r, p ++ 34 :: (m ++ [34]) = a :: r ∧ blankI (a.toNat : Int) = false) → listOf (p ++ 34 :: (m ++ [34])) = [p ++ 34 :: (m ++ [34])] := by
    intro p m hp hm hb
    obtain ⟨a, r, e, hb⟩ := hb
    unfold listOf
    rw [pcs_quoted p m hp hm]
    have ht := trim_both (p ++ 34 :: (m ++ [34])) a 34 r e (p ++ 34 :: m) (by simp) hb (by decide)
    simp only [List.map_cons, List.map_nil, ht]
    unfold filt
    rw [e]
    rfl
  unfold tagB at h
  have good : ∀ m : List UInt8, m.all etB = true → (∀ c ∈ m, ¬ (c.toNat : Int) = 92) → ∀ c ∈ m, ¬ (c.toNat : Int) = 34 ∧ ¬ (c.toNat : Int) = 92 := by
    intro m hm h9 c hc
    have := List.all_eq_true.1 hm c hc
    unfold etB at this
    simp only [decide_eq_true_eq] at this
    exact ⟨this.2.1, h9 c hc⟩
  by_cases hw : isW s = true
  · unfold restW at h
    rw [if_pos hw] at h
    obtain ⟨m, em, hm⟩ := isO_parts h
    have es : s = [87, 47] ++ 34 :: (m ++ [34]) := by
      unfold isW at hw
      rw [decide_eq_true_eq] at hw
      rw [← em, ← hw, List.take_append_drop]
    have hm2 := good m hm (fun c hc => h92 c (by rw [es]; simp [hc]))
    rw [es]
    exact key [87, 47] m (by intro c hc; simp at hc; rcases hc with rfl | rfl <;> decide) hm2 ⟨87, _, rfl, by decide⟩
  · unfold restW at h
    rw [if_neg hw] at h
    obtain ⟨m, em, hm⟩ := isO_parts h
    have hm2 := good m hm (fun c hc => h92 c (by rw [em]; simp [hc]))
    rw [em]
    exact key [] m (by intro c hc; cases hc) hm2 ⟨34, _, rfl, by decide⟩
/-! a merge -/
def clH : List UInt8 := [99, 111, 110, 116, 101, 110, 116, 45, 108, 101, 110, 103, 116, 104]
def crH : List UInt8 := [99, 111, 110, 116, 101, 110, 116, 45, 114, 97, 110, 103, 101]
def teH : List UInt8 := [116, 114, 97, 110, 115, 102, 101, 114, 45, 101, 110, 99, 111, 100, 105, 110, 103]
def coH : List UInt8 := [99, 111, 110, 110, 101, 99, 116, 105, 111, 110]
def newsOf (u : FL) : FL := withoutOf u [clH, crH, teH, coH]
def joinM (s u : FL) : FL := withoutOf s ((newsOf u).map (fun f => f.1)) ++ newsOf u
def mergeM (s u : FL) : FL := if 100 < (joinM s u).length then s else joinM s u
theorem join_len_le (s u : FL) : (joinM s u).length ≤ s.length + u.length := by
  have h1 := without_len s ((newsOf u).map (fun f => f.1))
  have h2 := without_len u [clH, crH, teH, coH]
  unfold joinM newsOf at *
  rw [List.length_append]
  omega
theorem merge_small {s u : FL} (h : s.length + u.length ≤ 100) : mergeM s u = joinM s u := by
  have := join_len_le s u
  unfold mergeM
  rw [if_neg (by omega)]
theorem vals_no {fs : FL} {n : List UInt8} (h : ∀ f ∈ fs, ¬ lows f.1 = lows n) : valsOf fs n = [] := by
  unfold valsOf
  rw [List.filter_eq_nil_iff.2 (fun f hf => by simpa using h f hf)]
  rfl
theorem vals_keep {fs : FL} {ns : List (List UInt8)} {n : List UInt8} (h : lows n ∉ ns.map lows) : valsOf (withoutOf fs ns) n = valsOf fs n := by
  unfold valsOf withoutOf
  rw [List.filter_filter]
  congr 1
  apply List.filter_congr
  intro f _
  by_cases e : lows f.1 = lows n
  · simp only [e, decide_true, Bool.true_and, decide_eq_true_eq]; exact h
  · simp [e]
theorem vals_gone {fs : FL} {ns : List (List UInt8)} {n : List UInt8} (h : lows n ∈ ns.map lows) : valsOf (withoutOf fs ns) n = [] := by
  refine vals_no (fun f hf e => ?_)
  unfold withoutOf at hf
  have := (List.mem_filter.1 hf).2
  rw [decide_eq_true_eq, e] at this
  exact this h
theorem news_name {u : FL} {n : List UInt8} : lows n ∈ ((newsOf u).map (fun f => f.1)).map lows ↔ valsOf (newsOf u) n ≠ [] := by
  rw [List.map_map]
  constructor
  · intro h e
    obtain ⟨f, hf, h1⟩ := List.mem_map.1 h
    have : f.2 ∈ valsOf (newsOf u) n := by
      unfold valsOf
      exact List.mem_map.2 ⟨f, List.mem_filter.2 ⟨hf, by simpa using h1⟩, rfl⟩
    rw [e] at this
    cases this
  · intro h
    cases hv : valsOf (newsOf u) n with
    | nil => exact absurd hv h
    | cons x r =>
      have hx : x ∈ valsOf (newsOf u) n := by rw [hv]; exact List.mem_cons_self
      unfold valsOf at hx
      obtain ⟨f, hf, _⟩ := List.mem_map.1 hx
      obtain ⟨h1, h2⟩ := List.mem_filter.1 hf
      exact List.mem_map.2 ⟨f, h1, by simpa using h2⟩
/-- behind a merge a name has the news' values, or what was stored -/
theorem vals_join (s u : FL) (n : List UInt8) : valsOf (joinM s u) n = if valsOf (newsOf u) n = [] then valsOf s n else valsOf (newsOf u) n := by
  unfold joinM
  rw [vals_app]
  by_cases h : valsOf (newsOf u) n = []
  · rw [if_pos h, h, List.append_nil, vals_keep (fun e => news_name.1 e h)]
  · rw [if_neg h, vals_gone (news_name.2 h), List.nil_append]
theorem vals_news (u : FL) (n : List UInt8) : valsOf (newsOf u) n = if lows n ∈ [clH, crH, teH, coH].map lows then [] else valsOf u n := by
  unfold newsOf
  by_cases h : lows n ∈ [clH, crH, teH, coH].map lows
  · rw [if_pos h, vals_gone h]
  · rw [if_neg h, vals_keep h]
theorem without_idem (fs : FL) (ns : List (List UInt8)) : withoutOf (withoutOf fs ns) ns = withoutOf fs ns := by
  unfold withoutOf
  rw [List.filter_filter]
  simp
theorem without_app (a b : FL) (ns : List (List UInt8)) : withoutOf (a ++ b) ns = withoutOf a ns ++ withoutOf b ns := by unfold withoutOf; rw [List.filter_append]
theorem without_own (fs : FL) : withoutOf fs (fs.map (fun f => f.1)) = [] := by
  unfold withoutOf
  rw [List.filter_eq_nil_iff]
  intro f hf
  simp only [decide_eq_true_eq, List.map_map, Classical.not_not]
  exact List.mem_map.2 ⟨f, hf, rfl⟩
/-- the same update twice is once -/
theorem join_twice (s u : FL) : joinM (joinM s u) u = joinM s u := by
  unfold joinM
  rw [without_app, without_idem, without_own, List.append_nil]
end Go.Proofs.YtipcmbonhkelbabGreatDoor
namespace Go.Proofs.YtipcmbonhkelbabGreatDoor
open Go.RowKit
def getJ (fs : FL) (n : List UInt8) : List UInt8 := Lib.join (valsOf fs n) [44, 32]
def etN : List UInt8 := [101, 116, 97, 103]
def lmN : List UInt8 := [108, 97, 115, 116, 45, 109, 111, 100, 105, 102, 105, 101, 100]
def inN : List UInt8 := [73, 102, 45, 78, 111, 110, 101, 45, 77, 97, 116, 99, 104]
def imN : List UInt8 := [73, 102, 45, 77, 111, 100, 105, 102, 105, 101, 100, 45, 83, 105, 110, 99, 101]
def askT (fs : FL) : FL := if tagB (getJ fs etN) = true then [(inN, getJ fs etN)] else []
def askD (D : List UInt8 → Int) (fs : FL) : FL := if 0 ≤ D (getJ fs lmN) then [(imN, getJ fs lmN)] else []
def askOf (D : List UInt8 → Int) (fs : FL) : FL := askT fs ++ askD D fs
def hitE (tag el : List UInt8) : Bool := decide (el = [42]) || sameG el tag false
def unchOf (D : List UInt8 → Int) (ask : FL) (st : Int) (fs : FL) : Bool :=
  if st ≠ 200 then false
  else if valsOf ask inN ≠ [] then ((valsOf ask inN).flatMap listOf).any (hitE (getJ fs etN))
  else decide (0 ≤ D (getJ ask imN)) && decide (0 ≤ D (getJ fs lmN)) && decide (D (getJ fs lmN) ≤ D (getJ ask imN))
theorem ask_vals_in (D : List UInt8 → Int) (fs : FL) : valsOf (askOf D fs) inN = if tagB (getJ fs etN) = true then [getJ fs etN] else [] := by
  have ne : ¬ lows imN = lows inN := by decide
  unfold askOf askT askD
  rw [vals_app]
  split <;> split <;> simp [valsOf, ne]
theorem ask_vals_im (D : List UInt8 → Int) (fs : FL) : valsOf (askOf D fs) imN = if 0 ≤ D (getJ fs lmN) then [getJ fs lmN] else [] := by
  have ne : ¬ lows inN = lows imN := by decide
  unfold askOf askT askD
  rw [vals_app]
  split <;> split <;> simp [valsOf, ne]
/-- who asks with a response's own validators knows it, where it has any (and no tag with an escape) -/
theorem known (D : List UInt8 → Int) (hD : D [] < 0) (fs : FL) (h : ∀ f ∈ askOf D fs, ∀ c ∈ f.2, ¬ (c.toNat : Int) = 92) : unchOf D (askOf D fs) 200 fs = decide (askOf D fs ≠ []) := by
  unfold unchOf
  rw [if_neg (by simp), ask_vals_in]
  by_cases ht : tagB (getJ fs etN) = true
  · have hm : (inN, getJ fs etN) ∈ askOf D fs := by unfold askOf askT; rw [if_pos ht]; simp
    have hne : askOf D fs ≠ [] := by intro e; rw [e] at hm; cases hm
    have hl := listOf_tag _ ht (h _ hm)
    rw [if_pos ht, if_pos (by simp), decide_eq_true hne]
    simp only [List.flatMap_cons, List.flatMap_nil, List.append_nil, hl]
    unfold hitE
    simp [sameG_self, ht]
  · rw [if_neg ht, if_neg (by simp)]
    have e1 : getJ (askOf D fs) imN = if 0 ≤ D (getJ fs lmN) then getJ fs lmN else [] := by
      unfold getJ
      rw [ask_vals_im]
      unfold getJ
      split
      · rw [Lib.join_one]
      · rw [Lib.join_nil]
    rw [e1]
    by_cases hd : 0 ≤ D (getJ fs lmN)
    · rw [if_pos hd]
      have hne : askOf D fs ≠ [] := by unfold askOf askD; rw [if_pos hd]; simp
      rw [decide_eq_true hne, decide_eq_true hd]
      simp
    · rw [if_neg hd]
      have he : askOf D fs = [] := by unfold askOf askT askD; rw [if_neg ht, if_neg hd]; rfl
      rw [he]
      simp only [ne_eq, not_true_eq_false, decide_false]
      rw [decide_eq_false (by omega)]
      rfl
/-! a merge, as its law looks at it -/
theorem merge_twice {s u : FL} (h : s.length + u.length ≤ 100) : mergeM (mergeM s u) u = mergeM s u := by
  have h1 := join_len_le s u
  rw [merge_small h]
  unfold mergeM
  rw [join_twice, if_neg (by omega)]
theorem merge_or (s u : FL) : (mergeM s u).length ≤ 100 ∨ mergeM s u = s := by
  unfold mergeM
  split
  · exact .inr rfl
  · exact .inl (by omega)
theorem merge_vals {s u : FL} (h : s.length + u.length ≤ 100) (n : List UInt8) : valsOf (mergeM s u) n = if valsOf u n ≠ [] ∧ lows n ∉ [clH, crH, teH, coH].map lows then valsOf u n else valsOf s n := by
  rw [merge_small h, vals_join, vals_news]
  by_cases h1 : lows n ∈ [clH, crH, teH, coH].map lows
  · rw [if_pos h1, if_pos rfl, if_neg (fun e => e.2 h1)]
  · rw [if_neg h1]
    by_cases h2 : valsOf u n = []
    · rw [if_pos h2, if_neg (fun e => e.1 h2)]
    · rw [if_neg h2, if_pos ⟨h2, h1⟩]
end Go.Proofs.YtipcmbonhkelbabGreatDoor
