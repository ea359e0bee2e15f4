/- Plain: a table of names as a map reads; changes of names, one behind the other; names in their order, sorted. -/
import Derived.Test.YtikkmnclcbanfaaDkS
import Derived.Maps.Ext
import Derived.Maps.OwnSet
import Derived.Sort.KeysCollected
namespace Go.Proofs.Ytikkmnclcbanfaa
open Go.RowKit
abbrev DU := DataW Unit
/-- an element of a table: a pointer to a block's beginning, or nil -/
def pel (v : Value) : Option (DU × List MemPlace) := match v with
  | .pointer none => some (.nil, [])
  | .pointer (some ⟨b, 0, none⟩) => some (.lit (.int .i64 (b : Int)), [])
  | _ => none
theorem pel_at (b : Nat) : pel (.pointer (some ⟨b, 0, none⟩)) = some (.lit (.int .i64 (b : Int)), []) := rfl
theorem pel_nil : pel (.pointer none) = some (.nil, []) := rfl
theorem pel_inv {v : Value} {z : DU × List MemPlace} (h : pel v = some z) : (v = .pointer none ∧ z = (.nil, [])) ∨ ∃ b : Nat, v = .pointer (some ⟨b, 0, none⟩) ∧ z = (.lit (.int .i64 (b : Int)), []) := by
  unfold pel at h
  split at h
  · simp only [Option.some.injEq] at h; exact .inl ⟨rfl, h.symm⟩
  · simp only [Option.some.injEq] at h; exact .inr ⟨_, rfl, h.symm⟩
  · cases h
theorem pel_lit {v : Value} {b : Nat} {ps : List MemPlace} (h : pel v = some (.lit (.int .i64 (b : Int)), ps)) : v = .pointer (some ⟨b, 0, none⟩) := by
  rcases pel_inv h with ⟨_, e⟩ | ⟨c, hv, e⟩
  · simp at e
  · simp only [Prod.mk.injEq, DataW.lit.injEq, Lit.int.injEq, true_and] at e
    have : b = c := by omega
    rw [this]; exact hv
/-- what a table of names reads as; fb: the block of each file -/
def dOf (fb : Nat → Nat) (l : NL) : DU := .map (l.map (fun p => (Lit.string p.1, .lit (.int .i64 (fb p.2 : Int)))))
theorem before_less : ∀ a b : Nm, bytesBefore a b = lessN a b := by
  intro a
  induction a with
  | nil => intro b; cases b <;> rfl
  | cons x u ih =>
    intro b
    cases b with
    | nil => rfl
    | cons y v => show (decide (x < y) || (x == y && bytesBefore u v)) = _; rw [ih, less_cons]
theorem same_str (a b : Nm) : (Lit.string a).sameKey (Lit.string b) = decide (a = b) := by
  show (a == b) = _
  by_cases h : a = b
  · simp [h]
  · simp [h]
theorem dOf_filter (fb : Nat → Nat) (l : NL) (n : Nm) : (l.map (fun p => (Lit.string p.1, (DataW.lit (.int .i64 (fb p.2 : Int)) : DU)))).filter (fun p => !p.1.sameKey (.string n)) = (delN l n).map (fun p => (Lit.string p.1, (DataW.lit (.int .i64 (fb p.2 : Int)) : DU))) := by
  unfold delN
  rw [List.filter_map]
  congr 1
  apply List.filter_congr
  intro p _
  show (!(Lit.string p.1).sameKey (.string n)) = _
  rw [same_str]
  by_cases h : p.1 = n <;> simp [h]
theorem dOf_del (fb : Nat → Nat) (l : NL) (n : Nm) : (dOf fb l).del (.string n) = dOf fb (delN l n) := by
  unfold dOf DataW.del
  simp only
  rw [dOf_filter]
theorem dOf_ins (fb : Nat → Nat) (n : Nm) (k : Nat) : ∀ l : NL, DataW.insert (Lit.string n, (DataW.lit (.int .i64 (fb k : Int)) : DU)) (l.map (fun p => (Lit.string p.1, (DataW.lit (.int .i64 (fb p.2 : Int)) : DU)))) = (insN n k l).map (fun p => (Lit.string p.1, (DataW.lit (.int .i64 (fb p.2 : Int)) : DU))) := by
  intro l
  induction l with
  | nil => rfl
  | cons q r ih =>
    rw [List.map_cons, DataW.insert, insN]
    have e : (Lit.string n).before (Lit.string q.1) = lessN n q.1 := before_less n q.1
    simp only [e]
    split
    · rfl
    · rw [ih]; rfl
theorem dOf_put (fb : Nat → Nat) (l : NL) (n : Nm) (k : Nat) : (dOf fb l).put (.string n) (.lit (.int .i64 (fb k : Int))) = dOf fb (putN l n k) := by
  unfold dOf DataW.put putN
  simp only
  rw [dOf_filter, dOf_ins]
theorem dOf_find (fb : Nat → Nat) (n : Nm) (l : NL) : (l.map (fun p => (Lit.string p.1, (DataW.lit (.int .i64 (fb p.2 : Int)) : DU)))).find? (fun p => p.1.sameKey (.string n)) = (l.find? (fun p => decide (p.1 = n))).map (fun p => (Lit.string p.1, (DataW.lit (.int .i64 (fb p.2 : Int)) : DU))) := by
  rw [List.find?_map]
  congr 1
  congr 1
  funext p
  exact same_str p.1 n
theorem dOf_some {fb : Nat → Nat} {l : NL} {n : Nm} {k : Nat} (h : atN l n = some k) (z : DU) : (dOf fb l).atKey (.string n) z = .lit (.int .i64 (fb k : Int)) := by
  unfold atN at h
  unfold dOf DataW.atKey
  simp only
  rw [dOf_find]
  obtain ⟨p, hp, rfl⟩ := Option.map_eq_some_iff.1 h
  rw [hp]
  rfl
theorem dOf_none {fb : Nat → Nat} {l : NL} {n : Nm} (h : atN l n = none) (z : DU) : (dOf fb l).atKey (.string n) z = z := by
  unfold atN at h
  unfold dOf DataW.atKey
  simp only
  rw [dOf_find, Option.map_eq_none_iff.1 h]
  rfl
theorem dOf_has (fb : Nat → Nat) (l : NL) (n : Nm) : Maps.has (dOf fb l) (.string n) = (atN l n).isSome := by
  unfold dOf atN
  rw [Maps.has_eq, List.any_map]
  have e : ((fun p : Lit × DU => p.1.sameKey (.string n)) ∘ fun p : Nm × Nat => (Lit.string p.1, (DataW.lit (.int .i64 (fb p.2 : Int)) : DU))) = fun p : Nm × Nat => decide (p.1 = n) := by funext p; exact same_str p.1 n
  rw [e]
  induction l with
  | nil => rfl
  | cons q r ih =>
    rw [List.any_cons, List.find?_cons]
    by_cases h : q.1 = n
    · simp [h]
    · simp only [h, decide_false, Bool.false_or]; exact ih
theorem dOf_size (fb : Nat → Nat) (l : NL) : Maps.size (dOf fb l) = l.length := by
  unfold dOf
  rw [Maps.size_eq, List.length_map]
theorem dOf_keys (fb : Nat → Nat) (l : NL) : strKeys (dOf fb l) = l.map (fun p => p.1) := by
  unfold dOf strKeys
  simp [strOf]
theorem dOf_congr {fb fc : Nat → Nat} {l : NL} (h : ∀ p ∈ l, fb p.2 = fc p.2) : dOf fb l = dOf fc l := by
  unfold dOf
  congr 1
  exact List.map_congr_left (fun p hp => by rw [h p hp])
/-- how many entries a map has is told by what it reads as -/
theorem own_tight {P : Program} {k : TypeId} {R : Value → Option (DU × List MemPlace)} {w : World} {b n : Nat} {D : DU} (h : w.ownsMap P k R b n D) : w.ownsMap P k R b (Maps.size D) D := by
  obtain ⟨es, clock, hb, F, hs, hD⟩ := h
  refine ⟨es, clock, hb, F, ?_, hD⟩
  rw [hD, Maps.size_eq, length_sorted]
  simp
theorem delN_len (l : NL) (n : Nm) : (delN l n).length ≤ l.length := List.length_filter_le _ _
theorem insN_len (n : Nm) (k : Nat) : ∀ l : NL, (insN n k l).length = l.length + 1 := by
  intro l
  induction l with
  | nil => rfl
  | cons q r ih => unfold insN; split <;> simp [ih]
theorem putN_len (l : NL) (n : Nm) (k : Nat) : (putN l n k).length ≤ l.length + 1 := by
  unfold putN
  rw [insN_len]
  have := delN_len l n
  omega
/-! changes of names -/
inductive Chg where
  | put (n : Nm) (k : Nat)
  | del (n : Nm)
  | mv (a b : Nm) (k : Nat)
def Chg.app : Chg → NL → NL
  | .put n k, l => putN l n k
  | .del n, l => delN l n
  | .mv a b k, l => putN (delN l a) b k
def appAll (cs : List Chg) (l : NL) : NL := cs.foldl (fun l c => c.app l) l
def scanC : NL → List Chg → List NL
  | _, [] => []
  | l, c :: r => c.app l :: scanC (c.app l) r
theorem appN_len (c : Chg) (l : NL) : (c.app l).length ≤ l.length + 1 := by
  cases c with
  | put n k => exact putN_len l n k
  | del n => have := delN_len l n; show (delN l n).length ≤ _; omega
  | mv a b k =>
    have h1 := putN_len (delN l a) b k
    have h2 := delN_len l a
    show (putN (delN l a) b k).length ≤ _
    omega
theorem appAll_len : ∀ (cs : List Chg) (l : NL), (appAll cs l).length ≤ l.length + cs.length := by
  intro cs
  induction cs with
  | nil => intro l; exact Nat.le_refl _
  | cons c r ih =>
    intro l
    have h1 := ih (c.app l)
    have h2 := appN_len c l
    show (appAll r (c.app l)).length ≤ _
    rw [List.length_cons]
    omega
theorem appAll_snoc (cs : List Chg) (c : Chg) (l : NL) : appAll (cs ++ [c]) l = c.app (appAll cs l) := by unfold appAll; rw [List.foldl_append]; rfl
theorem scan_len : ∀ (cs : List Chg) (l : NL), (scanC l cs).length = cs.length := by
  intro cs
  induction cs with
  | nil => intro l; rfl
  | cons c r ih => intro l; show (scanC (c.app l) r).length + 1 = _; rw [ih]; rfl
theorem scan_snoc : ∀ (cs : List Chg) (c : Chg) (l : NL), scanC l (cs ++ [c]) = scanC l cs ++ [c.app (appAll cs l)] := by
  intro cs
  induction cs with
  | nil => intro c l; rfl
  | cons d r ih =>
    intro c l
    show d.app l :: scanC (d.app l) (r ++ [c]) = _
    rw [ih]
    rfl
theorem scan_get : ∀ (cs : List Chg) (l : NL) (k : Nat), k < cs.length → (scanC l cs).getD k [] = appAll (cs.take (k + 1)) l := by
  intro cs
  induction cs with
  | nil => intro l k h; cases h
  | cons c r ih =>
    intro l k h
    cases k with
    | zero => rfl
    | succ j =>
      show (scanC (c.app l) r).getD j [] = _
      rw [ih _ _ (by simpa using h)]
      rfl
/-- the names' lists of a disk are its changes', one behind the other -/
def Sc (s : Dk) (cs : List Chg) : Prop := s.pend = scanC s.safe cs ∧ s.now = appAll cs s.safe
theorem sc_named {s : Dk} {cs : List Chg} (h : Sc s cs) (c : Chg) : Sc (s.named (c.app s.now)) (cs ++ [c]) := by
  refine ⟨?_, ?_⟩
  · show s.pend ++ [c.app s.now] = scanC s.safe (cs ++ [c])
    rw [scan_snoc, h.1, h.2]
  · show c.app s.now = appAll (cs ++ [c]) s.safe
    rw [appAll_snoc, h.2]
theorem left_names {s : Dk} {cs : List Chg} (h : Sc s cs) (k : Int) : leftNames s k = appAll (cs.take (min k.toNat cs.length)) s.safe := by
  have hl : s.pend.length = cs.length := by rw [h.1, scan_len]
  unfold leftNames
  by_cases hk : k ≤ 0
  · rw [if_pos hk, show k.toNat = 0 by omega, Nat.zero_min]
    rfl
  · rw [if_neg hk]
    by_cases hp : s.pend = []
    · have : cs = [] := by
        have h0 : cs.length = 0 := by rw [← hl, hp]; rfl
        exact List.eq_nil_of_length_eq_zero h0
      rw [if_pos hp, this]
      simp [appAll]
    · have hpos : 0 < cs.length := by rw [← hl]; exact List.length_pos_iff.2 hp
      rw [if_neg hp, hl, h.1, scan_get _ _ _ (by omega)]
      congr 1
      congr 1
      omega
/-! names, sorted -/
theorem less_lt : ∀ a b : Nm, lessN a b = true → a < b := by
  intro a
  induction a with
  | nil =>
    intro b h
    cases b with
    | nil => cases h
    | cons y v => exact List.nil_lt_cons y v
  | cons x u ih =>
    intro b h
    cases b with
    | nil => rw [less_nil] at h; cases h
    | cons y v =>
      rw [less_cons] at h
      simp only [Bool.or_eq_true, decide_eq_true_eq, Bool.and_eq_true, beq_iff_eq] at h
      rw [List.cons_lt_cons_iff]
      rcases h with h | ⟨h1, h2⟩
      · exact .inl h
      · exact .inr ⟨h1, ih v h2⟩
theorem sorted_keys {l : NL} (hs : SortedN l) {ss : List Nm} (hp : ss.Perm (l.map (fun p => p.1))) : ss.mergeSort (fun x y => decide (x ≤ y)) = l.map (fun p => p.1) := by
  have h1 := mergeSort_of_perm hp
  have tr : ∀ a b c : List UInt8, leB a b = true → leB b c = true → leB a c = true := fun a b c h1 h2 => by simp only [leB, decide_eq_true_eq] at *; exact List.le_trans h1 h2
  have to : ∀ a b : List UInt8, (leB a b || leB b a) = true := fun a b => by simp only [leB, Bool.or_eq_true, decide_eq_true_eq]; exact List.le_total a b
  refine h1.trans ?_
  refine List.Perm.eq_of_pairwise (le := fun a b => leB a b = true) (fun a b _ _ h1 h2 => ?_) (List.pairwise_mergeSort tr to _) ?_ (List.mergeSort_perm _ leB)
  · simp only [leB, decide_eq_true_eq] at h1 h2
    exact List.le_antisymm h1 h2
  · refine List.pairwise_map.2 (hs.imp (fun {p q} h => ?_))
    simp only [leB, decide_eq_true_eq]
    exact List.le_of_lt (less_lt _ _ h)
end Go.Proofs.Ytikkmnclcbanfaa
