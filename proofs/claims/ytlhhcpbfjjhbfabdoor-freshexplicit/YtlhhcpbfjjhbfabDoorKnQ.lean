/- Plain: letters' case makes no difference to directives; values behind one another; a number told first. -/
import Derived.Test.YtlhhcpbfjjhbfabDoorBo
import Derived.Lib.ItoaNum
namespace Go.Proofs.YtlhhcpbfjjhbfabDoor
open Go.RowKit
def upB (c : UInt8) : UInt8 := if 97 ≤ (c.toNat : Int) ∧ (c.toNat : Int) ≤ 122 then c - 32 else c
def ups (l : List UInt8) : List UInt8 := l.map upB
def blB (x : UInt8) : Bool := ([32, 9] : List UInt8).contains x
theorem byte_all (P : UInt8 → Prop) [DecidablePred P] (h : ∀ n : Fin 256, P (UInt8.ofNat n.1)) (c : UInt8) : P c := by
  have := h ⟨c.toNat, c.toNat_lt⟩
  simpa [UInt8.ofNat_toNat] using this
theorem up_low (c : UInt8) : low (upB c) = low c := by
  refine byte_all (fun c => low (upB c) = low c) ?_ c
  decide +kernel
theorem up_34 (c : UInt8) : (((upB c).toNat : Int) = 34) ↔ ((c.toNat : Int) = 34) := by
  refine byte_all (fun c => (((upB c).toNat : Int) = 34) ↔ ((c.toNat : Int) = 34)) ?_ c
  decide +kernel
theorem up_92 (c : UInt8) : (((upB c).toNat : Int) = 92) ↔ ((c.toNat : Int) = 92) := by
  refine byte_all (fun c => (((upB c).toNat : Int) = 92) ↔ ((c.toNat : Int) = 92)) ?_ c
  decide +kernel
theorem up_44 (c : UInt8) : (((upB c).toNat : Int) = 44) ↔ ((c.toNat : Int) = 44) := by
  refine byte_all (fun c => (((upB c).toNat : Int) = 44) ↔ ((c.toNat : Int) = 44)) ?_ c
  decide +kernel
theorem up_61 (c : UInt8) : (((upB c).toNat : Int) = 61) ↔ ((c.toNat : Int) = 61) := by
  refine byte_all (fun c => (((upB c).toNat : Int) = 61) ↔ ((c.toNat : Int) = 61)) ?_ c
  decide +kernel
theorem up_q (c : UInt8) : (upB c = 34) ↔ (c = 34) := by
  refine byte_all (fun c => (upB c = 34) ↔ (c = 34)) ?_ c
  decide +kernel
theorem up_txt (c : UInt8) : txt (upB c) = txt c := by
  refine byte_all (fun c => txt (upB c) = txt c) ?_ c
  decide +kernel
theorem up_dig (c : UInt8) : digK (upB c) = digK c := by
  refine byte_all (fun c => digK (upB c) = digK c) ?_ c
  decide +kernel
theorem up_digit (c : UInt8) (h : digK c = true) : upB c = c := by
  revert h
  refine byte_all (fun c => digK c = true → upB c = c) ?_ c
  decide +kernel
theorem up_bl (c : UInt8) : blB (upB c) = blB c := by
  refine byte_all (fun c => blB (upB c) = blB c) ?_ c
  decide +kernel
theorem ups_lows (l : List UInt8) : lows (ups l) = lows l := by
  unfold lows ups
  rw [List.map_map]
  congr 1
  funext c
  exact up_low c
theorem ups_cons (x : UInt8) (l : List UInt8) : ups (x :: l) = upB x :: ups l := rfl
theorem ups_app (a b : List UInt8) : ups (a ++ b) = ups a ++ ups b := by unfold ups; rw [List.map_append]
theorem pcs_up : ∀ (n : Nat) (q : Bool) (cur L : List UInt8), L.length ≤ n → pcs 44 q (ups cur) (ups L) = (pcs 44 q cur L).map ups := by
  intro n
  induction n with
  | zero =>
    intro q cur L h
    obtain rfl : L = [] := List.eq_nil_of_length_eq_zero (by omega)
    simp [pcs, ups]
  | succ n ih =>
    intro q cur L h
    match L, h with
    | [], _ => simp [pcs, ups]
    | x :: r, h =>
      have hr : r.length ≤ n := by simp at h; omega
      rw [ups_cons]
      by_cases h34 : (x.toNat : Int) = 34
      · rw [pcs_quote _ _ _ _ _ ((up_34 x).2 h34), pcs_quote _ _ _ _ _ h34, ← ih _ _ _ hr, ups_app]; rfl
      · have h34' : ¬ ((upB x).toNat : Int) = 34 := fun e => h34 ((up_34 x).1 e)
        by_cases h92 : q = true ∧ (x.toNat : Int) = 92
        · obtain ⟨rfl, h92⟩ := h92
          cases r with
          | nil =>
            show pcs 44 true (ups cur) [upB x] = _
            rw [pcs_esc_end _ _ _ ((up_92 x).2 h92), pcs_esc_end _ _ _ h92]
            simp [ups]
          | cons y r =>
            rw [ups_cons, pcs_esc _ _ _ _ ((up_92 x).2 h92), pcs_esc _ _ _ _ h92, ← ih _ _ r (by simp at hr; omega), ups_app]; rfl
        · have h92' : ¬ (q = true ∧ ((upB x).toNat : Int) = 92) := fun e => h92 ⟨e.1, (up_92 x).1 e.2⟩
          by_cases h44 : q = false ∧ (x.toNat : Int) = 44
          · obtain ⟨rfl, h44⟩ := h44
            rw [pcs_cut _ _ _ _ h34' ((up_44 x).2 h44), pcs_cut _ _ _ _ h34 h44, List.map_cons, ← ih _ _ _ hr]; rfl
          · have h44' : ¬ (q = false ∧ ((upB x).toNat : Int) = 44) := fun e => h44 ⟨e.1, (up_44 x).1 e.2⟩
            rw [pcs_plain _ _ _ _ _ h34' h92' h44', pcs_plain _ _ _ _ _ h34 h92 h44, ← ih _ _ _ hr, ups_app]; rfl
theorem trim_two (l : List UInt8) : trimT l = ((l.reverse.dropWhile blB).reverse).dropWhile blB := rfl
theorem dw_up (l : List UInt8) : (ups l).dropWhile blB = ups (l.dropWhile blB) := by
  unfold ups
  rw [List.dropWhile_map]
  congr 1
  congr 1
  funext c
  exact up_bl c
theorem trim_up (l : List UInt8) : trimT (ups l) = ups (trimT l) := by
  rw [trim_two, trim_two]
  have e1 : (ups l).reverse = ups l.reverse := by unfold ups; rw [List.map_reverse]
  rw [e1, dw_up]
  have e2 : (ups (l.reverse.dropWhile blB)).reverse = ups ((l.reverse.dropWhile blB).reverse) := by unfold ups; rw [List.map_reverse]
  rw [e2, dw_up]
theorem filt_up (ps : List (List UInt8)) : filt (ps.map ups) = (filt ps).map ups := by
  unfold filt
  rw [List.filter_map]
  congr 1
  congr 1
  funext l
  simp [ups]
theorem listOf_up (L : List UInt8) : listOf (ups L) = (listOf L).map ups := by
  unfold listOf
  have h := pcs_up L.length false [] L (Nat.le_refl _)
  rw [show pieces 44 (ups L) = (pieces 44 L).map ups from h, ← filt_up, List.map_map, List.map_map]
  congr 2
  funext p
  exact trim_up p
theorem eqPos_up (l : List UInt8) : eqPos (ups l) = eqPos l := by
  induction l with
  | nil => rfl
  | cons x l ih =>
    rw [ups_cons, eqPos, eqPos, ih]
    by_cases h : (x.toNat : Int) = 61
    · rw [if_pos h, if_pos ((up_61 x).2 h)]
    · rw [if_neg h, if_neg (fun e => h ((up_61 x).1 e))]
theorem unqI_up : ∀ (n : Nat) (L : List UInt8), L.length ≤ n → unqI (ups L) = (unqI L).map ups := by
  intro n
  induction n with
  | zero =>
    intro L h
    obtain rfl : L = [] := List.eq_nil_of_length_eq_zero (by omega)
    simp [unqI, ups]
  | succ n ih =>
    intro L h
    match L, h with
    | [], _ => simp [unqI, ups]
    | x :: r, h =>
      have hr : r.length ≤ n := by simp at h; omega
      rw [ups_cons]
      by_cases h92 : (x.toNat : Int) = 92
      · have h92' := (up_92 x).2 h92
        cases r with
        | nil =>
          show unqI [upB x] = _
          rw [unqI_end _ h92', unqI_end _ h92]; rfl
        | cons d r =>
          rw [ups_cons]
          cases hd : txt d with
          | true =>
            rw [unqI_esc _ _ _ h92' (by rw [up_txt]; exact hd), unqI_esc _ _ _ h92 hd, ih r (by simp at hr; omega), Option.map_map, Option.map_map]
            rfl
          | false => rw [unqI_escbad _ _ _ h92' (by rw [up_txt]; exact hd), unqI_escbad _ _ _ h92 hd]; rfl
      · have h92' : ¬ ((upB x).toNat : Int) = 92 := fun e => h92 ((up_92 x).1 e)
        by_cases h34 : (x.toNat : Int) = 34
        · rw [unqI_quote _ _ ((up_34 x).2 h34), unqI_quote _ _ h34]; rfl
        · have h34' : ¬ ((upB x).toNat : Int) = 34 := fun e => h34 ((up_34 x).1 e)
          cases hd : txt x with
          | true =>
            rw [unqI_plain _ _ h92' h34' (by rw [up_txt]; exact hd), unqI_plain _ _ h92 h34 hd, ih r hr, Option.map_map, Option.map_map]
            rfl
          | false => rw [unqI_bad _ _ h92' h34' (by rw [up_txt]; exact hd), unqI_bad _ _ h92 h34 hd]; rfl
def frL (l : List UInt8) : Bool := if h : 2 ≤ l.length then decide (((l[0]'(by omega)).toNat : Int) = 34 ∧ ((l[l.length - 1]'(by omega)).toNat : Int) = 34) else false
theorem framed_l (l : List UInt8) : framed ⟨l.toArray⟩ = frL l := rfl
theorem inner_l (l : List UInt8) : inner ⟨l.toArray⟩ = (l.drop 1).take (l.length - 2) := rfl
theorem frL_up (l : List UInt8) : frL (ups l) = frL l := by
  unfold frL
  have hl : (ups l).length = l.length := by simp [ups]
  by_cases h : 2 ≤ l.length
  · rw [dif_pos h, dif_pos (by rw [hl]; exact h)]
    have e0 : (ups l)[0]'(by rw [hl]; omega) = upB (l[0]'(by omega)) := by simp [ups]
    have e1 : (ups l)[(ups l).length - 1]'(by omega) = upB (l[l.length - 1]'(by omega)) := by simp [ups]
    rw [e0, e1]
    simp only [up_34]
  · rw [dif_neg h, dif_neg (by rw [hl]; exact h)]
theorem unqS_up (l : List UInt8) : (unqS ⟨(ups l).toArray⟩).1 = ups (unqS ⟨l.toArray⟩).1 := by
  unfold unqS
  rw [framed_l, framed_l, frL_up]
  cases frL l with
  | false => rfl
  | true =>
    rw [if_pos rfl, if_pos rfl, inner_l, inner_l]
    have e : ((ups l).drop 1).take ((ups l).length - 2) = ups ((l.drop 1).take (l.length - 2)) := by simp [ups, List.map_take]
    rw [e]
    have h := unqI_up _ ((l.drop 1).take (l.length - 2)) (Nat.le_refl _)
    cases hu : unqI ((l.drop 1).take (l.length - 2)) with
    | none => rw [hu] at h; rw [unqR_none hu, unqR_none h]; rfl
    | some o => rw [hu] at h; rw [unqR_some hu, unqR_some h]
theorem argOf_up (a : List UInt8) : argOf (ups a) = ups (argOf a) := by
  unfold argOf
  have e : ((ups a).head? = some 34) ↔ (a.head? = some 34) := by
    cases a with
    | nil => simp [ups]
    | cons x r => simp [ups, up_q]
  by_cases h : a.head? = some 34
  · rw [if_pos h, if_pos (e.2 h), unqS_up]
  · rw [if_neg h, if_neg (fun x => h (e.1 x))]
def upD (d : DV) : DV := (d.1, ups d.2.1, d.2.2)
theorem dirOf_up (el : List UInt8) : dirOf (ups el) = upD (dirOf el) := by
  unfold dirOf upD
  have hl : (ups el).length = el.length := by simp [ups]
  have e1 : (ups el).take (eqPos el) = ups (el.take (eqPos el)) := by simp [ups, List.map_take]
  have e2 : (ups el).drop (eqPos el + 1) = ups (el.drop (eqPos el + 1)) := by simp [ups, List.map_drop]
  rw [eqPos_up, hl, e1, e2, ups_lows, argOf_up]
  by_cases h : eqPos el < el.length
  · rw [if_pos h, if_pos h]
  · rw [if_neg h, if_neg h]; rfl
theorem dirs_up (v : List UInt8) : dirsOf [ups v] = (dirsOf [v]).map upD := by
  rw [dirs_one, dirs_one, listOf_up, List.map_map, List.map_map]
  congr 1
  funext el
  exact dirOf_up el
theorem all_up (l : List UInt8) : (ups l).all digK = l.all digK := by
  unfold ups
  rw [List.all_map]
  congr 1
  funext c
  exact up_dig c
theorem ups_digits (l : List UInt8) (h : l.all digK = true) : ups l = l := by
  induction l with
  | nil => rfl
  | cons c l ih =>
    rw [List.all_cons, Bool.and_eq_true] at h
    rw [ups_cons, up_digit c h.1, ih h.2]
theorem secs_up (l : List UInt8) : secs (ups l) = secs l := by
  by_cases h : l.all digK = true
  · rw [ups_digits l h]
  · unfold secs
    rw [if_neg (fun x => h (by rw [← all_up]; exact x.2)), if_neg (fun x => h x.2)]
theorem fnd_up (ds : List DV) (nm : List UInt8) : fndD (ds.map upD) nm = (fndD ds nm).map upD := by
  unfold fndD
  rw [List.find?_map]
  rfl
theorem has_up (ds : List DV) (nm : List UInt8) : hasD (ds.map upD) nm = hasD ds nm := by
  unfold hasD
  rw [fnd_up, Option.isSome_map]
theorem num_up (ds : List DV) (nm : List UInt8) : numD (ds.map upD) nm = numD ds nm := by
  unfold numD
  rw [fnd_up]
  cases fndD ds nm with
  | none => rfl
  | some d => simp only [Option.map_some, numO, upD]; rw [secs_up]
theorem stl_up (ds : List DV) (nm : List UInt8) : stlO (fndD (ds.map upD) nm) = stlO (fndD ds nm) := by
  rw [fnd_up]
  cases fndD ds nm with
  | none => rfl
  | some d => simp only [Option.map_some, stlO, upD]; rw [secs_up]
theorem ctl_up (v : List UInt8) (pr : Bool) : ctlV (dirsOf [ups v]) pr = ctlV (dirsOf [v]) pr := by
  unfold ctlV
  rw [dirs_up]
  simp only [has_up, num_up, stl_up]
theorem pcs_parts (b : List UInt8) : ∀ (a : List UInt8), (∀ x ∈ a, ¬ (x.toNat : Int) = 34) → ∀ cur, pcs 44 false cur (a ++ 44 :: b) = pcs 44 false cur a ++ pcs 44 false [] b := by
  intro a
  induction a with
  | nil => intro _ cur; rw [List.nil_append, pcs_cut _ _ _ _ (by decide) (by decide)]; rfl
  | cons x a ih =>
    intro h cur
    have hx := h x List.mem_cons_self
    have ha := fun y hy => h y (List.mem_cons_of_mem _ hy)
    rw [List.cons_append]
    by_cases h44 : (x.toNat : Int) = 44
    · rw [pcs_cut _ _ _ _ hx h44, pcs_cut _ _ _ _ hx h44, ih ha]; rfl
    · rw [pcs_plain _ _ _ _ _ hx (by simp) (by simpa using h44), pcs_plain _ _ _ _ _ hx (by simp) (by simpa using h44), ih ha]
theorem listOf_parts (a b : List UInt8) (h : ∀ x ∈ a, ¬ (x.toNat : Int) = 34) : listOf (a ++ 44 :: b) = listOf a ++ listOf b := by
  unfold listOf pieces filt
  rw [pcs_parts b a h, List.map_append, List.filter_append]
theorem dirs_parts (a b : List UInt8) (h : ∀ x ∈ a, ¬ (x.toNat : Int) = 34) : dirsOf [a ++ 44 :: b] = dirsOf [a, b] := by
  rw [dirs_one, listOf_parts a b h, List.map_append, show [a, b] = [a] ++ [b] from rfl, dirs_app, dirs_one, dirs_one]
theorem pcs_whole : ∀ (l : List UInt8), (∀ x ∈ l, ¬ (x.toNat : Int) = 34 ∧ ¬ (x.toNat : Int) = 44) → ∀ cur, pcs 44 false cur l = [cur ++ l] := by
  intro l
  induction l with
  | nil => intro _ cur; simp [pcs]
  | cons x l ih =>
    intro h cur
    have hx := h x List.mem_cons_self
    rw [pcs_plain _ _ _ _ _ hx.1 (by simp) (by simpa using hx.2), ih (fun y hy => h y (List.mem_cons_of_mem _ hy))]
    simp
theorem dw_none (l : List UInt8) (h : ∀ x ∈ l, blB x = false) : l.dropWhile blB = l := by
  cases l with
  | nil => rfl
  | cons x l => rw [List.dropWhile_cons, h x List.mem_cons_self]; rfl
theorem trim_none (l : List UInt8) (h : ∀ x ∈ l, blB x = false) : trimT l = l := by
  rw [trim_two, dw_none l.reverse (fun x hx => h x (List.mem_reverse.1 hx)), List.reverse_reverse, dw_none l h]
/-- bytes of a word: no quote, no comma, no blank -/
def wrdB (c : UInt8) : Bool := decide (¬ (c.toNat : Int) = 34 ∧ ¬ (c.toNat : Int) = 44) && !blB c
theorem listOf_word (l : List UInt8) (hne : l ≠ []) (h : l.all wrdB = true) : listOf l = [l] := by
  rw [List.all_eq_true] at h
  have h1 : ∀ x ∈ l, ¬ (x.toNat : Int) = 34 ∧ ¬ (x.toNat : Int) = 44 := fun x hx => by
    have := h x hx
    unfold wrdB at this
    rw [Bool.and_eq_true] at this
    exact of_decide_eq_true this.1
  have h2 : ∀ x ∈ l, blB x = false := fun x hx => by
    have := h x hx
    unfold wrdB at this
    rw [Bool.and_eq_true] at this
    simpa using this.2
  unfold listOf pieces filt
  rw [pcs_whole l h1]
  simp only [List.nil_append, List.map_cons, List.map_nil, trim_none l h2]
  rw [List.filter_cons_of_pos (by cases l <;> simp_all)]
  rfl
theorem dig_wrd (c : UInt8) (h : digK c = true) : wrdB c = true := by
  revert h
  refine byte_all (fun c => digK c = true → wrdB c = true) ?_ c
  decide +kernel
theorem dig_ofNat (k : Nat) : digK (UInt8.ofNat (48 + k % 10)) = true := by
  have : ∀ i : Fin 10, digK (UInt8.ofNat (48 + i.1)) = true := by decide +kernel
  exact this ⟨k % 10, by omega⟩
theorem dec_last (k : Nat) (h : ¬ k < 10) : Lib.decDigits k = Lib.decDigits (k / 10) ++ [UInt8.ofNat (48 + k % 10)] := by
  rw [Lib.decDigits, dif_neg h]
theorem dec_digits : ∀ (m k : Nat), k ≤ m → (Lib.decDigits k).all digK = true ∧ Lib.decDigits k ≠ [] := by
  intro m
  induction m with
  | zero => intro k h; obtain rfl : k = 0 := by omega
            rw [Lib.decDigits_one (by omega)]; exact ⟨by decide +kernel, by simp⟩
  | succ m ih =>
    intro k h
    by_cases h1 : k < 10
    · rw [Lib.decDigits_one h1]
      refine ⟨?_, by simp⟩
      have := dig_ofNat k
      rw [show k % 10 = k by omega] at this
      rw [List.all_cons, this]
      rfl
    · rw [dec_last k h1]
      refine ⟨?_, by simp⟩
      rw [List.all_append, (ih (k / 10) (by omega)).1, List.all_cons, dig_ofNat k]
      rfl
theorem dig_natK (k : Nat) : (((UInt8.ofNat (48 + k % 10)).toNat : Nat) : Int) - 48 = ((k % 10 : Nat) : Int) := by
  rw [UInt8.toNat_ofNat']; omega
theorem secF_dec : ∀ (m k : Nat), k ≤ m → k ≤ 2147483648 → secF (Lib.decDigits k) = (k : Int) := by
  intro m
  induction m with
  | zero => intro k h _; obtain rfl : k = 0 := by omega
            rw [Lib.decDigits_one (by omega)]; decide +kernel
  | succ m ih =>
    intro k h hc
    by_cases h1 : k < 10
    · rw [Lib.decDigits_one h1]
      have := dig_natK k
      rw [show k % 10 = k by omega] at this
      show secS 0 _ = _
      unfold secS
      rw [this]
      omega
    · rw [dec_last k h1, secF_snoc, ih (k / 10) (by omega) (by omega)]
      unfold secS
      rw [dig_natK]
      omega
theorem secs_dec (k : Nat) (h : k ≤ 2147483648) : secs (Lib.decDigits k) = (k : Int) := by
  obtain ⟨h1, h2⟩ := dec_digits k k (Nat.le_refl _)
  rw [secs_ok _ h2 h1, secF_dec k k (Nat.le_refl _) h]
theorem arg_dec (k : Nat) : argOf (Lib.decDigits k) = Lib.decDigits k := by
  obtain ⟨h1, h2⟩ := dec_digits k k (Nat.le_refl _)
  unfold argOf
  rw [if_neg]
  intro e
  cases hd : Lib.decDigits k with
  | nil => exact h2 hd
  | cons x r =>
    rw [hd] at e h1
    simp at e
    subst e
    rw [List.all_cons, Bool.and_eq_true] at h1
    exact absurd h1.1 (by decide +kernel)
theorem word_dec (p : List UInt8) (hp : p.all wrdB = true) (k : Nat) : (p ++ Lib.decDigits k).all wrdB = true := by
  rw [List.all_append, hp, Bool.true_and, List.all_eq_true]
  intro x hx
  have := (dec_digits k k (Nat.le_refl _)).1
  rw [List.all_eq_true] at this
  exact dig_wrd x (this x hx)
theorem dir_ma (k : Nat) : dirOf (mab ++ 61 :: Lib.decDigits k) = (mab, Lib.decDigits k, true) := by
  have e : eqPos (mab ++ 61 :: Lib.decDigits k) = 7 := by simp [mab, eqPos]
  have hl : 7 < (mab ++ 61 :: Lib.decDigits k).length := by simp only [mab, List.cons_append, List.nil_append, List.length_cons]; omega
  have e2 : (mab ++ 61 :: Lib.decDigits k).drop (7 + 1) = Lib.decDigits k := rfl
  unfold dirOf
  rw [e, if_pos hl, decide_eq_true hl, e2, arg_dec]
  rfl
theorem dir_sm (k : Nat) : dirOf (smb ++ 61 :: Lib.decDigits k) = (smb, Lib.decDigits k, true) := by
  have e : eqPos (smb ++ 61 :: Lib.decDigits k) = 8 := by simp [smb, eqPos]
  have hl : 8 < (smb ++ 61 :: Lib.decDigits k).length := by simp only [smb, List.cons_append, List.nil_append, List.length_cons]; omega
  have e2 : (smb ++ 61 :: Lib.decDigits k).drop (8 + 1) = Lib.decDigits k := rfl
  unfold dirOf
  rw [e, if_pos hl, decide_eq_true hl, e2, arg_dec]
  rfl
theorem no_quote (p : List UInt8) (h : p.all wrdB = true) : ∀ x ∈ p, ¬ (x.toNat : Int) = 34 := by
  intro x hx
  rw [List.all_eq_true] at h
  have := h x hx
  unfold wrdB at this
  rw [Bool.and_eq_true] at this
  exact (of_decide_eq_true this.1).1
def firstT (k : Nat) (rest : List UInt8) : List UInt8 := (mab ++ 61 :: Lib.decDigits k) ++ 44 :: ((smb ++ 61 :: Lib.decDigits k) ++ 44 :: rest)
theorem dirs_first (k : Nat) (rest : List UInt8) : dirsOf [firstT k rest] = (mab, Lib.decDigits k, true) :: (smb, Lib.decDigits k, true) :: dirsOf [rest] := by
  have w1 : (mab ++ 61 :: Lib.decDigits k).all wrdB = true := by
    have := word_dec (mab ++ [61]) (by decide +kernel) k
    simpa using this
  have w2 : (smb ++ 61 :: Lib.decDigits k).all wrdB = true := by
    have := word_dec (smb ++ [61]) (by decide +kernel) k
    simpa using this
  unfold firstT
  rw [dirs_parts _ _ (no_quote _ w1), show ∀ a b : List UInt8, [a, b] = [a] ++ [b] from fun _ _ => rfl, dirs_app, dirs_parts _ _ (no_quote _ w2), show ∀ a b : List UInt8, [a, b] = [a] ++ [b] from fun _ _ => rfl, dirs_app]
  rw [dirs_one (mab ++ _), dirs_one (smb ++ _), listOf_word _ (by simp [mab]) w1, listOf_word _ (by simp [smb]) w2, List.map_cons, List.map_cons, dir_ma, dir_sm]
  rfl
theorem first_ma (k : Nat) (h : k ≤ 2147483648) (rest : List UInt8) : numD (dirsOf [firstT k rest]) mab = (k : Int) := by
  rw [dirs_first]
  unfold numD fndD
  rw [List.find?_cons_of_pos (by simp)]
  simp only [numO]
  rw [secs_dec k h]
  omega
theorem first_sm (k : Nat) (h : k ≤ 2147483648) (rest : List UInt8) : numD (dirsOf [firstT k rest]) smb = (k : Int) := by
  have e : ¬ mab = smb := by decide
  rw [dirs_first]
  unfold numD fndD
  rw [List.find?_cons_of_neg (by simp only [e]; decide), List.find?_cons_of_pos (by simp)]
  simp only [numO]
  rw [secs_dec k h]
  omega
end Go.Proofs.YtlhhcpbfjjhbfabDoor
