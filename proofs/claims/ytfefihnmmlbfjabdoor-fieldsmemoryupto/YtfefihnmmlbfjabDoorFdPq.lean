/- What is printed is read as it was; what is read is good. -/
import Derived.Test.YtfefihnmmlbfjabDoorFdPr
import Derived.Test.YtfefihnmmlbfjabDoorOpnF
namespace Go.Proofs.YtfefihnmmlbfjabDoor
open Go.RowKit
theorem dw_self {p : UInt8 → Bool} {l : List UInt8} (h : (l.dropWhile p).length = l.length) : l = [] ∨ ∃ c t, l = c :: t ∧ p c = false := by
  cases l with
  | nil => exact Or.inl rfl
  | cons c t =>
    right
    refine ⟨c, t, rfl, ?_⟩
    cases hp : p c with
    | false => rfl
    | true =>
      rw [List.dropWhile_cons, hp] at h
      have := dropWhile_len p t
      simp only [if_true, List.length_cons] at h
      omega
theorem trim_blank (v : List UInt8) (h : trimT v = v) : trimT (32 :: v) = v := by
  have h0 := h
  unfold trimT Lib.trimS Lib.trimLeftS Lib.trimRightS at h
  have hl := congrArg List.length h
  have a1 := dropWhile_len (fun x => ([32, 9] : List UInt8).contains x) v.reverse
  have a2 := dropWhile_len (fun x => ([32, 9] : List UInt8).contains x) (List.dropWhile (fun x => ([32, 9] : List UInt8).contains x) v.reverse).reverse
  rw [List.length_reverse] at a1 a2
  have e1 : (v.reverse.dropWhile (fun x => ([32, 9] : List UInt8).contains x)).length = v.reverse.length := by rw [List.length_reverse]; omega
  have hr : (32 :: v).reverse = v.reverse ++ [32] := by simp
  unfold trimT Lib.trimS Lib.trimLeftS Lib.trimRightS
  rw [hr]
  rcases dw_self e1 with e | ⟨c, t, e, hc⟩
  · have : v = [] := by simpa using e
    subst this
    rfl
  · have e2 : v = (c :: t).reverse := by rw [← e]; simp
    have e3 : (v.reverse ++ [32]).dropWhile (fun x => ([32, 9] : List UInt8).contains x) = v.reverse ++ [32] := by
      rw [e, List.cons_append, List.dropWhile_cons, if_neg (by rw [hc]; simp)]
    have e4 : v.reverse.dropWhile (fun x => ([32, 9] : List UInt8).contains x) = v.reverse := by
      rw [e, List.dropWhile_cons, if_neg (by rw [hc]; simp)]
    rw [e4, List.reverse_reverse] at h
    rw [e3, List.reverse_append, List.reverse_reverse]
    show List.dropWhile _ (32 :: v) = v
    rw [List.dropWhile_cons, if_pos (by decide)]
    exact h
theorem tok_facts (c : UInt8) (h : tokI (c.toNat : Int) = true) : isEnd c = false ∧ noCol c = true ∧ blankI (c.toNat : Int) = false := by
  have : ∀ n : Nat, n < 256 → tokI ((UInt8.ofNat n).toNat : Int) = true → isEnd (UInt8.ofNat n) = false ∧ noCol (UInt8.ofNat n) = true ∧ blankI ((UInt8.ofNat n).toNat : Int) = false := by decide +kernel
  have k := this c.toNat c.toNat_lt
  rw [UInt8.ofNat_toNat] at k
  exact k h
theorem txt_facts (c : UInt8) (h : txt c = true) : isEnd c = false := by
  have : ∀ n : Nat, n < 256 → txt (UInt8.ofNat n) = true → isEnd (UInt8.ofNat n) = false := by decide +kernel
  have k := this c.toNat c.toNat_lt
  rw [UInt8.ofNat_toNat] at k
  exact k h
theorem good_parts {f : List UInt8 × List UInt8} (h : goodF f = true) : (∃ c t, f.1 = c :: t) ∧ (∀ c ∈ f.1, tokI (c.toNat : Int) = true) ∧ (∀ c ∈ f.2, txt c = true) ∧ trimT f.2 = f.2 := by
  unfold goodF isTok goodV at h
  simp only [Bool.and_eq_true, Bool.not_eq_true', decide_eq_true_eq, List.all_eq_true] at h
  obtain ⟨⟨h1, h2⟩, h3, h4⟩ := h
  refine ⟨?_, h2, h3, h4⟩
  cases hf : f.1 with
  | nil => rw [hf] at h1; simp at h1
  | cons c t => exact ⟨c, t, rfl⟩
theorem step_line : ∀ (l r : List UInt8), (∀ c ∈ l, isEnd c = false) → stepOf (l ++ 13 :: 10 :: r) = some (l, r) := by
  intro l
  induction l with
  | nil => intro r _; simp [stepOf]
  | cons b t ih =>
    intro r h
    have hb := h b (List.mem_cons_self ..)
    have h13 : b ≠ 13 := by intro e; subst e; exact absurd hb (by decide)
    have h10 : b ≠ 10 := by intro e; subst e; exact absurd hb (by decide)
    rw [List.cons_append, stepOf.eq_def]
    simp only
    rw [if_neg h13, if_neg h10, ih r (fun c hc => h c (List.mem_cons_of_mem _ hc))]
    rfl
theorem line_print (f : List UInt8 × List UInt8) (h : goodF f = true) : lineOf (f.1 ++ 58 :: 32 :: f.2) = (f, 0) := by
  obtain ⟨⟨c, t, e⟩, htok, _, htrim⟩ := good_parts h
  have hb : blankFirst (f.1 ++ 58 :: 32 :: f.2) = false := by
    rw [e, List.cons_append]
    exact (tok_facts c (htok c (by rw [e]; exact List.mem_cons_self ..))).2.2
  have ha : (f.1 ++ 58 :: 32 :: f.2).all noCol = false := by
    rw [List.all_append, List.all_cons, show noCol 58 = false from by decide]; simp
  have hn : nameOf (f.1 ++ 58 :: 32 :: f.2) = f.1 := by
    unfold nameOf
    rw [List.takeWhile_append_of_pos (fun a ha => (tok_facts a (htok a ha)).2.1), List.takeWhile_cons, if_neg (by decide), List.append_nil]
  have hr : restOf (f.1 ++ 58 :: 32 :: f.2) = 32 :: f.2 := by
    unfold restOf
    rw [List.dropWhile_append_of_pos (fun a ha => (tok_facts a (htok a ha)).2.1), List.dropWhile_cons, if_neg (by decide)]
    rfl
  unfold lineOf
  rw [if_neg (by rw [hb]; simp), if_neg (by rw [ha]; simp), hn, hr, trim_blank f.2 htrim, if_pos (by exact h)]
theorem parse_print : ∀ (fs acc : FL), fs.all goodF = true → acc.length + fs.length ≤ 100 → parseG (printOf fs) acc = (acc ++ fs, 0) := by
  intro fs
  induction fs with
  | nil => intro acc _ _; rw [List.append_nil]; exact parse_nil acc
  | cons f r ih =>
    intro acc h hl
    rw [List.all_cons, Bool.and_eq_true] at h
    rw [List.length_cons] at hl
    obtain ⟨_, htok, htxt, _⟩ := good_parts h.1
    have e : printOf (f :: r) = (f.1 ++ 58 :: 32 :: f.2) ++ 13 :: 10 :: printOf r := by
      unfold printOf lineB; simp
    have hs : stepOf (printOf (f :: r)) = some (f.1 ++ 58 :: 32 :: f.2, printOf r) := by
      rw [e]
      refine step_line _ _ (fun c hc => ?_)
      rcases List.mem_append.1 hc with hc | hc
      · exact (tok_facts c (htok c hc)).1
      · rcases List.mem_cons.1 hc with rfl | hc
        · decide
        · rcases List.mem_cons.1 hc with rfl | hc
          · decide
          · exact txt_facts c (htxt c hc)
    have hp := line_print f h.1
    rw [parse_next _ _ _ acc hs (by rw [hp]) (by omega), hp, ih _ h.2 (by rw [List.length_append, List.length_singleton]; omega), List.append_assoc]
    rfl
theorem parse_printP (fs : FL) (h : (printP fs).2 = 0) : parseOf (printP fs).1 = (fs, 0) := by
  unfold printP at h ⊢
  by_cases h1 : fs.all goodF = false
  · rw [if_pos h1] at h; cases h
  · by_cases h2 : 100 < fs.length
    · rw [if_neg h1, if_pos h2] at h; cases h
    · rw [if_neg h1, if_neg h2]
      exact parse_print fs [] (by simpa using h1) (by simpa using Nat.le_of_not_lt h2)
theorem printP_bad (fs : FL) (h : (printP fs).2 ≠ 0) : (printP fs).1 = [] := by
  unfold printP at h ⊢
  by_cases h1 : fs.all goodF = false
  · rw [if_pos h1]
  · by_cases h2 : 100 < fs.length
    · rw [if_neg h1, if_pos h2]
    · rw [if_neg h1, if_neg h2] at h; exact absurd rfl h
theorem line_good (l : List UInt8) (h : (lineOf l).2 = 0) : goodF (lineOf l).1 = true ∧ (lineOf l).1.1.length + (lineOf l).1.2.length + 1 ≤ l.length := by
  unfold lineOf at h ⊢
  by_cases h1 : blankFirst l = true
  · rw [if_pos h1] at h; cases h
  · by_cases h2 : l.all noCol = true
    · rw [if_neg h1, if_pos h2] at h; cases h
    · by_cases h3 : goodF (nameOf l, trimT (restOf l)) = true
      · rw [if_neg h1, if_neg h2, if_pos h3]
        refine ⟨h3, ?_⟩
        have t1 := trimT_len (restOf l)
        have e : l = nameOf l ++ l.dropWhile noCol := (List.takeWhile_append_dropWhile).symm
        have el := congrArg List.length e
        rw [List.length_append] at el
        have hne : l.dropWhile noCol ≠ [] := by
          intro e0
          rw [e0, List.append_nil] at e
          apply h2
          rw [List.all_eq_true]
          intro x hx
          rw [e] at hx
          exact List.all_eq_true.1 (List.all_takeWhile (p := noCol) (l := l)) x hx
        have hp : 0 < (l.dropWhile noCol).length := List.length_pos_iff.2 hne
        have hd : (restOf l).length = (l.dropWhile noCol).length - 1 := by unfold restOf; rw [List.length_drop]
        show (nameOf l).length + (trimT (restOf l)).length + 1 ≤ l.length
        omega
      · rw [if_neg h1, if_neg h2, if_neg h3] at h; cases h
theorem print_app (a b : FL) : (printOf (a ++ b)).length = (printOf a).length + (printOf b).length := by
  unfold printOf; rw [List.map_append, List.flatten_append, List.length_append]
theorem parseF_good : ∀ (n : Nat) (bs : List UInt8) (acc : FL), acc.all goodF = true → ((parseF n bs acc).2 = 0 → (parseF n bs acc).1.all goodF = true) ∧ (printOf (parseF n bs acc).1).length ≤ (printOf acc).length + 2 * bs.length ∧ ((parseF n bs acc).2 ≠ 0 → (parseF n bs acc).1 = []) := by
  intro n
  induction n with
  | zero => intro bs acc h; exact ⟨fun _ => h, by show (printOf acc).length ≤ _; omega, fun e => absurd rfl e⟩
  | succ n ih =>
    intro bs acc h
    unfold parseF
    by_cases h0 : bs = []
    · rw [if_pos h0]; exact ⟨fun _ => h, by show (printOf acc).length ≤ _; omega, fun e => absurd rfl e⟩
    · rw [if_neg h0]
      cases hs : stepOf bs with
      | none => exact ⟨(fun e => by cases e), by simp [printOf], fun _ => rfl⟩
      | some p =>
        obtain ⟨l, r⟩ := p
        have hl := step_len hs
        simp only
        by_cases h1 : (lineOf l).2 ≠ 0
        · rw [if_pos h1]; exact ⟨fun e => absurd e h1, by simp [printOf], fun _ => rfl⟩
        · rw [if_neg h1]
          by_cases h2 : 100 ≤ acc.length
          · rw [if_pos h2]; exact ⟨(fun e => by cases e), by simp [printOf], fun _ => rfl⟩
          · rw [if_neg h2]
            obtain ⟨g1, g2⟩ := line_good l (Classical.not_not.1 h1)
            obtain ⟨i1, i2, i3⟩ := ih r (acc ++ [(lineOf l).1]) (by rw [List.all_append, h]; simp [g1])
            refine ⟨i1, ?_, i3⟩
            rw [print_app] at i2
            have e : (printOf [(lineOf l).1]).length = (lineOf l).1.1.length + (lineOf l).1.2.length + 4 := by
              unfold printOf; simp only [List.map_cons, List.map_nil, List.flatten_cons, List.flatten_nil, List.append_nil]; exact lineB_len _
            omega
theorem parse_good (bs : List UInt8) (h : (parseOf bs).2 = 0) : printP (parseOf bs).1 = (printOf (parseOf bs).1, 0) := by
  have g := (parseF_good (bs.length + 1) bs [] rfl).1 h
  have l := parse_len bs
  have g' : (parseOf bs).1.all goodF = true := g
  unfold printP
  rw [if_neg (by rw [g']; simp), if_neg (by omega)]
theorem parse_plen (bs : List UInt8) : (printOf (parseOf bs).1).length ≤ 2 * bs.length := by
  have h := (parseF_good (bs.length + 1) bs [] rfl).2.1
  have e : (printOf []).length = 0 := rfl
  rw [e, Nat.zero_add] at h
  exact h
theorem parse_bad0 (bs : List UInt8) (h : (parseOf bs).2 ≠ 0) : (parseOf bs).1 = [] := (parseF_good (bs.length + 1) bs [] rfl).2.2 h
theorem print_mem (fs : FL) : ∀ f ∈ fs, f.1.length + f.2.length ≤ (printOf fs).length := by
  induction fs with
  | nil => intro f hf; cases hf
  | cons g r ih =>
    intro f hf
    have e : (printOf (g :: r)).length = (lineB g).length + (printOf r).length := by unfold printOf; simp
    have e2 := lineB_len g
    rcases List.mem_cons.1 hf with rfl | hf
    · omega
    · have := ih f hf; omega
theorem print_bulk (fs : FL) : (printOf fs).length ≤ 2 * bulkF fs := by
  induction fs with
  | nil => simp [printOf, bulkF]
  | cons g r ih =>
    have e : (printOf (g :: r)).length = (lineB g).length + (printOf r).length := by unfold printOf; simp
    have e2 := lineB_len g
    simp only [bulkF]
    omega
end Go.Proofs.YtfefihnmmlbfjabDoor
