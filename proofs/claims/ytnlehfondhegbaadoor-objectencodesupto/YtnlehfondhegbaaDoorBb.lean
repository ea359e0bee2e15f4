/- The contracts of goodValue and good, and of the document's Value. The bodies of the library's functions that are met here are those that the kit's contracts were proved of: the tables of numbers, checked body by body. Lines of fields in plain words; strings.Cut at a colon; the library's variable that its search looks at. The bodies of the library's functions that are met here are those that the kit's contracts were proved of: the tables of numbers, checked body by body. Bytes that are gone through line by line, in plain words; a list of bytes; the library's Cut at a line's end. The contract of Parse. -/
import Derived.Test.YtnlehfondhegbaaDoorBa
import Derived.Shelf.Strings.Cut
import Derived.Shelf.Strings.IndexAnyAll
import Derived.Test.YtnlehfondhegbaaDoorProg
import Derived.Lib.Split
import Derived.Lib.IndexAny
import Derived.Shelf.Vars
import Derived.Shelf.Bytes.SlCut
import Derived.Shelf.LaysM
import Derived.Lib.SlBytesConst
namespace Go.Proofs.YtnlehfondhegbaaDoor
open Go.RowKit
def goodV (l : List UInt8) : Bool := l.all txt && decide (trimT l = l)
def goodF (f : List UInt8 × List UInt8) : Bool := isTok f.1 && goodV f.2
theorem all_bad (s : ByteArray) (k : Nat) (h : k < s.size) (hc : txt s[k] = false) : goodV s.data.toList = false := by
  unfold goodV
  rw [all_false s.data.toList k (by simpa using h) hc, Bool.false_and]
theorem all_step (s : ByteArray) (k : Nat) (h : k < s.size) (hc : txt s[k] = true) (ha : (s.data.toList.take k).all txt = true) : (s.data.toList.take (k + 1)).all txt = true := by
  rw [take_snoc s k h, List.all_append, ha]; simp [hc]
theorem all_end (s : ByteArray) (k : Nat) (h : s.size ≤ k) (ha : (s.data.toList.take k).all txt = true) : goodV s.data.toList = decide (trimT s.data.toList = s.data.toList) := by
  rw [take_all s k h] at ha
  unfold goodV; rw [ha, Bool.true_and]
theorem trim_eq (s : ByteArray) (h : trimT s.data.toList = s.data.toList) : (⟨(trimT s.data.toList).toArray⟩ : ByteArray) = s := by rw [h]
theorem trim_ne (s : ByteArray) (h : ¬ trimT s.data.toList = s.data.toList) : ((⟨(trimT s.data.toList).toArray⟩ : ByteArray).toList == s.toList) = false := by
  rw [Lib.toList_data, Lib.toList_data]; simpa using h
theorem trim_ne2 (s : ByteArray) (h : ¬ trimT s.data.toList = s.data.toList) : (trimT s.data.toList == s.toList) = false := by
  rw [Lib.toList_data]; simpa using h
set_option maxRecDepth 20000 in
set_option maxHeartbeats 1000000 in
theorem goodValueTok (s : ByteArray) (w : World) (hs : s.size ≤ 140737488351232) :
    Calls Tryd.prog 50 #[.string s] w fun e w' => e = .returned (.bool (goodV s.data.toList)) ∧ Below w.heap.size w w' := by
  have cT := hide' (trimTok s w hs)
  go_enter Tryd.func50, Tryd.ntmps50
  go_wp2_with fail
  go_loop [6] (fun i => ∃ k : Nat, k ≤ s.size ∧ i = .int .i64 k ∧ Hid ((s.data.toList.take k).all txt = true)) (fun i => s.size - (intOf i).toNat)
  case atStart => exact ⟨0, by omega, rfl, by unfold Hid; simp⟩
  case round =>
    obtain ⟨k, hk, rfl, ha⟩ := hrel
    by_cases hlt : k < s.size
    · have hb := byte_lt s[k]
      cases ht : txtI (s[k].toNat : Int) with
      | true =>
        have A := hide' (all_step s k hlt ht ha.out)
        go_wp2_with (go_at_call 58; refine (textFld _ (by omega) (by omega) _).mono ?_; rintro e w' ⟨rfl, rfl⟩)
        go_round
        case rel => exact ⟨k + 1, by omega, by go_num, A⟩
        case measure => simp [intOf]; omega
      | false =>
        have F := hide' (all_bad s k hlt ht)
        go_wp2_with (go_at_call 58; refine (textFld _ (by omega) (by omega) _).mono ?_; rintro e w' ⟨rfl, rfl⟩)
        go_ret
        rw [F.out]
        exact ⟨rfl, Below.refl _ _⟩
    · have F := hide' (all_end s k (by omega) ha.out)
      by_cases he : trimT s.data.toList = s.data.toList
      · rw [decide_eq_true he] at F
        rw [trim_eq s he] at cT
        clear he
        go_wp2_with fail
        refine cT.out.mono ?_
        rintro e w1 ⟨rfl, b1⟩
        have B1 := hide' b1
        clear b1
        go_wp2_with fail
        go_ret
        rw [F.out]
        exact ⟨rfl, B1.out⟩
      · rw [decide_eq_false he] at F
        have n1 := trim_ne s he
        have n2 := trim_ne2 s he
        clear he
        generalize trimT s.data.toList = t at cT n1 n2
        go_wp2_with fail
        refine cT.out.mono ?_
        rintro e w1 ⟨rfl, b1⟩
        have B1 := hide' b1
        clear b1
        go_wp2_with fail
        go_ret
        rw [F.out]
        exact ⟨rfl, B1.out⟩
set_option maxRecDepth 20000 in
set_option maxHeartbeats 1000000 in
theorem valueRef (s : ByteArray) (w : World) (hs : s.size ≤ 140737488351232) :
    Calls Tryd.prog 48 #[.string s] w fun e w' => e = .returned (.bool (goodV s.data.toList)) ∧ w' = w := by
  have cT := hide' (trimRef s w hs)
  go_enter Tryd.func48, Tryd.ntmps48
  go_wp2_with fail
  go_loop [3] (fun i => ∃ k : Nat, k ≤ s.size ∧ i = .int .i64 k ∧ Hid ((s.data.toList.take k).all txt = true)) (fun i => s.size - (intOf i).toNat)
  case atStart => exact ⟨0, by omega, rfl, by unfold Hid; simp⟩
  case round =>
    obtain ⟨k, hk, rfl, ha⟩ := hrel
    by_cases hlt : k < s.size
    · have hb := byte_lt s[k]
      cases ht : txtI (s[k].toNat : Int) with
      | true =>
        have A := hide' (all_step s k hlt ht ha.out)
        go_wp2_with (go_at_call 42; refine (textRef _ (by omega) (by omega) _).mono ?_; rintro e w' ⟨rfl, rfl⟩)
        go_round
        case rel => exact ⟨k + 1, by omega, by go_num, A⟩
        case measure => simp [intOf]; omega
      | false =>
        have F := hide' (all_bad s k hlt ht)
        go_wp2_with (go_at_call 42; refine (textRef _ (by omega) (by omega) _).mono ?_; rintro e w' ⟨rfl, rfl⟩)
        go_ret
        rw [F.out]
        exact ⟨rfl, rfl⟩
    · have F := hide' (all_end s k (by omega) ha.out)
      by_cases he : trimT s.data.toList = s.data.toList
      · rw [decide_eq_true he] at F
        rw [trim_eq s he] at cT
        clear he
        go_wp2_with fail
        refine cT.out.mono ?_
        rintro e w1 ⟨rfl, rfl⟩
        go_wp2_with fail
        go_ret
        rw [F.out]
        exact ⟨rfl, rfl⟩
      · rw [decide_eq_false he] at F
        have n1 := trim_ne s he
        have n2 := trim_ne2 s he
        clear he
        generalize trimT s.data.toList = t at cT n1 n2
        go_wp2_with fail
        refine cT.out.mono ?_
        rintro e w1 ⟨rfl, rfl⟩
        go_wp2_with fail
        go_ret
        rw [F.out]
        exact ⟨rfl, rfl⟩
set_option maxRecDepth 20000 in
set_option maxHeartbeats 1000000 in
theorem goodTok (x y : ByteArray) (w : World) (hx : x.size ≤ 140737488351232) (hy : y.size ≤ 140737488351232) :
    Calls Tryd.prog 44 #[.agg #[.string x, .string y]] w fun e w' => e = .returned (.bool (goodF (x.data.toList, y.data.toList))) ∧ Below w.heap.size w w' := by
  have c1 := fun W => tokenTok x W hx
  have c2 := hide' (fun W => goodValueTok y W hy)
  have F : Hid (goodF (x.data.toList, y.data.toList) = (isTok x.data.toList && goodV y.data.toList)) := rfl
  rw [F.out]
  clear F
  cases h1 : isTok x.data.toList with
  | false =>
    rw [h1] at c1
    have C1 := hide' c1
    clear c1 c2 h1
    rw [Bool.false_and]
    go_enter Tryd.func44, Tryd.ntmps44
    go_wp2_with (go_at_call 49; refine (C1.out _).mono ?_; rintro e w' ⟨rfl, rfl⟩)
    go_ret
    exact ⟨rfl, below_alloc' _ _⟩
  | true =>
    rw [h1] at c1
    have C1 := hide' c1
    clear c1 h1
    rw [Bool.true_and]
    generalize goodV y.data.toList = gb at c2 ⊢
    go_enter Tryd.func44, Tryd.ntmps44
    go_wp2_with (first | (go_at_call 49; refine (C1.out _).mono ?_; rintro e w' ⟨rfl, rfl⟩) | (go_at_call 50; refine (c2.out _).mono ?_; rintro e w2 ⟨rfl, b2⟩))
    go_ret
    exact ⟨rfl, (below_alloc' w _).trans (b2.mono (by simp))⟩
end Go.Proofs.YtnlehfondhegbaaDoor
namespace Go.Proofs
open Go.Shelf
end Go.Proofs
namespace Go.Proofs.YtnlehfondhegbaaDoor
open Go.RowKit
theorem while_app (p : UInt8 → Bool) (a b : List UInt8) (ha : ∀ c ∈ a, p c = true) (hb : ∀ c r, b = c :: r → p c = false) : (a ++ b).takeWhile p = a ∧ (a ++ b).dropWhile p = b := by
  induction a with
  | nil =>
    cases b with
    | nil => exact ⟨rfl, rfl⟩
    | cons c r => have := hb c r rfl; simp [this]
  | cons c a ih =>
    have h1 := ha c (by simp)
    have h2 := ih (fun d hd => ha d (by simp [hd]))
    simp [h1, h2]
theorem while_app2 (p : UInt8 → Bool) (l : List UInt8) : l.takeWhile p ++ l.dropWhile p = l := List.takeWhile_append_dropWhile
theorem while_all (p : UInt8 → Bool) (l : List UInt8) (h : l.all p = true) : l.takeWhile p = l ∧ l.dropWhile p = [] := by
  have := while_app p l [] (fun c hc => List.all_eq_true.1 h c hc) (by simp)
  rwa [List.append_nil] at this
theorem while_take (p : UInt8 → Bool) (l : List UInt8) : l.take (l.takeWhile p).length = l.takeWhile p := by
  conv => lhs; rw [← while_app2 p l]
  rw [List.takeWhile_append_dropWhile]
  have := @List.take_left _ (l.takeWhile p) (l.dropWhile p)
  rwa [List.takeWhile_append_dropWhile] at this
theorem while_drop (p : UInt8 → Bool) (l : List UInt8) (k : Nat) : l.drop ((l.takeWhile p).length + k) = (l.dropWhile p).drop k := by
  have := @List.drop_left _ (l.takeWhile p) (l.dropWhile p)
  rw [List.takeWhile_append_dropWhile] at this
  rw [← List.drop_drop, this]
theorem while_len (p : UInt8 → Bool) (l : List UInt8) (h : ¬ l.all p = true) : (l.takeWhile p).length < l.length := by
  induction l with
  | nil => simp at h
  | cons c l ih =>
    by_cases hc : p c = true
    · rw [List.takeWhile_cons_of_pos hc]
      have := ih (fun e => h (by rw [List.all_cons, hc, e]; rfl))
      simp; omega
    · rw [List.takeWhile_cons_of_neg hc]; simp
theorem index_one (p : UInt8 → Bool) (c : UInt8) (hp : ∀ x, p x = false ↔ x = c) (l : List UInt8) : Lib.index l [c] = if l.all p = true then -1 else ((l.takeWhile p).length : Int) := by
  induction l with
  | nil => rfl
  | cons b l ih =>
    rw [Lib.index]
    by_cases e : b = c
    · subst e
      have h1 := (hp b).2 rfl
      have h2 : [b].isPrefixOf (b :: l) = true := by simp [List.isPrefixOf]
      rw [if_pos h2, List.all_cons, h1, Bool.false_and, if_neg (by simp), List.takeWhile_cons_of_neg (by simp [h1])]; rfl
    · have h1 : p b = true := by
        cases h : p b with
        | true => rfl
        | false => exact absurd ((hp b).1 h) e
      have h2 : ¬ [c].isPrefixOf (b :: l) = true := by simp [List.isPrefixOf]; exact fun x => e x.symm
      rw [if_neg h2, ih, List.all_cons, h1, Bool.true_and, List.takeWhile_cons_of_pos h1]
      by_cases h : l.all p = true
      · rw [if_pos h, if_pos h]; rfl
      · rw [if_neg h, if_neg h, if_neg]
        · simp
        · intro x; have := beq_iff_eq.1 x; omega
theorem cut_one (p : UInt8 → Bool) (c : UInt8) (hp : ∀ x, p x = false ↔ x = c) (l : List UInt8) : Lib.cut l [c] = (l.takeWhile p, (l.dropWhile p).drop 1, ! l.all p) := by
  unfold Lib.cut
  rw [index_one p c hp l]
  by_cases h : l.all p = true
  · rw [if_pos h, if_neg (by omega), (while_all p l h).1, (while_all p l h).2, h]; rfl
  · rw [if_neg h, if_pos (by omega), Int.toNat_natCast, while_take, while_drop, Bool.eq_false_iff.2 h]; rfl
def noCol (c : UInt8) : Bool := decide (c ≠ 58)
theorem noCol_iff (c : UInt8) : noCol c = false ↔ c = 58 := by unfold noCol; simp
/-- the variable of the library's that its search looks at -/
def MaxV (w : World) : Prop := ∃ m, w.cell? ⟨3, 0, none⟩ = some (.int .i64 m)
theorem maxV_of {w : World} (h : w.ShapedOpen Tryd.prog) : MaxV w := cell_of_shapedOpen_int (g := 3) (t := 3) (zero := #[.int .i64 0]) h (of_decide_eq_true (by kernel_rfl)) (by kernel_rfl) rfl (by kernel_rfl) (by kernel_rfl) Tryd.underlying3
theorem cell_lt {w : World} {g : Nat} {v : Value} (h : w.cell? ⟨g, 0, none⟩ = some v) : g < w.heap.size := by
  rcases Nat.lt_or_ge g w.heap.size with h1 | h1
  · exact h1
  · unfold World.cell? at h
    rw [Array.getElem?_eq_none h1] at h
    simp at h
theorem maxV_below {w w' : World} (h : MaxV w) (hb : Below w.heap.size w w') : MaxV w' := by
  obtain ⟨m, hm⟩ := h
  exact ⟨m, by rw [hb.cell (p := ⟨3, 0, none⟩) (cell_lt hm)]; exact hm⟩
def nameOf (l : List UInt8) : List UInt8 := l.takeWhile noCol
def restOf (l : List UInt8) : List UInt8 := (l.dropWhile noCol).drop 1
def blankFirst (l : List UInt8) : Bool := match l with
  | c :: _ => blankI (c.toNat : Int)
  | [] => false
/-- the field that a line is, and the error -/
def lineOf (l : List UInt8) : (List UInt8 × List UInt8) × Int :=
  if blankFirst l = true then (([], []), 41)
  else if l.all noCol = true then (([], []), 40)
  else if goodF (nameOf l, trimT (restOf l)) = true then ((nameOf l, trimT (restOf l)), 0) else (([], []), 40)
theorem name_len (l : List UInt8) : (nameOf l).length ≤ l.length := (List.takeWhile_sublist _).length_le
theorem rest_len (l : List UInt8) : (restOf l).length ≤ l.length := by
  unfold restOf; rw [List.length_drop]
  have := (List.dropWhile_sublist (p := noCol) (l := l)).length_le
  omega
theorem line_len (l : List UInt8) : (lineOf l).1.1.length ≤ l.length ∧ (lineOf l).1.2.length ≤ l.length := by
  unfold lineOf
  have h1 := name_len l
  have h2 := rest_len l
  have h3 := trimT_len (restOf l)
  split
  · simp
  · split
    · simp
    · split
      · exact ⟨h1, by show (trimT (restOf l)).length ≤ _; omega⟩
      · simp
theorem size_l8 (l : List UInt8) (n : Nat) (h : l.length ≤ n) : (⟨l.toArray⟩ : ByteArray).size ≤ n := by rw [size_l]; exact h
def lineV (l : List UInt8) : Value := .tuple #[.agg #[.string ⟨(lineOf l).1.1.toArray⟩, .string ⟨(lineOf l).1.2.toArray⟩], .int .i64 (lineOf l).2]
end Go.Proofs.YtnlehfondhegbaaDoor
namespace Go.Proofs
open Go.Shelf
end Go.Proofs
namespace Go.Proofs.YtnlehfondhegbaaDoor
open Go.RowKit
def isEnd (c : UInt8) : Bool := decide (c = 13 ∨ c = 10)
/-- the first line, without its end, and what stands behind its end -/
def stepOf : List UInt8 → Option (List UInt8 × List UInt8)
  | [] => none
  | b :: t => if b = 13 then (match t with
      | c :: r => if c = 10 then some ([], r) else none
      | [] => none)
    else if b = 10 then none
    else (stepOf t).map (fun p => (b :: p.1, p.2))
theorem any_take (b : UInt8) (t : List UInt8) (i : Nat) (h : isEnd b = true) (hi : 0 < i) : ((b :: t).take i).any isEnd = true := by
  obtain ⟨j, rfl⟩ : ∃ j, i = j + 1 := ⟨i - 1, by omega⟩
  simp [h]
theorem step_spec : ∀ (bs : List UInt8), (∀ l r, stepOf bs = some (l, r) → Lib.index bs [13, 10] = (l.length : Int) ∧ l.any isEnd = false ∧ bs = l ++ 13 :: 10 :: r) ∧
    (stepOf bs = none → Lib.index bs [13, 10] = -1 ∨ ∃ i : Nat, Lib.index bs [13, 10] = i ∧ (bs.take i).any isEnd = true) := by
  intro bs
  induction bs with
  | nil => exact ⟨fun l r h => by simp [stepOf] at h, fun _ => Or.inl rfl⟩
  | cons b t ih =>
    have hidx : Lib.index (b :: t) [13, 10] = if ([13, 10] : List UInt8).isPrefixOf (b :: t) then 0 else if Lib.index t [13, 10] == -1 then -1 else Lib.index t [13, 10] + 1 := by rw [Lib.index]
    have hge := Lib.index_ge t [13, 10]
    have far : isEnd b = true → ¬ ([13, 10] : List UInt8).isPrefixOf (b :: t) = true → Lib.index (b :: t) [13, 10] = -1 ∨ ∃ i : Nat, Lib.index (b :: t) [13, 10] = i ∧ ((b :: t).take i).any isEnd = true := by
      intro he hp
      rw [hidx, if_neg hp]
      by_cases h1 : Lib.index t [13, 10] = -1
      · left; rw [h1]; rfl
      · right
        rw [if_neg (by simpa using h1)]
        obtain ⟨i, hi⟩ : ∃ i : Nat, Lib.index t [13, 10] = i := ⟨(Lib.index t [13, 10]).toNat, by omega⟩
        exact ⟨i + 1, by rw [hi]; rfl, any_take b t _ he (by omega)⟩
    by_cases h13 : b = 13
    · subst h13
      cases t with
      | nil =>
        refine ⟨fun l r h => by simp [stepOf] at h, fun _ => far (by decide) (by decide)⟩
      | cons c r0 =>
        by_cases h10 : c = 10
        · subst h10
          refine ⟨fun l r h => ?_, fun h => by simp [stepOf] at h⟩
          simp [stepOf] at h
          obtain ⟨rfl, rfl⟩ := h
          exact ⟨by rw [hidx, if_pos (by simp [List.isPrefixOf])]; rfl, rfl, rfl⟩
        · refine ⟨fun l r h => by simp [stepOf, h10] at h, fun _ => far (by decide) ?_⟩
          simp [List.isPrefixOf]
          exact fun e => h10 e.symm
    · by_cases h10 : b = 10
      · subst h10
        refine ⟨fun l r h => by simp [stepOf] at h, fun _ => far (by decide) (by simp [List.isPrefixOf])⟩
      · have hp : ¬ ([13, 10] : List UInt8).isPrefixOf (b :: t) = true := by
          simp [List.isPrefixOf]
          exact fun e => absurd e.symm h13
        have hs : stepOf (b :: t) = (stepOf t).map (fun p => (b :: p.1, p.2)) := by rw [stepOf.eq_def]; simp only; rw [if_neg h13, if_neg h10]
        have hb : isEnd b = false := by unfold isEnd; simp [h13, h10]
        refine ⟨fun l r h => ?_, fun h => ?_⟩
        · rw [hs] at h
          obtain ⟨⟨l', r'⟩, h', e⟩ := Option.map_eq_some_iff.1 h
          simp only [Prod.mk.injEq] at e
          obtain ⟨rfl, rfl⟩ := e
          obtain ⟨i1, i2, i3⟩ := ih.1 l' r' h'
          refine ⟨?_, ?_, ?_⟩
          · rw [hidx, if_neg hp, i1, if_neg (by simp)]; simp
          · simp [hb]; simpa using i2
          · rw [i3]; rfl
        · rw [hs] at h
          have h' : stepOf t = none := by simpa using h
          rcases ih.2 h' with i1 | ⟨i, i1, i2⟩
          · left; rw [hidx, if_neg hp, i1]; rfl
          · right
            refine ⟨i + 1, ?_, ?_⟩
            · rw [hidx, if_neg hp, i1, if_neg (by simp)]; simp
            · simp [i2]
def parseF : Nat → List UInt8 → FL → FL × Int
  | 0, _, acc => (acc, 0)
  | n + 1, bs, acc => if bs = [] then (acc, 0) else match stepOf bs with
    | none => ([], 40)
    | some p => if (lineOf p.1).2 ≠ 0 then ([], (lineOf p.1).2) else if 100 ≤ acc.length then ([], 42) else parseF n p.2 (acc ++ [(lineOf p.1).1])
theorem step_len {bs l r : List UInt8} (h : stepOf bs = some (l, r)) : bs.length = l.length + r.length + 2 := by
  have := ((step_spec bs).1 l r h).2.2
  rw [this]; simp; omega
theorem parse_fuel : ∀ (n m : Nat) (bs : List UInt8) (acc : FL), bs.length < n → bs.length < m → parseF n bs acc = parseF m bs acc := by
  intro n
  induction n with
  | zero => intro m bs acc h; omega
  | succ n ih =>
    intro m bs acc h hm
    obtain ⟨m, rfl⟩ : ∃ k, m = k + 1 := ⟨m - 1, by omega⟩
    unfold parseF
    by_cases h0 : bs = []
    · rw [if_pos h0, if_pos h0]
    · rw [if_neg h0, if_neg h0]
      cases hs : stepOf bs with
      | none => rfl
      | some p =>
        obtain ⟨l, r⟩ := p
        have hl := step_len hs
        simp only
        split
        · rfl
        · split
          · rfl
          · exact ih m r _ (by omega) (by omega)
def parseG (bs : List UInt8) (acc : FL) : FL × Int := parseF (bs.length + 1) bs acc
def parseOf (bs : List UInt8) : FL × Int := parseG bs []
theorem parse_nil (acc : FL) : parseG [] acc = (acc, 0) := by unfold parseG parseF; rw [if_pos rfl]
theorem parse_none (bs : List UInt8) (acc : FL) (h0 : bs ≠ []) (hs : stepOf bs = none) : parseG bs acc = ([], 40) := by unfold parseG parseF; rw [if_neg h0, hs]
theorem parse_bad (bs l r : List UInt8) (acc : FL) (hs : stepOf bs = some (l, r)) (hl : (lineOf l).2 ≠ 0) : parseG bs acc = ([], (lineOf l).2) := by
  have h0 : bs ≠ [] := by intro e; rw [e] at hs; simp [stepOf] at hs
  unfold parseG parseF; rw [if_neg h0, hs]; simp only; rw [if_pos hl]
theorem parse_many (bs l r : List UInt8) (acc : FL) (hs : stepOf bs = some (l, r)) (hl : (lineOf l).2 = 0) (ha : 100 ≤ acc.length) : parseG bs acc = ([], 42) := by
  have h0 : bs ≠ [] := by intro e; rw [e] at hs; simp [stepOf] at hs
  unfold parseG parseF; rw [if_neg h0, hs]; simp only; rw [if_neg (by rw [hl]; simp), if_pos ha]
theorem parse_next (bs l r : List UInt8) (acc : FL) (hs : stepOf bs = some (l, r)) (hl : (lineOf l).2 = 0) (ha : ¬ 100 ≤ acc.length) : parseG bs acc = parseG r (acc ++ [(lineOf l).1]) := by
  have h0 : bs ≠ [] := by intro e; rw [e] at hs; simp [stepOf] at hs
  have hlen := step_len hs
  unfold parseG
  rw [parseF, if_neg h0, hs]; simp only; rw [if_neg (by rw [hl]; simp), if_neg ha]
  exact parse_fuel _ _ _ _ (by omega) (by omega)
theorem in_of_holdsB {w : World} {ao : Option Addr} {cap : Nat} {bs : List UInt8} (h : HoldsB w (.slice ao bs.length cap) bs) : Lib.BytesIn w ao bs.length (bs.map fun b => (b.toNat : Int)) := by
  intro hn
  obtain ⟨ao', cap', e, _, _, hc⟩ := h
  simp only [Value.slice.injEq] at e
  obtain ⟨rfl, _, rfl⟩ := e
  obtain ⟨b, off, rfl, _, hcell⟩ := hc (fun e => by rw [e] at hn; simp at hn)
  refine ⟨b, off, rfl, fun i hi => ?_⟩
  rw [hcell i hi]
  simp [B, List.getD, hi]
theorem bytesOf_map' (l : List UInt8) : Lib.bytesOf (l.map fun b => (b.toNat : Int)) = l := by
  unfold Lib.bytesOf
  rw [List.map_map]
  conv => rhs; rw [← List.map_id l]
  exact List.map_congr_left (fun b _ => by simp)
theorem byte_range (l : List UInt8) : ∀ x ∈ l.map (fun b => (b.toNat : Int)), 0 ≤ x ∧ x < 256 := by
  intro x hx
  obtain ⟨b, _, rfl⟩ := List.mem_map.1 hx
  have := b.toNat_lt
  omega
theorem holdsB_suf {w : World} {ao : Option Addr} {cap : Nat} {bs : List UInt8} (h : HoldsB w (.slice ao bs.length cap) bs) (i : Nat) (hi : i ≤ bs.length) : HoldsB w (Lib.fromV ao bs.length cap i) (bs.drop i) := by
  obtain ⟨ao', cap', e, h0, hcp, hc⟩ := h
  simp only [Value.slice.injEq] at e
  obtain ⟨rfl, _, rfl⟩ := e
  have hl : (bs.drop i).length = bs.length - i := by rw [List.length_drop]
  refine ⟨_, cap - i, by unfold Lib.fromV; rw [hl], ?_, by omega, fun hne => ?_⟩
  · intro e
    split at e
    · omega
    · cases ao with
      | none => have := h0 rfl; omega
      | some a => simp at e
  · have hp : i < bs.length := by
      rcases Nat.lt_or_ge i bs.length with h | h
      · exact h
      · exact absurd (List.drop_eq_nil_of_le h) hne
    obtain ⟨b, off, rfl, hlt, hcell⟩ := hc (fun e => by rw [e] at hp; simp at hp)
    refine ⟨b, off + i, ?_, hlt, fun j hj => ?_⟩
    · rw [if_neg (by omega)]
      simp [Addr.add]
    · have := hcell (i + j) (by omega)
      rw [Nat.add_assoc, this]
      simp
theorem mark2 (W : World) : Sem.run Tryd.prog (convert 25 25 (.slice (some ⟨W.heap.size, 0, none⟩) 2 2)) (W.alloc (.cells #[.int .u8 13, .int .u8 10] 5)) = .ok (.slice (some ⟨W.heap.size, 0, none⟩) 2 2) (W.alloc (.cells #[.int .u8 13, .int .u8 10] 5 (2, 3))) :=
  Lib.run_convert_bytes_const W 25 5 #[.int .u8 13, .int .u8 10] 2 2 Tryd.underlying25 Tryd.underlying5
end Go.Proofs.YtnlehfondhegbaaDoor
namespace Go.Proofs.YtnlehfondhegbaaDoor
open Go.RowKit
def lenOf : Value → Nat
  | .slice _ n _ => n
  | _ => 0
theorem conv_holdsB (w : World) (ao : Option Addr) (cap : Nat) (l : List UInt8) (h : HoldsB w (.slice ao l.length cap) l) :
    Sem.run Tryd.prog (convert 25 9 (.slice ao l.length cap)) w = .ok (.string ⟨l.toArray⟩) w := by
  obtain ⟨ao', cap', e, h0, hcp, hc⟩ := h
  simp only [Value.slice.injEq] at e
  obtain ⟨rfl, _, rfl⟩ := e
  by_cases hl : l = []
  · subst hl
    cases ao with
    | none => obtain rfl := h0 rfl; exact conv_nil w
    | some a => exact run_convert_bytes_back w 25 9 5 a cap [] Tryd.underlying25 Tryd.underlying5 Tryd.underlying9 (fun j hj => by simp at hj)
  · obtain ⟨b, off, rfl, _, hcell⟩ := hc hl
    rw [run_convert_bytes_back w 25 9 5 ⟨b, off, none⟩ cap l Tryd.underlying25 Tryd.underlying5 Tryd.underlying9 (fun j hj => by rw [Go.WideShapes.add_plain]; exact hcell j hj)]
theorem line_err (l : List UInt8) : (lineOf l).2 = 0 ∨ (lineOf l).2 = 40 ∨ (lineOf l).2 = 41 := by
  unfold lineOf
  split
  · exact .inr (.inr rfl)
  · split
    · exact .inr (.inl rfl)
    · split
      · exact .inl rfl
      · exact .inr (.inl rfl)
end Go.Proofs.YtnlehfondhegbaaDoor
