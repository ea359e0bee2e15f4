/- Lines of fields in plain words; strings.Cut at a colon; the library's variable that its search looks at. Bytes that are gone through line by line, in plain words; a list of bytes; the library's Cut at a line's end. The contract of Parse. A head's first line, and a whole head, in plain words. What the decoder of runes says of bytes that are no ASCII; the library's two tables; what the search of one byte, and of a text, says of a line's two last bytes. -/
import Derived.Lib.Split
import Derived.Lib.IndexAny
import Derived.Shelf.Vars
import Derived.Lib.SlBytesConst
import Derived.Lib.MapLaws
import Derived.Lib.IndexEntry
import Derived.Laws.Runes
import Derived.Laws.RangeString
import Derived.Test.YtibjcofbhldenaaGreatDoorZ04
import Derived.Test.YtibjcofbhldenaaGreatDoorZ01
namespace Go.Proofs.YtibjcofbhldenaaGreatDoor
open Go.RowKit
theorem while_app (p : UInt8 → Bool) (a b : List UInt8) (ha : ∀ c ∈ a, p c = true) (hb : ∀ c r, b = c :: r → p c = false) : (a ++ b).takeWhile p = a ∧ (a ++ b).dropWhile p = b := by
  induction a with
  | nil =>
    cases b with
    | nil => exact ⟨rfl, rfl⟩
    | cons c r => have := hb c r rfl; simp [this]
  | cons c a ih =>
    have h1 := ha c (by simp)
    have h2 := ih (fun d hd => ha d (by simp [hd]))
    simp [h1, h2]
theorem while_app2 (p : UInt8 → Bool) (l : List UInt8) : l.takeWhile p ++ l.dropWhile p = l := List.takeWhile_append_dropWhile
theorem while_all (p : UInt8 → Bool) (l : List UInt8) (h : l.all p = true) : l.takeWhile p = l ∧ l.dropWhile p = [] := by
  have := while_app p l [] (fun c hc => List.all_eq_true.1 h c hc) (by simp)
  rwa [List.append_nil] at this
theorem while_take (p : UInt8 → Bool) (l : List UInt8) : l.take (l.takeWhile p).length = l.takeWhile p := by
  conv => lhs; rw [← while_app2 p l]
  rw [List.takeWhile_append_dropWhile]
  have := @List.take_left _ (l.takeWhile p) (l.dropWhile p)
  rwa [List.takeWhile_append_dropWhile] at this
theorem while_drop (p : UInt8 → Bool) (l : List UInt8) (k : Nat) : l.drop ((l.takeWhile p).length + k) = (l.dropWhile p).drop k := by
  have := @List.drop_left _ (l.takeWhile p) (l.dropWhile p)
  rw [List.takeWhile_append_dropWhile] at this
  rw [← List.drop_drop, this]
theorem index_one (p : UInt8 → Bool) (c : UInt8) (hp : ∀ x, p x = false ↔ x = c) (l : List UInt8) : Lib.index l [c] = if l.all p = true then -1 else ((l.takeWhile p).length : Int) := by
  induction l with
  | nil => rfl
  | cons b l ih =>
    rw [Lib.index]
    by_cases e : b = c
    · subst e
      have h1 := (hp b).2 rfl
      have h2 : [b].isPrefixOf (b :: l) = true := by simp [List.isPrefixOf]
      rw [if_pos h2, List.all_cons, h1, Bool.false_and, if_neg (by simp), List.takeWhile_cons_of_neg (by simp [h1])]; rfl
    · have h1 : p b = true := by
        cases h : p b with
        | true => rfl
        | false => exact absurd ((hp b).1 h) e
      have h2 : ¬ [c].isPrefixOf (b :: l) = true := by simp [List.isPrefixOf]; exact fun x => e x.symm
      rw [if_neg h2, ih, List.all_cons, h1, Bool.true_and, List.takeWhile_cons_of_pos h1]
      by_cases h : l.all p = true
      · rw [if_pos h, if_pos h]; rfl
      · rw [if_neg h, if_neg h, if_neg]
        · simp
        · intro x; have := beq_iff_eq.1 x; omega
theorem cut_one (p : UInt8 → Bool) (c : UInt8) (hp : ∀ x, p x = false ↔ x = c) (l : List UInt8) : Lib.cut l [c] = (l.takeWhile p, (l.dropWhile p).drop 1, ! l.all p) := by
  unfold Lib.cut
  rw [index_one p c hp l]
  by_cases h : l.all p = true
  · rw [if_pos h, if_neg (by omega), (while_all p l h).1, (while_all p l h).2, h]; rfl
  · rw [if_neg h, if_pos (by omega), Int.toNat_natCast, while_take, while_drop, Bool.eq_false_iff.2 h]; rfl
def noCol (c : UInt8) : Bool := decide (c ≠ 58)
theorem noCol_iff (c : UInt8) : noCol c = false ↔ c = 58 := by unfold noCol; simp
/-- the variable of the library's that its search looks at -/
def MaxV (w : World) : Prop := ∃ m, w.cell? ⟨1, 0, none⟩ = some (.int .i64 m)
theorem maxV_of {w : World} (h : w.ShapedOpen Tryz.prog) : MaxV w := cell_of_shapedOpen_int (g := 1) (t := 3) (zero := #[.int .i64 0]) h (of_decide_eq_true (by kernel_rfl)) (by kernel_rfl) rfl (by kernel_rfl) (by kernel_rfl) Tryz.underlying3
theorem cell_ltF {w : World} {g : Nat} {v : Value} (h : w.cell? ⟨g, 0, none⟩ = some v) : g < w.heap.size := by
  rcases Nat.lt_or_ge g w.heap.size with h1 | h1
  · exact h1
  · unfold World.cell? at h
    rw [Array.getElem?_eq_none h1] at h
    simp at h
theorem maxV_below {w w' : World} (h : MaxV w) (hb : Below w.heap.size w w') : MaxV w' := by
  obtain ⟨m, hm⟩ := h
  exact ⟨m, by rw [hb.cell (p := ⟨1, 0, none⟩) (cell_ltF hm)]; exact hm⟩
def nameOf (l : List UInt8) : List UInt8 := l.takeWhile noCol
def restOf (l : List UInt8) : List UInt8 := (l.dropWhile noCol).drop 1
def blankFirst (l : List UInt8) : Bool := match l with
  | c :: _ => blankI (c.toNat : Int)
  | [] => false
/-- the field that a line is, and the error -/
def lineOf (l : List UInt8) : (List UInt8 × List UInt8) × Int :=
  if blankFirst l = true then (([], []), 41)
  else if l.all noCol = true then (([], []), 40)
  else if goodF (nameOf l, trimT (restOf l)) = true then ((nameOf l, trimT (restOf l)), 0) else (([], []), 40)
theorem cutColon (s : ByteArray) (hs : s.size < 4294967281) (w : World) (M : MaxV w) :
    Calls Tryz.prog 240 #[.string s, .string ⟨#[58]⟩] w fun e w' => e = .returned (.tuple #[.string ⟨(nameOf s.data.toList).toArray⟩, .string ⟨(restOf s.data.toList).toArray⟩, .bool (! s.data.toList.all noCol)]) ∧ Below w.heap.size w w' := by
  obtain ⟨m, hm⟩ := M
  refine (Any.strings_Cut Tryz.lays145 s ⟨#[58]⟩ m w hs hm).mono ?_
  rintro e w' ⟨rfl, n, rfl⟩
  refine ⟨?_, below_drewN w n⟩
  rw [show (⟨#[58]⟩ : ByteArray).data.toList = [58] from rfl, cut_one noCol 58 noCol_iff]
  rfl
theorem name_len (l : List UInt8) : (nameOf l).length ≤ l.length := (List.takeWhile_sublist _).length_le
theorem rest_len (l : List UInt8) : (restOf l).length ≤ l.length := by
  unfold restOf; rw [List.length_drop]
  have := (List.dropWhile_sublist (p := noCol) (l := l)).length_le
  omega
theorem line_len (l : List UInt8) : (lineOf l).1.1.length ≤ l.length ∧ (lineOf l).1.2.length ≤ l.length := by
  unfold lineOf
  have h1 := name_len l
  have h2 := rest_len l
  have h3 := trimT_len (restOf l)
  split
  · simp
  · split
    · simp
    · split
      · exact ⟨h1, by show (trimT (restOf l)).length ≤ _; omega⟩
      · simp
/-- what strings.IndexAny at the two blanks says of a text -/
def IdxC (s : ByteArray) (W : World) : Prop := Calls Tryz.prog 264 #[.string s, .string ⟨#[32, 9]⟩] W fun e w' => ∃ r : Int, e = .returned (.int .i64 r) ∧ Hid ((r == 0) = blankFirst s.data.toList) ∧ Below W.heap.size W w'
theorem size_l8 (l : List UInt8) (n : Nat) (h : l.length ≤ n) : (⟨l.toArray⟩ : ByteArray).size ≤ n := by rw [size_l]; exact h
def lineV (l : List UInt8) : Value := .tuple #[.agg #[.string ⟨(lineOf l).1.1.toArray⟩, .string ⟨(lineOf l).1.2.toArray⟩], .int .i64 (lineOf l).2]
set_option maxRecDepth 20000 in
set_option maxHeartbeats 2000000 in
theorem parseLineTok (s : ByteArray) (hs : s.size < 4294967281) (w : World) (M : MaxV w) (cI : ∀ W, Below w.heap.size w W → IdxC s W) :
    Calls Tryz.prog 246 #[.string s] w fun e w' => e = .returned (lineV s.data.toList) ∧ Below w.heap.size w w' := by
  have I1 := hide' (cI _ (two_start w).2.2.2.2.2)
  have MV := hide' M
  have S0 := hide' (two_start w)
  clear M cI
  cases hb : blankFirst s.data.toList with
  | true =>
    have R : Hid (lineV s.data.toList = .tuple #[.agg #[.string ⟨#[]⟩, .string ⟨#[]⟩], .int .i64 41]) := by
      unfold Hid lineV lineOf; rw [if_pos hb]
    rw [R.out]
    unfold IdxC at I1
    rw [hb] at I1
    clear hb R
    go_enter Tryz.func246, Tryz.ntmps246
    go_wp2_with fail
    refine I1.out.mono ?_
    rintro e w1 ⟨r, rfl, hr, b1⟩
    have hr0 := hr.out
    have T1 := hide' (two_below S0.out b1)
    clear b1 I1 S0 hr
    obtain ⟨⟨x1, c1⟩, ⟨x2, c2⟩, f1, f2, z, bel⟩ := T1.out
    go_wp2_with fail
    obtain ⟨q1, q2, q3⟩ := two_store T1.out (.string ⟨#[]⟩) (.string ⟨#[]⟩)
    exact bodyPost_ret (v := .tuple #[.agg #[.string ⟨#[]⟩, .string ⟨#[]⟩], .int .i64 41]) (by simp [results, Tryz.results246, go_sem, q1, q2]) rfl ⟨rfl, q3⟩
  | false =>
    have z1 := name_len s.data.toList
    have z2 := rest_len s.data.toList
    have z3 := trimT_len (restOf s.data.toList)
    have zl : s.data.toList.length = s.size := by simp
    have cC := hide' (fun W MW => cutColon s hs W MW)
    have cT := hide' (fun W => trimTok ⟨(restOf s.data.toList).toArray⟩ W (size_l8 _ _ (by omega)))
    have cG := fun W => goodTok ⟨(nameOf s.data.toList).toArray⟩ ⟨(trimT (restOf s.data.toList)).toArray⟩ W (size_l8 _ _ (by omega)) (size_l8 _ _ (by omega))
    simp only at cT cG
    unfold IdxC at I1
    rw [hb] at I1
    cases ha : s.data.toList.all noCol with
    | true =>
      have R : Hid (lineV s.data.toList = .tuple #[.agg #[.string ⟨#[]⟩, .string ⟨#[]⟩], .int .i64 40]) := by
        unfold Hid lineV lineOf; rw [if_neg (by rw [hb]; simp), if_pos ha]
      rw [R.out]
      rw [ha] at cC
      clear hb R ha cG z1 z2 z3 zl
      generalize nameOf s.data.toList = nm at cC
      generalize trimT (restOf s.data.toList) = tv at cT
      generalize restOf s.data.toList = rv at cC cT
      go_enter Tryz.func246, Tryz.ntmps246
      go_wp2_with fail
      refine I1.out.mono ?_
      rintro e w1 ⟨r, rfl, hr, b1⟩
      have hr0 := hr.out
      have T1 := hide' (two_below S0.out b1)
      have M1 := hide' (maxV_below (maxV_below MV.out (S0.out).2.2.2.2.2) b1)
      clear b1 I1 S0 hr MV
      go_wp2_with fail
      refine (cC.out _ M1.out).mono ?_
      rintro e w2 ⟨rfl, b2⟩
      have T2 := hide' (two_below T1.out b2)
      clear b2 T1 M1 cC
      go_wp2_with fail
      refine (cT.out _).mono ?_
      rintro e w3 ⟨rfl, b3⟩
      have T3 := hide' (two_below T2.out b3)
      clear b3 T2 cT
      obtain ⟨⟨x1, c1⟩, ⟨x2, c2⟩, f1, f2, z, bel⟩ := T3.out
      go_wp2_with fail
      obtain ⟨q1, q2, q3⟩ := two_store T3.out (.string ⟨#[]⟩) (.string ⟨#[]⟩)
      have zz : w.heap.size < ((w3.setCell ⟨w.heap.size, 0, none⟩ (.string ⟨#[]⟩)).setCell ⟨w.heap.size, 1, none⟩ (.string ⟨#[]⟩)).heap.size := by simpa [World.setCell] using z
      generalize (w3.setCell ⟨w.heap.size, 0, none⟩ (.string ⟨#[]⟩)).setCell ⟨w.heap.size, 1, none⟩ (.string ⟨#[]⟩) = w5 at q1 q2 q3 zz ⊢
      have qb := below_alloc' w5 (.cells #[.string ⟨nm.toArray⟩, .string ⟨tv.toArray⟩] 208)
      have q1a : (w5.alloc (.cells #[.string ⟨nm.toArray⟩, .string ⟨tv.toArray⟩] 208)).cell? ⟨w.heap.size, 0, none⟩ = some (.string ⟨#[]⟩) := by rw [qb.cell (p := ⟨w.heap.size, 0, none⟩) zz]; exact q1
      have q2a : (w5.alloc (.cells #[.string ⟨nm.toArray⟩, .string ⟨tv.toArray⟩] 208)).cell? ⟨w.heap.size, 1, none⟩ = some (.string ⟨#[]⟩) := by rw [qb.cell (p := ⟨w.heap.size, 1, none⟩) zz]; exact q2
      exact bodyPost_ret (v := .tuple #[.agg #[.string ⟨#[]⟩, .string ⟨#[]⟩], .int .i64 40]) (by simp [results, Tryz.results246, go_sem, q1a, q2a]) rfl ⟨rfl, q3.alloc (by omega) _⟩
    | false =>
      rw [ha] at cC
      cases hg : goodF (nameOf s.data.toList, trimT (restOf s.data.toList)) with
      | false =>
        have R : Hid (lineV s.data.toList = .tuple #[.agg #[.string ⟨#[]⟩, .string ⟨#[]⟩], .int .i64 40]) := by
          unfold Hid lineV lineOf; rw [if_neg (by rw [hb]; simp), if_neg (by rw [ha]; simp), if_neg (by rw [hg]; simp)]
        rw [R.out]
        rw [hg] at cG
        have CG := hide' cG
        clear hb R ha hg cG z1 z2 z3 zl
        generalize nameOf s.data.toList = nm at cC CG
        generalize trimT (restOf s.data.toList) = tv at cT CG
        generalize restOf s.data.toList = rv at cC cT
        go_enter Tryz.func246, Tryz.ntmps246
        go_wp2_with fail
        refine I1.out.mono ?_
        rintro e w1 ⟨r, rfl, hr, b1⟩
        have hr0 := hr.out
        have T1 := hide' (two_below S0.out b1)
        have M1 := hide' (maxV_below (maxV_below MV.out (S0.out).2.2.2.2.2) b1)
        clear b1 I1 S0 hr MV
        go_wp2_with fail
        refine (cC.out _ M1.out).mono ?_
        rintro e w2 ⟨rfl, b2⟩
        have T2 := hide' (two_below T1.out b2)
        clear b2 T1 M1 cC
        go_wp2_with fail
        refine (cT.out _).mono ?_
        rintro e w3 ⟨rfl, b3⟩
        have T3 := hide' (two_below T2.out b3)
        clear b3 T2 cT
        go_wp2_with fail
        refine (CG.out _).mono ?_
        rintro e w4 ⟨rfl, b4⟩
        have T4 := hide' (two_below (two_below T3.out (below_alloc' w3 (.cells #[.string ⟨nm.toArray⟩, .string ⟨tv.toArray⟩] 208))) b4)
        clear b4
        obtain ⟨⟨x1, c1⟩, ⟨x2, c2⟩, f1, f2, z, bel⟩ := T4.out
        go_wp2_with fail
        obtain ⟨q1, q2, q3⟩ := two_store T4.out (.string ⟨#[]⟩) (.string ⟨#[]⟩)
        exact bodyPost_ret (v := .tuple #[.agg #[.string ⟨#[]⟩, .string ⟨#[]⟩], .int .i64 40]) (by simp [results, Tryz.results246, go_sem, q1, q2]) rfl ⟨rfl, q3⟩
      | true =>
        have R : Hid (lineV s.data.toList = .tuple #[.agg #[.string ⟨(nameOf s.data.toList).toArray⟩, .string ⟨(trimT (restOf s.data.toList)).toArray⟩], .int .i64 0]) := by
          unfold Hid lineV lineOf; rw [if_neg (by rw [hb]; simp), if_neg (by rw [ha]; simp), if_pos hg]
        rw [R.out]
        rw [hg] at cG
        have CG := hide' cG
        clear hb R ha hg cG z1 z2 z3 zl
        generalize nameOf s.data.toList = nm at cC CG
        generalize trimT (restOf s.data.toList) = tv at cT CG
        generalize restOf s.data.toList = rv at cC cT
        go_enter Tryz.func246, Tryz.ntmps246
        go_wp2_with fail
        refine I1.out.mono ?_
        rintro e w1 ⟨r, rfl, hr, b1⟩
        have hr0 := hr.out
        have T1 := hide' (two_below S0.out b1)
        have M1 := hide' (maxV_below (maxV_below MV.out (S0.out).2.2.2.2.2) b1)
        clear b1 I1 S0 hr MV
        go_wp2_with fail
        refine (cC.out _ M1.out).mono ?_
        rintro e w2 ⟨rfl, b2⟩
        have T2 := hide' (two_below T1.out b2)
        clear b2 T1 M1 cC
        go_wp2_with fail
        refine (cT.out _).mono ?_
        rintro e w3 ⟨rfl, b3⟩
        have T3 := hide' (two_below T2.out b3)
        clear b3 T2 cT
        go_wp2_with fail
        refine (CG.out _).mono ?_
        rintro e w4 ⟨rfl, b4⟩
        have T4 := hide' (two_below (two_below T3.out (below_alloc' w3 (.cells #[.string ⟨nm.toArray⟩, .string ⟨tv.toArray⟩] 208))) b4)
        have d1 : w4.cell? ⟨w3.heap.size, 0, none⟩ = some (.string ⟨nm.toArray⟩) := by rw [b4.cell (p := ⟨w3.heap.size, 0, none⟩) (by simp)]; simp
        have d2 : w4.cell? ⟨w3.heap.size, 1, none⟩ = some (.string ⟨tv.toArray⟩) := by rw [b4.cell (p := ⟨w3.heap.size, 1, none⟩) (by simp)]; simp
        clear b4
        obtain ⟨⟨x1, c1⟩, ⟨x2, c2⟩, f1, f2, z, bel⟩ := T4.out
        go_wp2_with fail
        obtain ⟨q1, q2, q3⟩ := two_store T4.out (.string ⟨nm.toArray⟩) (.string ⟨tv.toArray⟩)
        exact bodyPost_ret (v := .tuple #[.agg #[.string ⟨nm.toArray⟩, .string ⟨tv.toArray⟩], .int .i64 0]) (by simp [results, Tryz.results246, go_sem, q1, q2]) rfl ⟨rfl, q3⟩
end Go.Proofs.YtibjcofbhldenaaGreatDoor
namespace Go.Proofs.YtibjcofbhldenaaGreatDoor
open Go.RowKit
def isEnd (c : UInt8) : Bool := decide (c = 13 ∨ c = 10)
/-- the first line, without its end, and what stands behind its end -/
def stepOf : List UInt8 → Option (List UInt8 × List UInt8)
  | [] => none
  | b :: t => if b = 13 then (match t with
      | c :: r => if c = 10 then some ([], r) else none
      | [] => none)
    else if b = 10 then none
    else (stepOf t).map (fun p => (b :: p.1, p.2))
theorem any_take (b : UInt8) (t : List UInt8) (i : Nat) (h : isEnd b = true) (hi : 0 < i) : ((b :: t).take i).any isEnd = true := by
  obtain ⟨j, rfl⟩ : ∃ j, i = j + 1 := ⟨i - 1, by omega⟩
  simp [h]
theorem step_spec : ∀ (bs : List UInt8), (∀ l r, stepOf bs = some (l, r) → Lib.index bs [13, 10] = (l.length : Int) ∧ l.any isEnd = false ∧ bs = l ++ 13 :: 10 :: r) ∧
    (stepOf bs = none → Lib.index bs [13, 10] = -1 ∨ ∃ i : Nat, Lib.index bs [13, 10] = i ∧ (bs.take i).any isEnd = true) := by
  intro bs
  induction bs with
  | nil => exact ⟨fun l r h => by simp [stepOf] at h, fun _ => Or.inl rfl⟩
  | cons b t ih =>
    have hidx : Lib.index (b :: t) [13, 10] = if ([13, 10] : List UInt8).isPrefixOf (b :: t) then 0 else if Lib.index t [13, 10] == -1 then -1 else Lib.index t [13, 10] + 1 := by rw [Lib.index]
    have hge := Lib.index_ge t [13, 10]
    have far : isEnd b = true → ¬ ([13, 10] : List UInt8).isPrefixOf (b :: t) = true → Lib.index (b :: t) [13, 10] = -1 ∨ ∃ i : Nat, Lib.index (b :: t) [13, 10] = i ∧ ((b :: t).take i).any isEnd = true := by
      intro he hp
      rw [hidx, if_neg hp]
      by_cases h1 : Lib.index t [13, 10] = -1
      · left; rw [h1]; rfl
      · right
        rw [if_neg (by simpa using h1)]
        obtain ⟨i, hi⟩ : ∃ i : Nat, Lib.index t [13, 10] = i := ⟨(Lib.index t [13, 10]).toNat, by omega⟩
        exact ⟨i + 1, by rw [hi]; rfl, any_take b t _ he (by omega)⟩
    by_cases h13 : b = 13
    · subst h13
      cases t with
      | nil =>
        refine ⟨fun l r h => by simp [stepOf] at h, fun _ => far (by decide) (by decide)⟩
      | cons c r0 =>
        by_cases h10 : c = 10
        · subst h10
          refine ⟨fun l r h => ?_, fun h => by simp [stepOf] at h⟩
          simp [stepOf] at h
          obtain ⟨rfl, rfl⟩ := h
          exact ⟨by rw [hidx, if_pos (by simp [List.isPrefixOf])]; rfl, rfl, rfl⟩
        · refine ⟨fun l r h => by simp [stepOf, h10] at h, fun _ => far (by decide) ?_⟩
          simp [List.isPrefixOf]
          exact fun e => h10 e.symm
    · by_cases h10 : b = 10
      · subst h10
        refine ⟨fun l r h => by simp [stepOf] at h, fun _ => far (by decide) (by simp [List.isPrefixOf])⟩
      · have hp : ¬ ([13, 10] : List UInt8).isPrefixOf (b :: t) = true := by
          simp [List.isPrefixOf]
          exact fun e => absurd e.symm h13
        have hs : stepOf (b :: t) = (stepOf t).map (fun p => (b :: p.1, p.2)) := by rw [stepOf.eq_def]; simp only; rw [if_neg h13, if_neg h10]
        have hb : isEnd b = false := by unfold isEnd; simp [h13, h10]
        refine ⟨fun l r h => ?_, fun h => ?_⟩
        · rw [hs] at h
          obtain ⟨⟨l', r'⟩, h', e⟩ := Option.map_eq_some_iff.1 h
          simp only [Prod.mk.injEq] at e
          obtain ⟨rfl, rfl⟩ := e
          obtain ⟨i1, i2, i3⟩ := ih.1 l' r' h'
          refine ⟨?_, ?_, ?_⟩
          · rw [hidx, if_neg hp, i1, if_neg (by simp)]; simp
          · simp [hb]; simpa using i2
          · rw [i3]; rfl
        · rw [hs] at h
          have h' : stepOf t = none := by simpa using h
          rcases ih.2 h' with i1 | ⟨i, i1, i2⟩
          · left; rw [hidx, if_neg hp, i1]; rfl
          · right
            refine ⟨i + 1, ?_, ?_⟩
            · rw [hidx, if_neg hp, i1, if_neg (by simp)]; simp
            · simp [i2]
def parseF : Nat → List UInt8 → FL → FL × Int
  | 0, _, acc => (acc, 0)
  | n + 1, bs, acc => if bs = [] then (acc, 0) else match stepOf bs with
    | none => ([], 40)
    | some p => if (lineOf p.1).2 ≠ 0 then ([], (lineOf p.1).2) else if 100 ≤ acc.length then ([], 42) else parseF n p.2 (acc ++ [(lineOf p.1).1])
theorem step_len {bs l r : List UInt8} (h : stepOf bs = some (l, r)) : bs.length = l.length + r.length + 2 := by
  have := ((step_spec bs).1 l r h).2.2
  rw [this]; simp; omega
theorem parse_fuel : ∀ (n m : Nat) (bs : List UInt8) (acc : FL), bs.length < n → bs.length < m → parseF n bs acc = parseF m bs acc := by
  intro n
  induction n with
  | zero => intro m bs acc h; omega
  | succ n ih =>
    intro m bs acc h hm
    obtain ⟨m, rfl⟩ : ∃ k, m = k + 1 := ⟨m - 1, by omega⟩
    unfold parseF
    by_cases h0 : bs = []
    · rw [if_pos h0, if_pos h0]
    · rw [if_neg h0, if_neg h0]
      cases hs : stepOf bs with
      | none => rfl
      | some p =>
        obtain ⟨l, r⟩ := p
        have hl := step_len hs
        simp only
        split
        · rfl
        · split
          · rfl
          · exact ih m r _ (by omega) (by omega)
def parseG (bs : List UInt8) (acc : FL) : FL × Int := parseF (bs.length + 1) bs acc
def parseOf (bs : List UInt8) : FL × Int := parseG bs []
theorem parse_nil (acc : FL) : parseG [] acc = (acc, 0) := by unfold parseG parseF; rw [if_pos rfl]
theorem parse_none (bs : List UInt8) (acc : FL) (h0 : bs ≠ []) (hs : stepOf bs = none) : parseG bs acc = ([], 40) := by unfold parseG parseF; rw [if_neg h0, hs]
theorem parse_bad (bs l r : List UInt8) (acc : FL) (hs : stepOf bs = some (l, r)) (hl : (lineOf l).2 ≠ 0) : parseG bs acc = ([], (lineOf l).2) := by
  have h0 : bs ≠ [] := by intro e; rw [e] at hs; simp [stepOf] at hs
  unfold parseG parseF; rw [if_neg h0, hs]; simp only; rw [if_pos hl]
theorem parse_many (bs l r : List UInt8) (acc : FL) (hs : stepOf bs = some (l, r)) (hl : (lineOf l).2 = 0) (ha : 100 ≤ acc.length) : parseG bs acc = ([], 42) := by
  have h0 : bs ≠ [] := by intro e; rw [e] at hs; simp [stepOf] at hs
  unfold parseG parseF; rw [if_neg h0, hs]; simp only; rw [if_neg (by rw [hl]; simp), if_pos ha]
theorem parse_next (bs l r : List UInt8) (acc : FL) (hs : stepOf bs = some (l, r)) (hl : (lineOf l).2 = 0) (ha : ¬ 100 ≤ acc.length) : parseG bs acc = parseG r (acc ++ [(lineOf l).1]) := by
  have h0 : bs ≠ [] := by intro e; rw [e] at hs; simp [stepOf] at hs
  have hlen := step_len hs
  unfold parseG
  rw [parseF, if_neg h0, hs]; simp only; rw [if_neg (by rw [hl]; simp), if_neg ha]
  exact parse_fuel _ _ _ _ (by omega) (by omega)
theorem in_of_holdsB {w : World} {ao : Option Addr} {cap : Nat} {bs : List UInt8} (h : HoldsB w (.slice ao bs.length cap) bs) : Lib.BytesIn w ao bs.length (bs.map fun b => (b.toNat : Int)) := by
  intro hn
  obtain ⟨ao', cap', e, _, _, hc⟩ := h
  simp only [Value.slice.injEq] at e
  obtain ⟨rfl, _, rfl⟩ := e
  obtain ⟨b, off, rfl, _, hcell⟩ := hc (fun e => by rw [e] at hn; simp at hn)
  refine ⟨b, off, rfl, fun i hi => ?_⟩
  rw [hcell i hi]
  simp [B, List.getD, hi]
theorem bytesOf_map' (l : List UInt8) : Lib.bytesOf (l.map fun b => (b.toNat : Int)) = l := by
  unfold Lib.bytesOf
  rw [List.map_map]
  conv => rhs; rw [← List.map_id l]
  exact List.map_congr_left (fun b _ => by simp)
theorem byte_range (l : List UInt8) : ∀ x ∈ l.map (fun b => (b.toNat : Int)), 0 ≤ x ∧ x < 256 := by
  intro x hx
  obtain ⟨b, _, rfl⟩ := List.mem_map.1 hx
  have := b.toNat_lt
  omega
theorem holdsB_suf {w : World} {ao : Option Addr} {cap : Nat} {bs : List UInt8} (h : HoldsB w (.slice ao bs.length cap) bs) (i : Nat) (hi : i ≤ bs.length) : HoldsB w (Lib.fromV ao bs.length cap i) (bs.drop i) := by
  obtain ⟨ao', cap', e, h0, hcp, hc⟩ := h
  simp only [Value.slice.injEq] at e
  obtain ⟨rfl, _, rfl⟩ := e
  have hl : (bs.drop i).length = bs.length - i := by rw [List.length_drop]
  refine ⟨_, cap - i, by unfold Lib.fromV; rw [hl], ?_, by omega, fun hne => ?_⟩
  · intro e
    split at e
    · omega
    · cases ao with
      | none => have := h0 rfl; omega
      | some a => simp at e
  · have hp : i < bs.length := by
      rcases Nat.lt_or_ge i bs.length with h | h
      · exact h
      · exact absurd (List.drop_eq_nil_of_le h) hne
    obtain ⟨b, off, rfl, hlt, hcell⟩ := hc (fun e => by rw [e] at hp; simp at hp)
    refine ⟨b, off + i, ?_, hlt, fun j hj => ?_⟩
    · rw [if_neg (by omega)]
      simp [Addr.add]
    · have := hcell (i + j) (by omega)
      rw [Nat.add_assoc, this]
      simp
theorem mark2 (W : World) : Sem.run Tryz.prog (convert 57 57 (.slice (some ⟨W.heap.size, 0, none⟩) 2 2)) (W.alloc (.cells #[.int .u8 13, .int .u8 10] 5)) = .ok (.slice (some ⟨W.heap.size, 0, none⟩) 2 2) (W.alloc (.cells #[.int .u8 13, .int .u8 10] 5 (2, 3))) :=
  Lib.run_convert_bytes_const W 57 5 #[.int .u8 13, .int .u8 10] 2 2 Tryz.underlying57 Tryz.underlying5
theorem cutB (ao : Option Addr) (cap : Nat) (bs : List UInt8) (W : World) (hv : HoldsB W (.slice ao bs.length cap) bs) (M : MaxV W) (hs : bs.length < 4294967281) :
    Calls Tryz.prog 239 #[.slice ao bs.length cap, .slice (some ⟨W.heap.size, 0, none⟩) 2 2] (W.alloc (.cells #[.int .u8 13, .int .u8 10] 5 (2, 3))) fun e w' => e = .returned (Lib.cutV ao bs.length cap 2 (Lib.index bs [13, 10])) ∧ Below W.heap.size W w' := by
  have bA := below_alloc' W (.cells #[.int .u8 13, .int .u8 10] 5 (2, 3))
  obtain ⟨m, hm⟩ := maxV_below M bA
  have h1 := in_of_holdsB (holdsB_mono hv bA)
  obtain ⟨ao', cap', e, h0, hcp, _⟩ := hv
  simp only [Value.slice.injEq] at e
  obtain ⟨rfl, _, rfl⟩ := e
  have c := Any.bytes_Cut_all Tryz.laysT4 ao (some ⟨W.heap.size, 0, none⟩) bs.length cap 2 2 (bs.map fun b => (b.toNat : Int)) [13, 10] m _ (by simp) rfl (byte_range bs) (by decide) h1 (fun _ => ⟨W.heap.size, 0, rfl, fun i hi => by
    match i, hi with
    | 0, _ => simp [World.cell?_alloc_mark]
    | 1, _ => simp [World.cell?_alloc_mark]⟩) h0 hcp hs (by decide) hm
  refine c.mono ?_
  rintro e w' ⟨rfl, q, rfl⟩
  rw [bytesOf_map', show Lib.bytesOf [13, 10] = [13, 10] from rfl]
  exact ⟨rfl, bt' bA (below_drewN _ q)⟩
end Go.Proofs.YtibjcofbhldenaaGreatDoor
namespace Go.Proofs.YtibjcofbhldenaaGreatDoor
open Go.RowKit
def lenOf : Value → Nat
  | .slice _ n _ => n
  | _ => 0
/-- what bytes.ContainsAny at a line's two last bytes says -/
def CaC (line : List UInt8) (ao : Option Addr) (cap : Nat) (W : World) : Prop := Calls Tryz.prog 245 #[.slice ao line.length cap, .string ⟨#[13, 10]⟩] W fun e w' => e = .returned (.bool (line.any isEnd)) ∧ Below W.heap.size W w'
theorem conv_holdsB (w : World) (ao : Option Addr) (cap : Nat) (l : List UInt8) (h : HoldsB w (.slice ao l.length cap) l) :
    Sem.run Tryz.prog (convert 57 9 (.slice ao l.length cap)) w = .ok (.string ⟨l.toArray⟩) w := by
  obtain ⟨ao', cap', e, h0, hcp, hc⟩ := h
  simp only [Value.slice.injEq] at e
  obtain ⟨rfl, _, rfl⟩ := e
  by_cases hl : l = []
  · subst hl
    cases ao with
    | none => obtain rfl := h0 rfl; exact conv_nil w
    | some a => exact run_convert_bytes_back w 57 9 5 a cap [] Tryz.underlying57 Tryz.underlying5 Tryz.underlying9 (fun j hj => by simp at hj)
  · obtain ⟨b, off, rfl, _, hcell⟩ := hc hl
    rw [run_convert_bytes_back w 57 9 5 ⟨b, off, none⟩ cap l Tryz.underlying57 Tryz.underlying5 Tryz.underlying9 (fun j hj => by rw [Go.WideShapes.add_plain]; exact hcell j hj)]
set_option maxRecDepth 20000 in
set_option maxHeartbeats 1000000 in
theorem parseTok (v : Value) (bs : List UInt8) (w : World) (hv : HoldsB w v bs) (M : MaxV w) (hs : bs.length < 4294967281)
    (cA : ∀ W, Below w.heap.size w W → ∀ ao cap (line : List UInt8), (∀ c ∈ line, c ∈ bs) → line.length ≤ bs.length → HoldsB W (.slice ao line.length cap) line → CaC line ao cap W)
    (cI : ∀ W, Below w.heap.size w W → ∀ s : ByteArray, (∀ c ∈ s.data.toList, c ∈ bs) → s.size ≤ bs.length → IdxC s W) :
    Calls Tryz.prog 218 #[v] w fun e w' => ∃ lv, e = .returned (.tuple #[lv, .int .i64 (parseOf bs).2]) ∧ OwnF w lv (parseOf bs).1 w' := by
  have HV := hide' hv
  have MV := hide' M
  have CA := hide' cA
  have CI := hide' cI
  clear hv M cA cI
  obtain ⟨ao0, cap0, hv0, _⟩ := HV.out
  rw [hv0] at HV ⊢
  clear hv0
  go_enter Tryz.func218, Tryz.ntmps218
  go_wp2_with fail
  go_loopw [0, 4] (fun bv lv wr => ∃ (rest : List UInt8) (acc : FL) (ao : Option Addr) (cap : Nat), bv = .slice ao rest.length cap ∧ Hid (HoldsB w (.slice ao rest.length cap) rest) ∧ Hid (parseG rest acc = parseOf bs) ∧ acc.length ≤ 100 ∧ rest.length ≤ bs.length ∧ Hid (∀ c ∈ rest, c ∈ bs) ∧ OwnF w lv acc wr) (fun bv _ _ => lenOf bv)
  case atStart => exact ⟨bs, [], ao0, cap0, rfl, HV, rfl, by simp, Nat.le_refl _, fun c h => h, ownF_nil _ _ (Below.refl _ _)⟩
  case round =>
    obtain ⟨rest, acc, ao, cap, rfl, HB, HP, hacc, hrl, HM, ho⟩ := hrel
    by_cases hr0 : rest = []
    · subst hr0
      rw [parse_nil] at HP
      have P2 : Hid ((parseOf bs).2 = 0) := by unfold Hid; rw [← HP.out]
      have P1 : Hid ((parseOf bs).1 = acc) := by unfold Hid; rw [← HP.out]
      go_wp2_with fail
      go_ret2
      rw [P2.out, P1.out]
      exact ⟨_, rfl, ho⟩
    · have hpos : 0 < rest.length := by cases rest with | nil => exact absurd rfl hr0 | cons _ _ => simp
      have hB := holdsB_mono HB.out ho.2
      have kc := mark2 wr
      have cC := hide' (cutB ao cap rest wr hB (maxV_below MV.out ho.2) (by omega))
      cases hst : stepOf rest with
      | none =>
        have HPn := hide' (HP.out.symm.trans (parse_none rest acc hr0 hst))
        have P2 : Hid ((parseOf bs).2 = 40) := by unfold Hid; rw [HPn.out]
        have P1 : Hid ((parseOf bs).1 = []) := by unfold Hid; rw [HPn.out]
        rcases (step_spec rest).2 hst with hi | ⟨i, hi, hany⟩
        · rw [hi] at cC
          unfold Lib.cutV at cC
          rw [if_neg (by decide)] at cC
          clear hi hst hB
          go_wp2_with fail
          refine cC.out.mono ?_
          clear kc
          rintro e w1 ⟨rfl, b1⟩
          have B1 := hide' (bt' ho.2 b1)
          clear b1 ho
          go_wp2_with fail
          go_ret2
          rw [P2.out, P1.out]
          exact ⟨_, rfl, ownF_nil _ _ B1.out⟩
        · have hroom := Lib.index_room rest [13, 10] (by rw [hi]; omega)
          rw [hi] at hroom
          simp at hroom
          have hip : i ≤ rest.length := by omega
          have htl : (rest.take i).length = i := by rw [List.length_take]; omega
          have KA := hide' (fun W hb (hB2 : HoldsB W (.slice ao (rest.take i).length cap) (rest.take i)) => CA.out W hb ao cap (rest.take i) (fun c hc => HM.out c (List.mem_of_mem_take hc)) (by omega) hB2)
          have HT := hide' (holdsB_pre HB.out i hip)
          unfold CaC at KA
          rw [hany, htl] at KA
          rw [hi] at cC
          unfold Lib.cutV at cC
          rw [if_pos (by omega), Int.toNat_natCast] at cC
          obtain ⟨vb, hvb⟩ : ∃ vb, vb = Lib.fromV ao rest.length cap (i + 2) := ⟨_, rfl⟩
          rw [← hvb] at cC
          clear hi hst hB hvb hany htl hroom
          go_wp2_with fail
          refine cC.out.mono ?_
          clear kc
          rintro e w1 ⟨rfl, b1⟩
          have B1 := hide' (bt' ho.2 b1)
          clear b1 ho
          go_wp2_with fail
          refine (KA.out _ B1.out (holdsB_mono HT.out B1.out)).mono ?_
          rintro e w2 ⟨rfl, b2⟩
          have B2 := hide' (bt' B1.out b2)
          clear b2 B1
          go_wp2_with fail
          go_ret2
          rw [P2.out, P1.out]
          exact ⟨_, rfl, ownF_nil _ _ B2.out⟩
      | some p =>
        obtain ⟨l, r⟩ := p
        obtain ⟨hi, hany, happ⟩ := (step_spec rest).1 l r hst
        have hlen := step_len hst
        have htake : rest.take l.length = l := by rw [happ]; simp
        have hdrop : rest.drop (l.length + 2) = r := by rw [happ, ← List.drop_drop]; simp
        have HT := holdsB_pre HB.out l.length (by omega)
        rw [htake] at HT
        have HS := holdsB_suf HB.out (l.length + 2) (by omega)
        rw [hdrop] at HS
        have hlm : ∀ c ∈ l, c ∈ bs := fun c hc => HM.out c (by rw [happ]; simp [hc])
        have HMr : Hid (∀ c ∈ r, c ∈ bs) := fun c hc => HM.out c (by rw [happ]; simp [hc])
        have KA := hide' (fun W hb (hB2 : HoldsB W (.slice ao l.length cap) l) => CA.out W hb ao cap l hlm (by omega) hB2)
        unfold CaC at KA
        rw [hany] at KA
        have KI := hide' (fun W (hb : Below w.heap.size w W) => parseLineTok ⟨l.toArray⟩ (by rw [size_l]; omega) W (maxV_below MV.out hb) (fun W' hb' => CI.out W' (bt' hb hb') ⟨l.toArray⟩ (by simpa using hlm) (by rw [size_l]; omega)))
        simp only at KI
        rw [hi] at cC
        unfold Lib.cutV at cC
        rw [if_pos (by omega), Int.toNat_natCast] at cC
        obtain ⟨vb, hvb⟩ : ∃ vb, vb = Lib.fromV ao rest.length cap (l.length + 2) := ⟨_, rfl⟩
        rw [← hvb] at cC HS
        have HT2 := hide' HT
        have HS2 := hide' HS
        have CV := hide' (fun W (hb : Below w.heap.size w W) => conv_holdsB W ao cap l (holdsB_mono HT hb))
        have hpb := parse_bad rest l r acc hst
        have hpm := parse_many rest l r acc hst
        have hpn := parse_next rest l r acc hst
        unfold lineV at KI
        have LL := line_len l
        obtain ⟨x, hx⟩ : ∃ x, x = (lineOf l).1.1 := ⟨_, rfl⟩
        obtain ⟨y, hy⟩ : ∃ y, y = (lineOf l).1.2 := ⟨_, rfl⟩
        obtain ⟨ee, hee⟩ : ∃ ee, ee = (lineOf l).2 := ⟨_, rfl⟩
        rw [← hx, ← hy, ← hee] at KI
        have hxy : (lineOf l).1 = (x, y) := by rw [hx, hy]
        rw [← hee] at hpb hpm hpn
        by_cases h0 : ee = 0
        · by_cases h100 : acc.length = 100
          · have HPn := hide' (HP.out.symm.trans (hpm h0 (by omega)))
            have P2 : Hid ((parseOf bs).2 = 42) := by unfold Hid; rw [HPn.out]
            have P1 : Hid ((parseOf bs).1 = []) := by unfold Hid; rw [HPn.out]
            obtain ⟨aa, ca, b9, o9, hlv, _⟩ := holdsF_parts (holdsF_own ho)
            subst h0
            have e100 : ((acc.length : Int) == 100) = true := by rw [h100]; rfl
            clear hpb hpm hpn hi hany happ htake hdrop hlen hst HT HS LL hx hy hee hxy hlm hB h100 hvb
            rw [hlv] at ho ⊢
            clear hlv
            go_wp2_with fail
            refine cC.out.mono ?_
            rintro e w1 ⟨rfl, b1⟩
            have B1 := hide' (bt' ho.2 b1)
            have O1 := hide' (ownF_mono ho b1)
            clear b1 ho kc
            go_wp2_with fail
            refine (KA.out _ B1.out (holdsB_mono HT2.out B1.out)).mono ?_
            rintro e w2 ⟨rfl, b2⟩
            have B2 := hide' (bt' B1.out b2)
            have O2 := hide' (ownF_mono O1.out b2)
            have cv := CV.out w2 B2.out
            clear b2 B1 O1
            go_wp2_with fail
            refine (KI.out _ B2.out).mono ?_
            rintro e w3 ⟨rfl, b3⟩
            have B3 := hide' (bt' B2.out b3)
            have O3 := hide' (ownF_mono O2.out b3)
            clear b3 B2 O2 cv
            go_wp2_with fail
            go_ret2
            rw [P2.out, P1.out]
            exact ⟨_, rfl, ownF_nil _ _ (B3.out.alloc B3.out.size _)⟩
          · have HPn := hide' ((hpn h0 (by omega)).symm.trans HP.out)
            rw [hxy] at HPn
            obtain ⟨aa, ca, b9, o9, hlv, _⟩ := holdsF_parts (holdsF_own ho)
            subst h0
            have e100 : ((acc.length : Int) == 100) = false := by simp; omega
            obtain ⟨a2, c2, hvb2, _⟩ := HS2.out
            have HL := hide' hlen
            clear hpb hpm hpn hi hany happ htake hdrop hst HT HS LL hx hy hee hxy hlm hB hvb hlen
            rw [hvb2] at cC HS2
            clear hvb2
            rw [hlv] at ho ⊢
            clear hlv
            go_wp2_with fail
            refine cC.out.mono ?_
            rintro e w1 ⟨rfl, b1⟩
            have B1 := hide' (bt' ho.2 b1)
            have O1 := hide' (ownF_mono ho b1)
            clear b1 ho kc
            go_wp2_with fail
            refine (KA.out _ B1.out (holdsB_mono HT2.out B1.out)).mono ?_
            rintro e w2 ⟨rfl, b2⟩
            have B2 := hide' (bt' B1.out b2)
            have O2 := hide' (ownF_mono O1.out b2)
            have cv := CV.out w2 B2.out
            clear b2 B1 O1
            go_wp2_with fail
            refine (KI.out _ B2.out).mono ?_
            rintro e w3 ⟨rfl, b3⟩
            have B3 := hide' (bt' B2.out b3)
            have O3 := hide' (ownF_mono O2.out b3)
            clear b3 B2 O2 cv
            have O4 := hide' (ownF_mono O3.out (below_alloc' w3 (.cells #[.string ⟨x.toArray⟩, .string ⟨y.toArray⟩] 208)))
            go_wp2_with (at_builtin; refine appF rfl (.tmp 39) (.tmp 41) rfl w _ _ rfl O4.out (x, y) rfl rfl rfl (by simp) (by omega) ?_; intro v5 w5 ho5)
            go_roundw
            case rel => exact ⟨r, acc ++ [(x, y)], a2, c2, rfl, HS2, HPn, by simp; omega, by have := HL.out; omega, HMr, ho5⟩
            case measure => have := HL.out; simp [lenOf]; omega
        · have HPn := hide' (HP.out.symm.trans (hpb h0))
          have P2 : Hid ((parseOf bs).2 = ee) := by unfold Hid; rw [HPn.out]
          have P1 : Hid ((parseOf bs).1 = []) := by unfold Hid; rw [HPn.out]
          have ene : (ee != 0) = true := by simpa using h0
          clear hpb hpm hpn hi hany happ htake hdrop hlen hst HT HS LL hx hy hee hxy hlm hB h0 hvb
          go_wp2_with fail
          refine cC.out.mono ?_
          rintro e w1 ⟨rfl, b1⟩
          have B1 := hide' (bt' ho.2 b1)
          have O1 := hide' (ownF_mono ho b1)
          clear b1 ho kc
          go_wp2_with fail
          refine (KA.out _ B1.out (holdsB_mono HT2.out B1.out)).mono ?_
          rintro e w2 ⟨rfl, b2⟩
          have B2 := hide' (bt' B1.out b2)
          have O2 := hide' (ownF_mono O1.out b2)
          have cv := CV.out w2 B2.out
          clear b2 B1 O1
          go_wp2_with fail
          refine (KI.out _ B2.out).mono ?_
          rintro e w3 ⟨rfl, b3⟩
          have B3 := hide' (bt' B2.out b3)
          have O3 := hide' (ownF_mono O2.out b3)
          clear b3 B2 O2 cv
          go_wp2_with fail
          go_ret2
          rw [P2.out, P1.out]
          exact ⟨_, rfl, ownF_nil _ _ (B3.out.alloc B3.out.size _)⟩
end Go.Proofs.YtibjcofbhldenaaGreatDoor
namespace Go.Proofs.YtibjcofbhldenaaGreatDoor
open Go.RowKit
def noBl (c : UInt8) : Bool := decide (c ≠ 32)
theorem noBl_iff (c : UInt8) : noBl c = false ↔ c = 32 := by unfold noBl; simp
def word (l : List UInt8) : List UInt8 := l.takeWhile noBl
def past (l : List UInt8) : List UInt8 := (l.dropWhile noBl).drop 1
def visI (c : Int) : Bool := decide (33 ≤ c ∧ c ≤ 126)
def digI (c : Int) : Bool := decide (48 ≤ c ∧ c ≤ 57)
def vis (c : UInt8) : Bool := visI (c.toNat : Int)
def dig (c : UInt8) : Bool := digI (c.toNat : Int)
def P5 : List UInt8 := [72, 84, 84, 80, 47]
def V10 : List UInt8 := [72, 84, 84, 80, 47, 49, 46, 48]
def V11 : List UInt8 := [72, 84, 84, 80, 47, 49, 46, 49]
def isVer (l : List UInt8) : Bool := P5.isPrefixOf l && (decide (l.length = 8) && (dig (l.getD 5 0) && (decide (l.getD 6 0 = 46) && dig (l.getD 7 0))))
def minOf (l : List UInt8) : Int × Int := if l = V10 then (0, 0) else if l = V11 then (1, 0) else (0, 52)
theorem word_len (l : List UInt8) : (word l).length ≤ l.length := (List.takeWhile_sublist _).length_le
theorem past_len (l : List UInt8) : (past l).length ≤ l.length := by
  have := (List.dropWhile_sublist noBl (l := l)).length_le
  unfold past; rw [List.length_drop]; omega
theorem cut_blank (l : List UInt8) : Lib.cut l [32] = (word l, past l, ! l.all noBl) := cut_one noBl 32 noBl_iff l
theorem min_facts (l : List UInt8) : ((minOf l).2 = 0 ∧ ((minOf l).1 = 0 ∨ (minOf l).1 = 1)) ∨ ((minOf l).2 = 52 ∧ (minOf l).1 = 0) := by
  unfold minOf
  split
  · exact .inl ⟨rfl, .inl rfl⟩
  · split
    · exact .inl ⟨rfl, .inr rfl⟩
    · exact .inr ⟨rfl, rfl⟩
def num3 (l : List UInt8) : Int := ((l.getD 0 0).toNat : Int) * 100 + ((l.getD 1 0).toNat : Int) * 10 + ((l.getD 2 0).toNat : Int) - 5328
def goodS (n : Int) : Bool := decide (100 ≤ n ∧ n ≤ 599)
/-- a response's first line -/
def lineR (l : List UInt8) : Rs × Int :=
  if (isVer (word l) && (decide ((word (past l)).length = 3) && ((word (past l)).all dig && (past (past l)).all txt))) = false then (Rs.zero, 50)
  else if (minOf (word l)).2 = 0 then (if goodS (num3 (word (past l))) = true then (⟨num3 (word (past l)), past (past l), (minOf (word l)).1, []⟩, 0) else (Rs.zero, 53)) else (Rs.zero, 52)
def headH (bs : List UInt8) (p n : Nat) : List UInt8 := (bs.take (n - 2)).drop p
def lineH (h : List UInt8) : List UInt8 := h.take (Lib.index h E2).toNat
def blkH (h : List UInt8) : List UInt8 := h.drop ((Lib.index h E2).toNat + 2)
def respG (q : Rs × Int) (f : FL × Int) (n : Nat) : Rs × Nat × Int :=
  if q.2 ≠ 0 then (Rs.zero, 0, q.2) else if f.2 ≠ 0 then (Rs.zero, 0, f.2) else (⟨q.1.s, q.1.r, q.1.k, f.1⟩, n, 0)
def respOf (bs : List UInt8) : Rs × Nat × Int :=
  if (endOf bs 0).1 = 0 then (Rs.zero, 0, (endOf bs 0).2)
  else respG (lineR (lineH (headH bs 0 (endOf bs 0).1))) (parseOf (blkH (headH bs 0 (endOf bs 0).1))) (endOf bs 0).1
/-- what the end says -/
theorem end_facts (bs : List UInt8) (p : Nat) (h : (endOf bs p).1 ≠ 0) : ∃ i : Nat, Lib.index (bs.drop p) E4 = i ∧ endOf bs p = (p + i + 4, 0) ∧ p + i + 4 ≤ 8192 ∧ p + i + 4 ≤ bs.length := by
  rcases index_cases (bs.drop p) E4 with h1 | ⟨i, h1⟩
  · rw [end_none _ _ h1] at h; split at h <;> exact absurd rfl h
  · have h2 := end_some bs p i h1
    by_cases hc : 8192 < p + i + 4
    · rw [h2, if_pos hc] at h; exact absurd rfl h
    · rw [if_neg hc] at h2
      have h3 := occ_len _ _ _ (by decide) (index_is _ _ _ h1).2.1
      rw [List.length_drop] at h3
      have : E4.length = 4 := rfl
      exact ⟨i, h1, h2, by omega, by omega⟩
/-- in what stands ahead of the head's last two bytes a line's end is found -/
theorem headH_index (bs : List UInt8) (p i : Nat) (h : Lib.index (bs.drop p) E4 = i) (hl : p + i + 4 ≤ bs.length) : ∃ j : Nat, Lib.index (headH bs p (p + i + 4)) E2 = j ∧ j ≤ i ∧ (headH bs p (p + i + 4)).length = i + 2 := by
  have hlen : (headH bs p (p + i + 4)).length = i + 2 := by
    unfold headH; rw [List.length_drop, List.length_take]; omega
  have ho := (index_is _ _ _ h).2.1
  have e : headH bs p (p + i + 4) = (bs.drop p).take (i + 2) := by
    unfold headH
    rw [List.drop_take]
    congr 1
    omega
  have h2 : Lib.occAt (headH bs p (p + i + 4)) E2 i = true := by
    rw [e]
    unfold Lib.occAt at ho ⊢
    rw [List.drop_take]
    rw [List.isPrefixOf_iff_prefix] at ho ⊢
    obtain ⟨t, ht⟩ := ho
    rw [← ht, show i + 2 - i = 2 by omega]
    exact ⟨[], rfl⟩
  obtain ⟨j, hj, hji⟩ := index_some_of _ _ _ (by decide) h2
  exact ⟨j, hj, hji, hlen⟩
theorem resp_none (bs : List UInt8) (h : (endOf bs 0).1 = 0) : respOf bs = (Rs.zero, 0, (endOf bs 0).2) := by unfold respOf; rw [if_pos h]
theorem resp_some (bs : List UInt8) (n : Nat) (hn : n ≠ 0) (h : endOf bs 0 = (n, 0)) : respOf bs = respG (lineR (lineH (headH bs 0 n))) (parseOf (blkH (headH bs 0 n))) n := by unfold respOf; rw [h, if_neg hn]
end Go.Proofs.YtibjcofbhldenaaGreatDoor
namespace Go.Proofs.YtibjcofbhldenaaGreatDoor
open Go.RowKit
/-- the library's two tables of unicode/utf8 -/
def TabsV (w : World) : Prop := Lib.Utf8Tabs 6 7 w
theorem cell_lt' {w : World} {g o : Nat} {v : Value} (h : w.cell? ⟨g, o, none⟩ = some v) : g < w.heap.size := by
  rcases Nat.lt_or_ge g w.heap.size with h1 | h1
  · exact h1
  · unfold World.cell? at h
    rw [Array.getElem?_eq_none h1] at h
    simp at h
theorem tabsV_below {w w' : World} (h : TabsV w) (hb : Below w.heap.size w w') : TabsV w' := by
  refine ⟨fun c hc => ?_, fun i hi => ?_⟩
  · have := h.1 c hc
    rw [hb.cell (p := ⟨_, c, none⟩) (cell_lt' this)]; exact this
  · obtain ⟨h1, h2⟩ := h.2 i hi
    exact ⟨by rw [hb.cell (p := ⟨_, 2 * i, none⟩) (cell_lt' h1)]; exact h1, by rw [hb.cell (p := ⟨_, 2 * i + 1, none⟩) (cell_lt' h2)]; exact h2⟩
/-- what is decoded where no ASCII byte stands -/
theorem dec_spec (l : List UInt8) (h0 : 0 < l.length) (h128 : 128 ≤ (l[0]).toNat) : ∃ R K : Nat, Lib.decodeGo ⟨l.toArray⟩ = (R, K) ∧ 1 ≤ K ∧ K ≤ l.length ∧ K ≤ 4 ∧ 128 ≤ R ∧ R ≤ 1114111 ∧ (∀ j (h : j < l.length), j < K → 128 ≤ (l[j]).toNat) ∧
    (R = 65533 ∨ (Utf8.valid R = true ∧ 2 ≤ K ∧ (Utf8.encode R).size = K)) := by
  have hsz : (⟨l.toArray⟩ : ByteArray).size = l.length := size_l l
  have hd : Lib.decodeGo ⟨l.toArray⟩ = Lib.decodeN l.length ((⟨l.toArray⟩ : ByteArray).get! 0).toNat ((⟨l.toArray⟩ : ByteArray).get! 1).toNat ((⟨l.toArray⟩ : ByteArray).get! 2).toNat ((⟨l.toArray⟩ : ByteArray).get! 3).toNat := by
    unfold Lib.decodeGo
    rw [if_neg (by rw [hsz]; omega), Lib.decode_at, hsz]
    simp
  have hg : ∀ j (h : j < l.length), ((⟨l.toArray⟩ : ByteArray).get! j) = l[j] := by
    intro j h
    show l.toArray[j]! = l[j]
    rw [getElem!_pos l.toArray j (by simpa using h)]
    simp
  have h0' := hg 0 h0
  have v1 : ∀ R : Nat, 128 ≤ R → R ≤ 1114111 → (R < 55296 ∨ 57344 ≤ R) → Utf8.valid R = true := by
    intro R a b c
    unfold Utf8.valid
    simp
    omega
  have e1 : ∀ R : Nat, Utf8.valid R = true → 128 ≤ R → (Utf8.encode R).size = if R < 2048 then 2 else if R < 65536 then 3 else 4 := by
    intro R hv ha
    unfold Utf8.encode
    simp only [hv, if_true, Int.toNat_natCast]
    rw [if_neg (by omega)]
    split
    · rfl
    · split <;> rfl
  rcases Lib.decodeN_shape l.length ((⟨l.toArray⟩ : ByteArray).get! 0).toNat ((⟨l.toArray⟩ : ByteArray).get! 1).toNat ((⟨l.toArray⟩ : ByteArray).get! 2).toNat ((⟨l.toArray⟩ : ByteArray).get! 3).toNat with ⟨c, e⟩ | ⟨c1, c2, c3, cv, e⟩ | ⟨c1, c2, c3, c4, cv, cs, e⟩ | ⟨c1, c2, c3, c4, c5, cv, cw, e⟩ | e
  · exfalso; rw [h0'] at c; omega
  · rw [hg 1 c2] at c3
    have hv := v1 _ cv (by omega) (by omega)
    refine ⟨_, 2, hd.trans e, by omega, by omega, by omega, cv, by omega, ?_, Or.inr ⟨hv, by omega, ?_⟩⟩
    · intro j hj hk
      match j, hk with
      | 0, _ => exact h128
      | 1, _ => omega
    · rw [e1 _ hv cv, if_pos (by omega)]
  · rw [hg 1 (by omega)] at c3
    rw [hg 2 c2] at c4
    have hv := v1 _ (by omega) (by omega) cs
    refine ⟨_, 3, hd.trans e, by omega, by omega, by omega, by omega, by omega, ?_, Or.inr ⟨hv, by omega, ?_⟩⟩
    · intro j hj hk
      match j, hk with
      | 0, _ => exact h128
      | 1, _ => omega
      | 2, _ => omega
    · rw [e1 _ hv (by omega), if_neg (by omega), if_pos (by omega)]
  · rw [hg 1 (by omega)] at c3
    rw [hg 2 (by omega)] at c4
    rw [hg 3 c2] at c5
    have hv := v1 _ (by omega) cw (by omega)
    refine ⟨_, 4, hd.trans e, by omega, by omega, by omega, by omega, cw, ?_, Or.inr ⟨hv, by omega, ?_⟩⟩
    · intro j hj hk
      match j, hk with
      | 0, _ => exact h128
      | 1, _ => omega
      | 2, _ => omega
      | 3, _ => omega
    · rw [e1 _ hv (by omega), if_neg (by omega), if_neg (by omega)]
  · refine ⟨65533, 1, hd.trans e, by omega, by omega, by omega, by omega, by omega, ?_, Or.inl rfl⟩
    intro j hj hk
    match j, hk with
    | 0, _ => exact h128
/-- the search of one byte among a line's two last -/
theorem ibs (c : UInt8) (w : World) : ∃ r : Int, (callFunc 231 #[.string ⟨#[13, 10]⟩, .int .u8 (c.toNat : Int)]).run Tryz.prog w = .ok (.value (.int .i64 r)) w ∧ (isEnd c = true → 0 ≤ r) ∧ (isEnd c = false → r < 0) := by
  have h : (callFunc 231 #[.string ⟨#[13, 10]⟩, .int .u8 (c.toNat : Int)]).run Tryz.prog w = .ok (.value (.int .i64 (Lib.indexByte [13, 10] ((c.toNat : Int).toNat.toUInt8)))) w := by
    rw [run_callFunc_extern Tryz.func231 (by kernel_rfl) (by kernel_rfl) (by kernel_rfl) (e := Extern.BytealgIndexByte.indexByte) (by kernel_rfl), Lib.run_indexByteString]
    rfl
  refine ⟨_, h, ?_, ?_⟩
  · intro he
    have hb : ((c.toNat : Int)).toNat.toUInt8 = c := by simp
    rw [hb]
    unfold isEnd at he
    rcases of_decide_eq_true he with rfl | rfl <;> decide
  · intro he
    have hb : ((c.toNat : Int)).toNat.toUInt8 = c := by simp
    rw [hb]
    unfold isEnd at he
    have he := of_decide_eq_false he
    have h1 : ¬ 13 = c := fun e => he (.inl e.symm)
    have h2 : ¬ 10 = c := fun e => he (.inr e.symm)
    have : Lib.indexByte [13, 10] c = -1 := by simp [Lib.indexByte, h1, h2]
    rw [this]; decide
theorem enc_ne' (E : ByteArray) (h1 : 2 ≤ E.size) (h3 : ∀ h : E.size - 1 < E.size, 128 ≤ (E[E.size - 1]'h).toNat) : ¬ E.data.toList = [13, 10] := by
  intro e
  have h4 := h3 (by omega)
  have he : E = ⟨#[13, 10]⟩ := by cases E; simp at e; simp [← e]
  have key : ∀ b : ByteArray, b = ⟨#[13, 10]⟩ → ∀ h : b.size - 1 < b.size, (b[b.size - 1]'h).toNat = 10 := by
    rintro _ rfl h; rfl
  rw [key _ he] at h4
  omega
/-- the search of a text of two bytes or more, other than they are, among a line's two last bytes -/
theorem iss (E : ByteArray) (w : World) (m : Int) (hm : w.cell? ⟨1, 0, none⟩ = some (.int .i64 m)) (h1 : 2 ≤ E.size) (hne : ¬ E.data.toList = [13, 10]) (hK : (E.size : Int) ≤ m) :
    (callFunc 282 #[.string ⟨#[13, 10]⟩, .string E]).run Tryz.prog w = .ok (.value (.int .i64 (-1))) w := by
  have hi : Lib.index [13, 10] E.data.toList = -1 := by
    refine Lib.index_long ?_ hne
    have : E.data.toList.length = E.size := by simp
    rw [this]; exact h1
  rw [run_callFunc_extern Tryz.func282 (by kernel_rfl) (by kernel_rfl) (by kernel_rfl) (e := Extern.BytealgIndex.index) (by kernel_rfl), Lib.run_indexString ⟨#[13, 10]⟩ E w 1 m (by kernel_rfl) hm h1 hK (by show 2 < 4294967281; omega)]
  rw [show (⟨#[13, 10]⟩ : ByteArray).data.toList = [13, 10] from rfl, hi]
  rfl
end Go.Proofs.YtibjcofbhldenaaGreatDoor
