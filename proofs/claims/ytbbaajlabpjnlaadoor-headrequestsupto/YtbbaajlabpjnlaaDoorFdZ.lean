/- Lines of fields in plain words; strings.Cut at a colon; the library's variable that its search looks at. -/
import Derived.Test.YtbbaajlabpjnlaaDoorFdL
import Derived.Test.YtbbaajlabpjnlaaDoorShelfB
import Derived.Lib.Split
import Derived.Lib.IndexAny
import Derived.Shelf.Vars
namespace Go.Proofs.YtbbaajlabpjnlaaDoor
open Go.RowKit
theorem while_app (p : UInt8 → Bool) (a b : List UInt8) (ha : ∀ c ∈ a, p c = true) (hb : ∀ c r, b = c :: r → p c = false) : (a ++ b).takeWhile p = a ∧ (a ++ b).dropWhile p = b := by
  induction a with
  | nil =>
    cases b with
    | nil => exact ⟨rfl, rfl⟩
    | cons c r => have := hb c r rfl; simp [this]
  | cons c a ih =>
    have h1 := ha c (by simp)
    have h2 := ih (fun d hd => ha d (by simp [hd]))
    simp [h1, h2]
theorem while_app2 (p : UInt8 → Bool) (l : List UInt8) : l.takeWhile p ++ l.dropWhile p = l := List.takeWhile_append_dropWhile
theorem while_all (p : UInt8 → Bool) (l : List UInt8) (h : l.all p = true) : l.takeWhile p = l ∧ l.dropWhile p = [] := by
  have := while_app p l [] (fun c hc => List.all_eq_true.1 h c hc) (by simp)
  rwa [List.append_nil] at this
theorem while_take (p : UInt8 → Bool) (l : List UInt8) : l.take (l.takeWhile p).length = l.takeWhile p := by
  conv => lhs; rw [← while_app2 p l]
  rw [List.takeWhile_append_dropWhile]
  have := @List.take_left _ (l.takeWhile p) (l.dropWhile p)
  rwa [List.takeWhile_append_dropWhile] at this
theorem while_drop (p : UInt8 → Bool) (l : List UInt8) (k : Nat) : l.drop ((l.takeWhile p).length + k) = (l.dropWhile p).drop k := by
  have := @List.drop_left _ (l.takeWhile p) (l.dropWhile p)
  rw [List.takeWhile_append_dropWhile] at this
  rw [← List.drop_drop, this]
theorem while_len (p : UInt8 → Bool) (l : List UInt8) (h : ¬ l.all p = true) : (l.takeWhile p).length < l.length := by
  induction l with
  | nil => simp at h
  | cons c l ih =>
    by_cases hc : p c = true
    · rw [List.takeWhile_cons_of_pos hc]
      have := ih (fun e => h (by rw [List.all_cons, hc, e]; rfl))
      simp; omega
    · rw [List.takeWhile_cons_of_neg hc]; simp
theorem index_one (p : UInt8 → Bool) (c : UInt8) (hp : ∀ x, p x = false ↔ x = c) (l : List UInt8) : Lib.index l [c] = if l.all p = true then -1 else ((l.takeWhile p).length : Int) := by
  induction l with
  | nil => rfl
  | cons b l ih =>
    rw [Lib.index]
    by_cases e : b = c
    · subst e
      have h1 := (hp b).2 rfl
      have h2 : [b].isPrefixOf (b :: l) = true := by simp [List.isPrefixOf]
      rw [if_pos h2, List.all_cons, h1, Bool.false_and, if_neg (by simp), List.takeWhile_cons_of_neg (by simp [h1])]; rfl
    · have h1 : p b = true := by
        cases h : p b with
        | true => rfl
        | false => exact absurd ((hp b).1 h) e
      have h2 : ¬ [c].isPrefixOf (b :: l) = true := by simp [List.isPrefixOf]; exact fun x => e x.symm
      rw [if_neg h2, ih, List.all_cons, h1, Bool.true_and, List.takeWhile_cons_of_pos h1]
      by_cases h : l.all p = true
      · rw [if_pos h, if_pos h]; rfl
      · rw [if_neg h, if_neg h, if_neg]
        · simp
        · intro x; have := beq_iff_eq.1 x; omega
theorem cut_one (p : UInt8 → Bool) (c : UInt8) (hp : ∀ x, p x = false ↔ x = c) (l : List UInt8) : Lib.cut l [c] = (l.takeWhile p, (l.dropWhile p).drop 1, ! l.all p) := by
  unfold Lib.cut
  rw [index_one p c hp l]
  by_cases h : l.all p = true
  · rw [if_pos h, if_neg (by omega), (while_all p l h).1, (while_all p l h).2, h]; rfl
  · rw [if_neg h, if_pos (by omega), Int.toNat_natCast, while_take, while_drop, Bool.eq_false_iff.2 h]; rfl
def noCol (c : UInt8) : Bool := decide (c ≠ 58)
theorem noCol_iff (c : UInt8) : noCol c = false ↔ c = 58 := by unfold noCol; simp
/-- the variable of the library's that its search looks at -/
def MaxV (w : World) : Prop := ∃ m, w.cell? ⟨0, 0, none⟩ = some (.int .i64 m)
theorem maxV_of {w : World} (h : w.ShapedOpen Tryd.prog) : MaxV w := cell_of_shapedOpen_int (g := 0) (t := 3) (zero := #[.int .i64 0]) h (of_decide_eq_true (by kernel_rfl)) (by kernel_rfl) rfl (by kernel_rfl) (by kernel_rfl) Tryd.underlying3
theorem cell_lt {w : World} {g : Nat} {v : Value} (h : w.cell? ⟨g, 0, none⟩ = some v) : g < w.heap.size := by
  rcases Nat.lt_or_ge g w.heap.size with h1 | h1
  · exact h1
  · unfold World.cell? at h
    rw [Array.getElem?_eq_none h1] at h
    simp at h
theorem maxV_below {w w' : World} (h : MaxV w) (hb : Below w.heap.size w w') : MaxV w' := by
  obtain ⟨m, hm⟩ := h
  exact ⟨m, by rw [hb.cell (p := ⟨0, 0, none⟩) (cell_lt hm)]; exact hm⟩
def nameOf (l : List UInt8) : List UInt8 := l.takeWhile noCol
def restOf (l : List UInt8) : List UInt8 := (l.dropWhile noCol).drop 1
def blankFirst (l : List UInt8) : Bool := match l with
  | c :: _ => blankI (c.toNat : Int)
  | [] => false
/-- the field that a line is, and the error -/
def lineOf (l : List UInt8) : (List UInt8 × List UInt8) × Int :=
  if blankFirst l = true then (([], []), 41)
  else if l.all noCol = true then (([], []), 40)
  else if goodF (nameOf l, trimT (restOf l)) = true then ((nameOf l, trimT (restOf l)), 0) else (([], []), 40)
theorem cutColon (s : ByteArray) (hs : s.size < 4294967281) (w : World) (M : MaxV w) :
    Calls Tryd.prog 31 #[.string s, .string ⟨#[58]⟩] w fun e w' => e = .returned (.tuple #[.string ⟨(nameOf s.data.toList).toArray⟩, .string ⟨(restOf s.data.toList).toArray⟩, .bool (! s.data.toList.all noCol)]) ∧ Below w.heap.size w w' := by
  obtain ⟨m, hm⟩ := M
  refine (Any.strings_Cut Tryd.lays145 s ⟨#[58]⟩ m w hs hm).mono ?_
  rintro e w' ⟨rfl, n, rfl⟩
  refine ⟨?_, below_drewN w n⟩
  rw [show (⟨#[58]⟩ : ByteArray).data.toList = [58] from rfl, cut_one noCol 58 noCol_iff]
  rfl
theorem name_len (l : List UInt8) : (nameOf l).length ≤ l.length := (List.takeWhile_sublist _).length_le
theorem rest_len (l : List UInt8) : (restOf l).length ≤ l.length := by
  unfold restOf; rw [List.length_drop]
  have := (List.dropWhile_sublist (p := noCol) (l := l)).length_le
  omega
theorem line_len (l : List UInt8) : (lineOf l).1.1.length ≤ l.length ∧ (lineOf l).1.2.length ≤ l.length := by
  unfold lineOf
  have h1 := name_len l
  have h2 := rest_len l
  have h3 := trimT_len (restOf l)
  split
  · simp
  · split
    · simp
    · split
      · exact ⟨h1, by show (trimT (restOf l)).length ≤ _; omega⟩
      · simp
/-- what strings.IndexAny at the two blanks says of a text -/
def IdxC (s : ByteArray) (W : World) : Prop := Calls Tryd.prog 54 #[.string s, .string ⟨#[32, 9]⟩] W fun e w' => ∃ r : Int, e = .returned (.int .i64 r) ∧ Hid ((r == 0) = blankFirst s.data.toList) ∧ Below W.heap.size W w'
theorem size_l8 (l : List UInt8) (n : Nat) (h : l.length ≤ n) : (⟨l.toArray⟩ : ByteArray).size ≤ n := by rw [size_l]; exact h
def lineV (l : List UInt8) : Value := .tuple #[.agg #[.string ⟨(lineOf l).1.1.toArray⟩, .string ⟨(lineOf l).1.2.toArray⟩], .int .i64 (lineOf l).2]
set_option maxRecDepth 20000 in
set_option maxHeartbeats 2000000 in
theorem parseLineTok (s : ByteArray) (hs : s.size < 4294967281) (w : World) (M : MaxV w) (cI : ∀ W, Below w.heap.size w W → IdxC s W) :
    Calls Tryd.prog 37 #[.string s] w fun e w' => e = .returned (lineV s.data.toList) ∧ Below w.heap.size w w' := by
  have I1 := hide' (cI _ (two_start w).2.2.2.2.2)
  have MV := hide' M
  have S0 := hide' (two_start w)
  clear M cI
  cases hb : blankFirst s.data.toList with
  | true =>
    have R : Hid (lineV s.data.toList = .tuple #[.agg #[.string ⟨#[]⟩, .string ⟨#[]⟩], .int .i64 41]) := by
      unfold Hid lineV lineOf; rw [if_pos hb]
    rw [R.out]
    unfold IdxC at I1
    rw [hb] at I1
    clear hb R
    go_enter Tryd.func37, Tryd.ntmps37
    go_wp2_with fail
    refine I1.out.mono ?_
    rintro e w1 ⟨r, rfl, hr, b1⟩
    have hr0 := hr.out
    have T1 := hide' (two_below S0.out b1)
    clear b1 I1 S0 hr
    obtain ⟨⟨x1, c1⟩, ⟨x2, c2⟩, f1, f2, z, bel⟩ := T1.out
    go_wp2_with fail
    obtain ⟨q1, q2, q3⟩ := two_store T1.out (.string ⟨#[]⟩) (.string ⟨#[]⟩)
    exact bodyPost_ret (v := .tuple #[.agg #[.string ⟨#[]⟩, .string ⟨#[]⟩], .int .i64 41]) (by simp [results, Tryd.results37, go_sem, q1, q2]) rfl ⟨rfl, q3⟩
  | false =>
    have z1 := name_len s.data.toList
    have z2 := rest_len s.data.toList
    have z3 := trimT_len (restOf s.data.toList)
    have zl : s.data.toList.length = s.size := by simp
    have cC := hide' (fun W MW => cutColon s hs W MW)
    have cT := hide' (fun W => trimTok ⟨(restOf s.data.toList).toArray⟩ W (size_l8 _ _ (by omega)))
    have cG := fun W => goodTok ⟨(nameOf s.data.toList).toArray⟩ ⟨(trimT (restOf s.data.toList)).toArray⟩ W (size_l8 _ _ (by omega)) (size_l8 _ _ (by omega))
    simp only at cT cG
    unfold IdxC at I1
    rw [hb] at I1
    cases ha : s.data.toList.all noCol with
    | true =>
      have R : Hid (lineV s.data.toList = .tuple #[.agg #[.string ⟨#[]⟩, .string ⟨#[]⟩], .int .i64 40]) := by
        unfold Hid lineV lineOf; rw [if_neg (by rw [hb]; simp), if_pos ha]
      rw [R.out]
      rw [ha] at cC
      clear hb R ha cG z1 z2 z3 zl
      generalize nameOf s.data.toList = nm at cC
      generalize trimT (restOf s.data.toList) = tv at cT
      generalize restOf s.data.toList = rv at cC cT
      go_enter Tryd.func37, Tryd.ntmps37
      go_wp2_with fail
      refine I1.out.mono ?_
      rintro e w1 ⟨r, rfl, hr, b1⟩
      have hr0 := hr.out
      have T1 := hide' (two_below S0.out b1)
      have M1 := hide' (maxV_below (maxV_below MV.out (S0.out).2.2.2.2.2) b1)
      clear b1 I1 S0 hr MV
      go_wp2_with fail
      refine (cC.out _ M1.out).mono ?_
      rintro e w2 ⟨rfl, b2⟩
      have T2 := hide' (two_below T1.out b2)
      clear b2 T1 M1 cC
      go_wp2_with fail
      refine (cT.out _).mono ?_
      rintro e w3 ⟨rfl, b3⟩
      have T3 := hide' (two_below T2.out b3)
      clear b3 T2 cT
      obtain ⟨⟨x1, c1⟩, ⟨x2, c2⟩, f1, f2, z, bel⟩ := T3.out
      go_wp2_with fail
      obtain ⟨q1, q2, q3⟩ := two_store T3.out (.string ⟨#[]⟩) (.string ⟨#[]⟩)
      have zz : w.heap.size < ((w3.setCell ⟨w.heap.size, 0, none⟩ (.string ⟨#[]⟩)).setCell ⟨w.heap.size, 1, none⟩ (.string ⟨#[]⟩)).heap.size := by simpa [World.setCell] using z
      generalize (w3.setCell ⟨w.heap.size, 0, none⟩ (.string ⟨#[]⟩)).setCell ⟨w.heap.size, 1, none⟩ (.string ⟨#[]⟩) = w5 at q1 q2 q3 zz ⊢
      have qb := below_alloc' w5 (.cells #[.string ⟨nm.toArray⟩, .string ⟨tv.toArray⟩] 53)
      have q1a : (w5.alloc (.cells #[.string ⟨nm.toArray⟩, .string ⟨tv.toArray⟩] 53)).cell? ⟨w.heap.size, 0, none⟩ = some (.string ⟨#[]⟩) := by rw [qb.cell (p := ⟨w.heap.size, 0, none⟩) zz]; exact q1
      have q2a : (w5.alloc (.cells #[.string ⟨nm.toArray⟩, .string ⟨tv.toArray⟩] 53)).cell? ⟨w.heap.size, 1, none⟩ = some (.string ⟨#[]⟩) := by rw [qb.cell (p := ⟨w.heap.size, 1, none⟩) zz]; exact q2
      exact bodyPost_ret (v := .tuple #[.agg #[.string ⟨#[]⟩, .string ⟨#[]⟩], .int .i64 40]) (by simp [results, Tryd.results37, go_sem, q1a, q2a]) rfl ⟨rfl, q3.alloc (by omega) _⟩
    | false =>
      rw [ha] at cC
      cases hg : goodF (nameOf s.data.toList, trimT (restOf s.data.toList)) with
      | false =>
        have R : Hid (lineV s.data.toList = .tuple #[.agg #[.string ⟨#[]⟩, .string ⟨#[]⟩], .int .i64 40]) := by
          unfold Hid lineV lineOf; rw [if_neg (by rw [hb]; simp), if_neg (by rw [ha]; simp), if_neg (by rw [hg]; simp)]
        rw [R.out]
        rw [hg] at cG
        have CG := hide' cG
        clear hb R ha hg cG z1 z2 z3 zl
        generalize nameOf s.data.toList = nm at cC CG
        generalize trimT (restOf s.data.toList) = tv at cT CG
        generalize restOf s.data.toList = rv at cC cT
        go_enter Tryd.func37, Tryd.ntmps37
        go_wp2_with fail
        refine I1.out.mono ?_
        rintro e w1 ⟨r, rfl, hr, b1⟩
        have hr0 := hr.out
        have T1 := hide' (two_below S0.out b1)
        have M1 := hide' (maxV_below (maxV_below MV.out (S0.out).2.2.2.2.2) b1)
        clear b1 I1 S0 hr MV
        go_wp2_with fail
        refine (cC.out _ M1.out).mono ?_
        rintro e w2 ⟨rfl, b2⟩
        have T2 := hide' (two_below T1.out b2)
        clear b2 T1 M1 cC
        go_wp2_with fail
        refine (cT.out _).mono ?_
        rintro e w3 ⟨rfl, b3⟩
        have T3 := hide' (two_below T2.out b3)
        clear b3 T2 cT
        go_wp2_with fail
        refine (CG.out _).mono ?_
        rintro e w4 ⟨rfl, b4⟩
        have T4 := hide' (two_below (two_below T3.out (below_alloc' w3 (.cells #[.string ⟨nm.toArray⟩, .string ⟨tv.toArray⟩] 53))) b4)
        clear b4
        obtain ⟨⟨x1, c1⟩, ⟨x2, c2⟩, f1, f2, z, bel⟩ := T4.out
        go_wp2_with fail
        obtain ⟨q1, q2, q3⟩ := two_store T4.out (.string ⟨#[]⟩) (.string ⟨#[]⟩)
        exact bodyPost_ret (v := .tuple #[.agg #[.string ⟨#[]⟩, .string ⟨#[]⟩], .int .i64 40]) (by simp [results, Tryd.results37, go_sem, q1, q2]) rfl ⟨rfl, q3⟩
      | true =>
        have R : Hid (lineV s.data.toList = .tuple #[.agg #[.string ⟨(nameOf s.data.toList).toArray⟩, .string ⟨(trimT (restOf s.data.toList)).toArray⟩], .int .i64 0]) := by
          unfold Hid lineV lineOf; rw [if_neg (by rw [hb]; simp), if_neg (by rw [ha]; simp), if_pos hg]
        rw [R.out]
        rw [hg] at cG
        have CG := hide' cG
        clear hb R ha hg cG z1 z2 z3 zl
        generalize nameOf s.data.toList = nm at cC CG
        generalize trimT (restOf s.data.toList) = tv at cT CG
        generalize restOf s.data.toList = rv at cC cT
        go_enter Tryd.func37, Tryd.ntmps37
        go_wp2_with fail
        refine I1.out.mono ?_
        rintro e w1 ⟨r, rfl, hr, b1⟩
        have hr0 := hr.out
        have T1 := hide' (two_below S0.out b1)
        have M1 := hide' (maxV_below (maxV_below MV.out (S0.out).2.2.2.2.2) b1)
        clear b1 I1 S0 hr MV
        go_wp2_with fail
        refine (cC.out _ M1.out).mono ?_
        rintro e w2 ⟨rfl, b2⟩
        have T2 := hide' (two_below T1.out b2)
        clear b2 T1 M1 cC
        go_wp2_with fail
        refine (cT.out _).mono ?_
        rintro e w3 ⟨rfl, b3⟩
        have T3 := hide' (two_below T2.out b3)
        clear b3 T2 cT
        go_wp2_with fail
        refine (CG.out _).mono ?_
        rintro e w4 ⟨rfl, b4⟩
        have T4 := hide' (two_below (two_below T3.out (below_alloc' w3 (.cells #[.string ⟨nm.toArray⟩, .string ⟨tv.toArray⟩] 53))) b4)
        have d1 : w4.cell? ⟨w3.heap.size, 0, none⟩ = some (.string ⟨nm.toArray⟩) := by rw [b4.cell (p := ⟨w3.heap.size, 0, none⟩) (by simp)]; simp
        have d2 : w4.cell? ⟨w3.heap.size, 1, none⟩ = some (.string ⟨tv.toArray⟩) := by rw [b4.cell (p := ⟨w3.heap.size, 1, none⟩) (by simp)]; simp
        clear b4
        obtain ⟨⟨x1, c1⟩, ⟨x2, c2⟩, f1, f2, z, bel⟩ := T4.out
        go_wp2_with fail
        obtain ⟨q1, q2, q3⟩ := two_store T4.out (.string ⟨nm.toArray⟩) (.string ⟨tv.toArray⟩)
        exact bodyPost_ret (v := .tuple #[.agg #[.string ⟨nm.toArray⟩, .string ⟨tv.toArray⟩], .int .i64 0]) (by simp [results, Tryd.results37, go_sem, q1, q2]) rfl ⟨rfl, q3⟩
end Go.Proofs.YtbbaajlabpjnlaaDoor
