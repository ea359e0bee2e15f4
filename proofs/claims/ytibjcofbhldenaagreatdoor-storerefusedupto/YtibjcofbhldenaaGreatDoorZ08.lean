/- The contracts of isVersion and leadingEnds. The contract of bytes.ContainsAny at a line's two last bytes. The contract of strings.IndexAny at the two blanks: whether a text begins with one. The contracts of CopyBytes and SameBytes; Parse of any bytes; the laws' own check of one call. What is told of some bytes is told of them with more behind, and of the head's own bytes; ahead of its last byte there is no head yet. -/
import Derived.Deep.WholeRow
import Derived.Lib.Builder
import Derived.Shelf.Strings.IndexAnyAll
import Derived.Deep.LoopGhost
import Derived.Shelf.Small.Utf8
import Derived.Test.YtibjcofbhldenaaGreatDoorZ07
import Derived.Test.YtibjcofbhldenaaGreatDoorZ01
import Derived.Test.YtibjcofbhldenaaGreatDoorZ03
import Derived.Test.YtibjcofbhldenaaGreatDoorZ06
namespace Go.Proofs.YtibjcofbhldenaaGreatDoor
open Go.RowKit
theorem three_of (l : List UInt8) (h : l.length = 3) : ∃ a b c, l = [a, b, c] := by
  match l, h with
  | [a, b, c], _ => exact ⟨a, b, c, rfl⟩
theorem pre5 (l : List UInt8) (h : P5.isPrefixOf l = true) : l = P5 ++ l.drop 5 := by
  rw [List.isPrefixOf_iff_prefix] at h
  obtain ⟨t, rfl⟩ := h
  rfl
theorem isVer_three (l : List UInt8) (h : P5.isPrefixOf l = true) (a b c : UInt8) (e : l.drop 5 = [a, b, c]) : isVer l = (digI (a.toNat : Int) && (decide ((b.toNat : Int) = 46) && digI (c.toNat : Int))) := by
  have hl := pre5 l h
  rw [e] at hl
  subst hl
  have hb : decide (b = 46) = decide ((b.toNat : Int) = 46) := by
    by_cases h : b = 46
    · subst h; rfl
    · rw [decide_eq_false h, decide_eq_false]
      intro h2
      exact h (UInt8.toNat_inj.1 (by show b.toNat = 46; omega))
  show (true && (true && (dig a && (decide (b = 46) && dig c)))) = _
  rw [hb]; rfl
theorem isVer_long (l : List UInt8) (h : P5.isPrefixOf l = true) (e : ¬ (l.drop 5).length = 3) : isVer l = false := by
  have hl := congrArg List.length (pre5 l h)
  rw [List.length_append, show P5.length = 5 from rfl] at hl
  unfold isVer
  rw [decide_eq_false (by omega : ¬ l.length = 8)]
  simp
theorem isVer_not (l : List UInt8) (h : P5.isPrefixOf l = false) : isVer l = false := by unfold isVer; rw [h]; rfl
set_option maxRecDepth 20000 in
set_option maxHeartbeats 1000000 in
theorem isVersionTok (s : ByteArray) (w : World) :
    Calls Tryz.prog 241 #[.string s] w fun e w' => e = .returned (.bool (isVer s.data.toList)) ∧ w' = w := by
  have c := Any.strings_CutPrefix Tryz.lays103 s ⟨#[72, 84, 84, 80, 47]⟩ w
  rw [show (⟨#[72, 84, 84, 80, 47]⟩ : ByteArray).data.toList = P5 from rfl] at c
  unfold Lib.trimPrefix Lib.hasPrefix at c
  cases hp : P5.isPrefixOf s.data.toList with
  | false =>
    have R := hide' (isVer_not _ hp)
    rw [R.out]
    rw [hp, if_neg (by simp)] at c
    have C := hide' c
    clear c hp R
    go_enter Tryz.func241, Tryz.ntmps241
    go_wp2_with fail
    refine C.out.mono ?_
    rintro e w1 ⟨rfl, rfl⟩
    go_wp2_with fail
    go_ret
    exact ⟨rfl, rfl⟩
  | true =>
    rw [hp, if_pos rfl, show P5.length = 5 from rfl] at c
    have hdl : (s.data.toList.drop 5).length ≤ s.size := by rw [List.length_drop]; simp
    by_cases h3 : (s.data.toList.drop 5).length = 3
    · obtain ⟨x, y, z, e⟩ := three_of _ h3
      have R := hide' (isVer_three _ hp x y z e)
      rw [R.out]
      rw [e] at c
      have C := hide' c
      clear c hp R h3 e hdl
      have b0 := byte_lt x
      have b1 := byte_lt y
      have b2 := byte_lt z
      cases d0 : digI (x.toNat : Int) with
      | false =>
        have d0' : digI (((⟨#[x, y, z]⟩ : ByteArray)[0]'(by show 0 < 3; decide)).toNat : Int) = false := d0
        go_enter Tryz.func241, Tryz.ntmps241
        go_wp2_with fail
        refine C.out.mono ?_
        rintro e w1 ⟨rfl, rfl⟩
        go_wp2_with (go_at_call 242; refine (digTok _ (byte_lt _).1 (byte_lt _).2 _).mono ?_; rintro e w' ⟨rfl, rfl⟩)
        go_ret
        exact ⟨rfl, rfl⟩
      | true =>
        by_cases hy : (y.toNat : Int) = 46
        · rw [decide_eq_true hy, Bool.true_and, Bool.true_and]
          have hy2 : y = 46 := UInt8.toNat_inj.1 (by show y.toNat = 46; omega)
          subst hy2
          clear hy
          have d0' : digI (((⟨#[x, 46, z]⟩ : ByteArray)[0]'(by show 0 < 3; decide)).toNat : Int) = true := d0
          cases d2 : digI (z.toNat : Int) with
          | true =>
            have d2' : digI (((⟨#[x, 46, z]⟩ : ByteArray)[2]'(by show 2 < 3; decide)).toNat : Int) = true := d2
            go_enter Tryz.func241, Tryz.ntmps241
            go_wp2_with fail
            refine C.out.mono ?_
            rintro e w1 ⟨rfl, rfl⟩
            go_wp2_with (go_at_call 242; refine (digTok _ (byte_lt _).1 (byte_lt _).2 _).mono ?_; rintro e w' ⟨rfl, rfl⟩)
            go_ret
            exact ⟨rfl, rfl⟩
          | false =>
            have d2' : digI (((⟨#[x, 46, z]⟩ : ByteArray)[2]'(by show 2 < 3; decide)).toNat : Int) = false := d2
            go_enter Tryz.func241, Tryz.ntmps241
            go_wp2_with fail
            refine C.out.mono ?_
            rintro e w1 ⟨rfl, rfl⟩
            go_wp2_with (go_at_call 242; refine (digTok _ (byte_lt _).1 (byte_lt _).2 _).mono ?_; rintro e w' ⟨rfl, rfl⟩)
            go_ret
            exact ⟨rfl, rfl⟩
        · rw [decide_eq_false hy, Bool.false_and, Bool.and_false]
          have hy2 : ((y.toNat : Int) == 46) = false := by simpa using hy
          have hy3 : (y.toNat == 46) = false := by simp; omega
          have d0' : digI (((⟨#[x, y, z]⟩ : ByteArray)[0]'(by show 0 < 3; decide)).toNat : Int) = true := d0
          have y1 : (((((⟨#[x, y, z]⟩ : ByteArray)[1]'(by show 1 < 3; decide)).toNat : Int)) == 46) = false := hy2
          have y2 : ((((⟨#[x, y, z]⟩ : ByteArray)[1]'(by show 1 < 3; decide)).toNat) == 46) = false := hy3
          clear hy
          go_enter Tryz.func241, Tryz.ntmps241
          go_wp2_with fail
          refine C.out.mono ?_
          rintro e w1 ⟨rfl, rfl⟩
          go_wp2_with (go_at_call 242; refine (digTok _ (byte_lt _).1 (byte_lt _).2 _).mono ?_; rintro e w' ⟨rfl, rfl⟩)
          go_ret
          exact ⟨rfl, rfl⟩
    · have R := hide' (isVer_long _ hp h3)
      rw [R.out]
      generalize s.data.toList.drop 5 = t at c h3 hdl
      have hz : ((((⟨t.toArray⟩ : ByteArray).size : Nat) : Int) == 3) = false := by rw [size_l]; simp; omega
      have hz2 : (((t.length : Nat) : Int) == 3) = false := by simp; omega
      have C := hide' c
      clear c hp R h3
      go_enter Tryz.func241, Tryz.ntmps241
      go_wp2_with fail
      refine C.out.mono ?_
      rintro e w1 ⟨rfl, rfl⟩
      go_wp2_with fail
      go_ret
      exact ⟨rfl, rfl⟩
theorem from_run (ao : Option Addr) (n cap i : Nat) (hi : i ≤ n) (_hc : n ≤ cap) (w : World) : Sem.run Tryz.prog (Instr.slice 57 (.slice ao n cap) (some (.int .i64 i)) none none) w = .ok (Lib.fromV ao n cap i) w := by
  have he : Tryz.prog.elem 57 = 5 := by kernel_rfl
  have h := run_slice_l (P := Tryz.prog) w 57 ao n cap (by rw [he]; exact Tryz.underlying57) .i64 i (by omega) (by omega)
  rw [he, Tryz.sizeOf5] at h
  simp only [Result.andThen, Int.toNat_natCast, sliced] at h
  rw [h]
  unfold Lib.fromV
  by_cases hz : cap = i
  · simp [hz]
  · simp [hz]
end Go.Proofs.YtibjcofbhldenaaGreatDoor
namespace Go.Proofs.YtibjcofbhldenaaGreatDoor
open Go.RowKit
/-- what bytes.IndexAny at a line's two last bytes says -/
def IdxB (line : List UInt8) (ao : Option Addr) (cap : Nat) (W : World) : Prop := Calls Tryz.prog 263 #[.slice ao line.length cap, .string ⟨#[13, 10]⟩] W fun e w' => ∃ r : Int, e = .returned (.int .i64 r) ∧ Hid (decide (0 ≤ r) = line.any isEnd) ∧ Below W.heap.size W w'
set_option maxRecDepth 20000 in
set_option maxHeartbeats 1000000 in
theorem idxB0 (ao : Option Addr) (cap : Nat) (W : World) : IdxB [] ao cap W := by
  unfold IdxB
  simp only [List.length_nil]
  go_enter Tryz.func263, Tryz.ntmps263
  go_wp2_with (go_at_call 278; refine (shouldB _ _).mono ?_; rintro e w' ⟨rfl, hw⟩; rw [hw]; clear hw)
  go_rounds 1
  go_ret
  exact ⟨_, rfl, rfl, Below.refl _ _⟩
set_option maxRecDepth 20000 in
set_option maxHeartbeats 1000000 in
theorem idxB1 (c : UInt8) (ao : Option Addr) (cap : Nat) (W : World) (h : HoldsB W (.slice ao 1 cap) [c]) : IdxB [c] ao cap W := by
  unfold IdxB
  simp only [List.length_cons, List.length_nil, Nat.zero_add]
  obtain ⟨ao', cap', e, h0, hcp, hc⟩ := h
  simp only [List.length_cons, List.length_nil, Nat.zero_add, Value.slice.injEq] at e
  obtain ⟨rfl, _, rfl⟩ := e
  obtain ⟨b, off, rfl, hblt, hcell⟩ := hc (by simp)
  have ck : W.cell? ⟨b, off, none⟩ = some (.int .u8 (c.toNat : Int)) := hcell 0 (by simp)
  have hbt := byte_lt c
  clear hc hcell h0
  by_cases ha : c.toNat < 128
  · obtain ⟨r, hr, hr1, hr2⟩ := ibs c W
    have hai : ((128 : Int) ≤ (c.toNat : Int)) = False := by simp; omega
    have hai2 : decide ((128 : Int) ≤ (c.toNat : Int)) = false := by simp; omega
    cases he : isEnd c with
    | true =>
      have hr0 := hr1 he
      have A2 : Hid (([c] : List UInt8).any isEnd = true) := by unfold Hid; simp [he]
      clear hr1 hr2 he ha
      go_enter Tryz.func263, Tryz.ntmps263
      go_wp2_with fail
      go_ret
      exact ⟨_, rfl, by unfold Hid; rw [A2.out]; rfl, Below.refl _ _⟩
    | false =>
      have hr0 := hr2 he
      have A2 : Hid (([c] : List UInt8).any isEnd = false) := by unfold Hid; simp [he]
      clear hr1 hr2 he ha
      go_enter Tryz.func263, Tryz.ntmps263
      go_wp2_with fail
      go_ret
      exact ⟨_, rfl, by unfold Hid; rw [A2.out]; rfl, Below.refl _ _⟩
  · have A2 : Hid (([c] : List UInt8).any isEnd = false) := by unfold Hid; simp [end_big (c := c) (by omega)]
    have hai : (128 : Int) ≤ (c.toNat : Int) := by omega
    have hn0 := next0 W
    have hn1 := next1 W
    have hn2 := next2 W
    clear ha
    go_enter Tryz.func263, Tryz.ntmps263
    go_wp2_with fail
    go_rounds 3
    go_ret
    exact ⟨_, rfl, by unfold Hid; rw [A2.out]; rfl, iter_below W _ _⟩
theorem set_ascii : ∀ (j : Nat) b, (⟨#[13, 10]⟩ : ByteArray).data.toList[j]? = some b → b.toNat < 128 := by
  intro j b h
  match j, h with
  | 0, h => simp at h; subst h; decide
  | 1, h => simp at h; subst h; decide
theorem set_is (c : UInt8) : ([13, 10] : List UInt8).contains c = isEnd c := by
  unfold isEnd
  rw [Bool.eq_iff_iff]
  simp
theorem set_info : (Tryz.prog.info? 303).map (fun i => (i.zero, i.size)) = some (some (.agg (Array.replicate 256 (.bool false))), 256) := by kernel_rfl
theorem makeSet (w : World) : Calls Tryz.prog 279 #[.string ⟨#[13, 10]⟩] w fun e w' => e = .returned (.tuple #[.agg (Lib.setCells [13, 10]), .bool true]) ∧ w' = w.alloc (.cells (Lib.setCells [13, 10]) 303) :=
  Any.bytes_makeASCIISet Tryz.laysV11 (zero_of_info set_info).1 (zero_of_info set_info).2 ⟨#[13, 10]⟩ w (by show 2 < 4294967281; omega) set_ascii
theorem setHas (b : Nat) (x : UInt8) (v : Bool) (w : World) (hc : w.cell? ⟨b, x.toNat, none⟩ = some (.bool v)) : Calls Tryz.prog 280 #[.pointer (some ⟨b, 0, none⟩), .int .u8 x.toNat] w fun e w' => e = .returned (.bool v) ∧ w' = w :=
  Any.bytes_asciiSet_contains Tryz.laysV16 b x v w hc
set_option maxRecDepth 1000000 in
set_option maxHeartbeats 2000000 in
theorem idxB9 (line : List UInt8) (ao : Option Addr) (cap : Nat) (W : World) (h : HoldsB W (.slice ao line.length cap) line) (h8 : 8 < line.length) (hs : line.length < 4294967281) : IdxB line ao cap W := by
  unfold IdxB
  obtain ⟨ao', cap', e, h0, hcp, hc⟩ := h
  simp only [Value.slice.injEq] at e
  obtain ⟨rfl, _, rfl⟩ := e
  obtain ⟨b, off, rfl, hblt, hcell⟩ := hc (fun e => by rw [e] at h8; simp at h8)
  have C := hide' hcell
  clear hc hcell h0
  obtain ⟨n, en⟩ : ∃ n, n = line.length := ⟨_, rfl⟩
  have N : Hid (line.length = n) := en.symm
  rw [N.out] at h8 hs hcp ⊢
  clear en
  have h8' : decide ((8 : Int) < (n : Int)) = true := decide_eq_true (by omega)
  have n1 : ((n : Int) == 1) = false := by simp; omega
  have hM := makeSet W
  have hsc : (storeCells ⟨W.heap.size + 1, 0, none⟩ (Lib.setCells [13, 10]).toList 0).run Tryz.prog ((W.alloc (.cells (Lib.setCells [13, 10]) 303)).alloc (.cells (Array.replicate 256 (.bool false)) 303)) = .ok () ((W.alloc (.cells (Lib.setCells [13, 10]) 303)).alloc (.cells (Lib.setCells [13, 10]) 303)) := by
    have := run_storeCells_new (P := Tryz.prog) (W.alloc (.cells (Lib.setCells [13, 10]) 303)) 303 (Array.replicate 256 (.bool false)) (Lib.setCells [13, 10]) (by rw [Lib.setCells_size]; exact (zero_of_info set_info).2) (by rw [Lib.setCells_size, Array.size_replicate]) (Lib.setCells_one _)
    simpa using this
  have hsz := Lib.setCells_size [13, 10]
  have hcellAt : ∀ x : UInt8, ((W.alloc (.cells (Lib.setCells [13, 10]) 303)).alloc (.cells (Lib.setCells [13, 10]) 303)).cell? ⟨W.heap.size + 1, x.toNat, none⟩ = some (.bool (isEnd x)) := fun x => by
    rw [World.cell?_alloc_at _ _ _ _ (by simp), Lib.setCells_at, set_is]
  have HC := hide' hcellAt
  have BW : Hid (Below W.heap.size W ((W.alloc (.cells (Lib.setCells [13, 10]) 303)).alloc (.cells (Lib.setCells [13, 10]) 303))) := ((Below.refl _ _).alloc (Nat.le_refl _) _).alloc (by simp) _
  clear hcellAt
  have v85 := (zero_of_info set_info).1
  go_enter Tryz.func263, Tryz.ntmps263
  go_wp2_with (first
    | (go_at_call 278; refine (shouldB _ _).mono ?_; rintro e w' ⟨rfl, hw⟩; rw [hw]; clear hw)
    | (go_at_call 279; refine hM.mono ?_; rintro e w' ⟨rfl, hw⟩; rw [hw]; clear hw))
  clear hM hsc h8' n1
  generalize (W.alloc (.cells (Lib.setCells [13, 10]) 303)).alloc (.cells (Lib.setCells [13, 10]) 303) = w1 at HC BW ⊢
  clear hsz v85
  go_loop [62] (fun iv => ∃ i : Nat, i ≤ n ∧ iv = .int .i64 i ∧ Hid ((line.take i).any isEnd = false)) (fun iv => n - (intOf iv).toNat)
  case atStart => exact ⟨0, Nat.zero_le _, rfl, by unfold Hid; simp⟩
  case round =>
    obtain ⟨i, hi, rfl, HA⟩ := hrel
    by_cases hlt : i < n
    · have G : Hid (i < line.length) := by unfold Hid; rw [N.out]; exact hlt
      have ck : w1.cell? ⟨b, off + i, none⟩ = some (.int .u8 ((line[i]'G.out).toNat : Int)) := by
        rw [BW.out.cell (p := ⟨b, off + i, none⟩) hblt]; exact C.out i G.out
      have hbt := byte_lt (line[i]'G.out)
      have cH := setHas (W.heap.size + 1) (line[i]'G.out) _ w1 (HC.out _)
      cases he : isEnd (line[i]'G.out) with
      | true =>
        have A2 := hide' (any_hit line i G.out he)
        rw [he] at cH
        have CH := hide' cH
        clear he cH
        generalize (line[i]'G.out).toNat = cn at ck CH hbt
        go_wp2_with (go_at_call 280; refine CH.out.mono ?_; rintro e w' ⟨rfl, hw⟩; rw [hw]; clear hw)
        go_ret
        exact ⟨_, rfl, by unfold Hid; rw [A2.out]; simp, BW.out⟩
      | false =>
        have A2 := hide' (any_next line i G.out HA.out he)
        rw [he] at cH
        have CH := hide' cH
        clear he cH
        generalize (line[i]'G.out).toNat = cn at ck CH hbt
        go_wp2_with (go_at_call 280; refine CH.out.mono ?_; rintro e w' ⟨rfl, hw⟩; rw [hw]; clear hw)
        go_round
        case rel => exact ⟨i + 1, by omega, by go_num, A2⟩
        case measure => simp [intOf]; omega
    · have E : Hid (line.take i = line) := List.take_of_length_le (by rw [N.out]; omega)
      rw [E.out] at HA
      go_wp2_with fail
      go_ret
      exact ⟨_, rfl, by unfold Hid; rw [HA.out]; simp, BW.out⟩
theorem idxB (line : List UInt8) (ao : Option Addr) (cap : Nat) (W : World) (h : HoldsB W (.slice ao line.length cap) line) (M : MaxV W) (T : TabsV W) (hs : line.length < 4294967281) : IdxB line ao cap W := by
  by_cases h8 : 8 < line.length
  · exact idxB9 line ao cap W h h8 hs
  · by_cases h2 : 2 ≤ line.length
    · exact idxB8 line ao cap W h M T h2 (by omega)
    · cases line with
      | nil => exact idxB0 ao cap W
      | cons c r =>
        cases r with
        | nil => exact idxB1 c ao cap W h
        | cons d r => exact absurd (by simp) h2
set_option maxRecDepth 20000 in
set_option maxHeartbeats 1000000 in
theorem containsAny (line : List UInt8) (ao : Option Addr) (cap : Nat) (W : World) (h : HoldsB W (.slice ao line.length cap) line) (M : MaxV W) (T : TabsV W) (hs : line.length < 4294967281) : CaC line ao cap W := by
  have c := hide' (idxB line ao cap W h M T hs)
  unfold IdxB at c
  unfold CaC
  clear h M T
  generalize line.any isEnd = b at c ⊢
  go_enter Tryz.func245, Tryz.ntmps245
  go_wp2_with fail
  refine c.out.mono ?_
  rintro e w1 ⟨r, rfl, hr, b1⟩
  have B1 := hide' b1
  clear b1 c
  go_wp2_with fail
  go_ret
  rw [← hr.out]
  exact ⟨rfl, B1.out⟩
end Go.Proofs.YtibjcofbhldenaaGreatDoor
namespace Go.Proofs.YtibjcofbhldenaaGreatDoor
open Go.RowKit
def setIter (w : World) (g : Nat) (s : ByteArray) (pos : Nat) : World := { w with heap := w.heap.setIfInBounds g (.stringIter s pos) }
theorem run_next_at (w : World) (g : Nat) (s : ByteArray) (pos : Nat) (ty : TypeId) (hg : w.heap[g]? = some (.stringIter s pos)) (h : pos < s.size) :
    (Instr.next (.pointer (some ⟨g, 0, none⟩)) true ty).run Tryz.prog w = .ok (.tuple #[.bool true, .int .i64 pos, .int .i32 (Utf8.decode s pos).1]) (setIter w g s (pos + (Utf8.decode s pos).2)) := by
  simp [Instr.next, getObj, setObj, Sem.run, hg, Result.andThen, h, goInt, setIter]
theorem run_next_over (w : World) (g : Nat) (s : ByteArray) (pos : Nat) (ty : TypeId) (hg : w.heap[g]? = some (.stringIter s pos)) (h : ¬ pos < s.size) :
    (Instr.next (.pointer (some ⟨g, 0, none⟩)) true ty).run Tryz.prog w = .ok (.tuple #[.bool false]) w := by
  simp [Instr.next, getObj, Sem.run, hg, h]
theorem iter_at {w : World} {g : Nat} {s : ByteArray} {pos : Nat} (hg : w.heap[g]? = some (.stringIter s pos)) (p : Nat) : (setIter w g s p).heap[g]? = some (.stringIter s p) := by
  have : g < w.heap.size := (Array.getElem?_eq_some_iff.1 hg).1
  simp [setIter, this]
theorem iter_keeps {W w : World} {g : Nat} {s : ByteArray} {p : Nat} (hb : Below W.heap.size W w) (hg : W.heap.size ≤ g) : Below W.heap.size W (setIter w g s p) :=
  hb.trans ⟨rfl, rfl, rfl, by simp [setIter], fun k hk => by
    simp only [setIter]
    rw [Array.getElem?_setIfInBounds_ne (by omega)]⟩
theorem iter_stays {w w' : World} {g : Nat} {s : ByteArray} {pos : Nat} (hg : w.heap[g]? = some (.stringIter s pos)) (hb : Below w.heap.size w w') : w'.heap[g]? = some (.stringIter s pos) := by
  have : g < w.heap.size := (Array.getElem?_eq_some_iff.1 hg).1
  rw [hb.block g this]; exact hg
theorem dec_at (s : ByteArray) (i : Nat) (hi : i < s.size) (h128 : 128 ≤ (s[i]).toNat) : ∃ R K : Nat, Utf8.decode s i = (R, K) ∧ 1 ≤ K ∧ i + K ≤ s.size ∧ 128 ≤ R ∧ R ≤ 1114111 ∧ (R = 65533 ∨ Utf8.valid R = true) := by
  have hl : (s.data.toList.drop i).length = s.size - i := by simp
  have hg : ∀ j, (⟨(s.data.toList.drop i).toArray⟩ : ByteArray).get! j = s.get! (i + j) := by
    intro j
    show ((s.data.toList.drop i).toArray)[j]! = s.data[i + j]!
    by_cases h : i + j < s.size
    · rw [getElem!_pos _ j (by simp; omega), getElem!_pos s.data (i + j) h]
      simp
    · rw [getElem!_neg _ j (by simp; omega), getElem!_neg s.data (i + j) h]
  have h0 : 0 < (s.data.toList.drop i).length := by omega
  have e0 : (s.data.toList.drop i)[0]'h0 = s[i] := by simp; rfl
  obtain ⟨R, K, hd, k1, k2, _, r1, r2, _, hk⟩ := dec_spec (s.data.toList.drop i) h0 (by rw [e0]; exact h128)
  have he : Utf8.decode s i = Lib.decodeGo ⟨(s.data.toList.drop i).toArray⟩ := by
    unfold Lib.decodeGo
    have hz := size_l (s.data.toList.drop i)
    rw [hl] at hz
    rw [if_neg (by omega), Lib.decode_at, Lib.decode_at, hg 0, hg (0 + 1), hg (0 + 2), hg (0 + 3), hz]
    simp
  exact ⟨R, K, he.trans hd, k1, by omega, r1, r2, hk.imp id (fun h => h.1)⟩
theorem nextA (w : World) (ty : TypeId) : (Instr.next (.pointer (some ⟨w.heap.size, 0, none⟩)) true ty).run Tryz.prog (w.iter ⟨#[32, 9]⟩ 0) = .ok (.tuple #[.bool true, .int .i64 0, .int .i32 32]) (w.iter ⟨#[32, 9]⟩ 1) := run_next_ascii w ⟨#[32, 9]⟩ 0 ty (by decide) (by decide)
theorem nextB (w : World) (ty : TypeId) : (Instr.next (.pointer (some ⟨w.heap.size, 0, none⟩)) true ty).run Tryz.prog (w.iter ⟨#[32, 9]⟩ 1) = .ok (.tuple #[.bool true, .int .i64 1, .int .i32 9]) (w.iter ⟨#[32, 9]⟩ 2) := run_next_ascii w ⟨#[32, 9]⟩ 1 ty (by decide) (by decide)
theorem nextC (w : World) (ty : TypeId) : (Instr.next (.pointer (some ⟨w.heap.size, 0, none⟩)) true ty).run Tryz.prog (w.iter ⟨#[32, 9]⟩ 2) = .ok (.tuple #[.bool false]) (w.iter ⟨#[32, 9]⟩ 2) := run_next_end w ⟨#[32, 9]⟩ 2 ty (by decide)
theorem validR (R : Int) (w : World) (h1 : 128 ≤ R) (hv : Utf8.valid R = true) :
    Calls Tryz.prog 291 #[.int .i32 R] w fun e w' => e = .returned (.bool true) ∧ w' = w := by
  refine (Any.utf8_ValidRune { Tryz.lays153 with } R w).mono ?_
  rintro e w' ⟨rfl, hw⟩
  refine ⟨?_, hw⟩
  have : Lib.validRune R = true := by
    unfold Utf8.valid at hv
    unfold Lib.validRune
    simp at hv ⊢
    omega
  rw [this]
theorem form2 (E : ByteArray) (h : E.size = 2) (h3 : ∀ h : E.size - 1 < E.size, 128 ≤ (E[E.size - 1]'h).toNat) : ∃ x y : UInt8, E = ⟨#[x, y]⟩ ∧ 128 ≤ y.toNat := by
  obtain ⟨d⟩ := E
  obtain ⟨l⟩ := d
  match l, h with
  | [x, y], _ => exact ⟨x, y, rfl, h3 (by show 1 < 2; omega)⟩
theorem form3 (E : ByteArray) (h : E.size = 3) : ∃ x y z : UInt8, E = ⟨#[x, y, z]⟩ := by
  obtain ⟨d⟩ := E
  obtain ⟨l⟩ := d
  match l, h with
  | [x, y, z], _ => exact ⟨x, y, z, rfl⟩
theorem form4 (E : ByteArray) (h : E.size = 4) : ∃ x y z u : UInt8, E = ⟨#[x, y, z, u]⟩ := by
  obtain ⟨d⟩ := E
  obtain ⟨l⟩ := d
  match l, h with
  | [x, y, z, u], _ => exact ⟨x, y, z, u, rfl⟩
theorem ibNone (c : Int) (w : World) : Calls Tryz.prog 184 #[.string ⟨#[]⟩, .int .u8 c] w fun e w' => e = .returned (.int .i64 (-1)) ∧ w' = w := by
  refine (Any.strings_IndexByte Tryz.lays137 ⟨#[]⟩ c w).mono ?_
  rintro e w' ⟨rfl, hw⟩
  exact ⟨rfl, hw⟩
theorem wrap2 : IntKind.i64.wrap 2 = 2 := by decide
theorem rest2 (W : World) : Sem.run Tryz.prog (Instr.slice 9 (.string ⟨#[32, 9]⟩) (some (.int .i64 2)) none none) W = .ok (.string ⟨#[]⟩) W := by kernel_rfl
set_option maxRecDepth 20000 in
set_option maxHeartbeats 400000 in
theorem idxRune (R : Int) (w : World) (h1 : 128 ≤ R) (hk : R = 65533 ∨ Utf8.valid R = true) :
    Calls Tryz.prog 283 #[.string ⟨#[32, 9]⟩, .int .i32 R] w fun e w' => e = .returned (.int .i64 (-1)) ∧ Below w.heap.size w w' := by
  by_cases hRe : R = 65533
  · subst hRe
    have hn0 := nextA w
    have hn1 := nextB w
    have hn2 := nextC w
    clear h1 hk
    go_enter Tryz.func283, Tryz.ntmps283
    go_wp2_with fail
    go_rounds 3
    go_ret
    exact ⟨rfl, iter_below w _ _⟩
  · have hv := hk.resolve_left hRe
    have cV := hide' (validR R w h1 hv)
    obtain ⟨f1, f2, f3⟩ := encode_facts R hv h1
    have r1 : (0 : Int) ≤ R := by omega
    have r3 : (R == 65533) = false := by simpa using hRe
    have hE : ∃ E, Utf8.encode R = E := ⟨_, rfl⟩
    obtain ⟨E, hE⟩ := hE
    rw [hE] at f1 f2
    simp only [hE] at f3
    clear hk hv hRe
    rcases (by omega : E.size = 2 ∨ E.size = 3 ∨ E.size = 4) with hs | hs | hs
    · obtain ⟨x, y, rfl, hy⟩ := form2 E hs f3
      have hyb := byte_lt y
      have yn : ((9 : Int) != (y.toNat : Int)) = true := by simp; omega
      have yn2 : ((((⟨#[32, 9]⟩ : ByteArray)[1]'(show 1 < 2 by omega)).toNat : Int) != (((⟨#[x, y]⟩ : ByteArray)[1]'(show 1 < 2 by omega)).toNat : Int)) = true := yn
      clear f1 f2 f3 hs
      go_enter Tryz.func283, Tryz.ntmps283
      go_wp2_with (go_at_call 291; refine cV.out.mono ?_; rintro e w' ⟨rfl, hw⟩; rw [hw]; clear hw)
      go_step3
      go_wp2_with fail
      refine wp_loop_rounds 1 ?_
      rw [rounds_succ]
      go_wp2_with fail
      go_step3
      go_wp2_with fail
      go_quiet (fail)
      go_wp2_with fail
      have hw2 := wrap2
      have hr2 := rest2
      have B9 := hide' (below_drewN w nq)
      generalize w.drewN nq = w9 at B9 ⊢
      go_quiet ((go_at_call 184; refine Calls.quiet_of_same (v := .int .i64 (-1)) ?_; exact ibNone _ _))
      go_wp2_with fail
      dsimp only [Exit.noGoto, Exit.inBlock, Exit.then]
      go_ret
      exact ⟨rfl, below_drawn B9.out _⟩
    · obtain ⟨x, y, z, rfl⟩ := form3 E hs
      clear f1 f2 f3 hs
      go_enter Tryz.func283, Tryz.ntmps283
      go_wp2_with (go_at_call 291; refine cV.out.mono ?_; rintro e w' ⟨rfl, hw⟩; rw [hw]; clear hw)
      go_step3
      go_wp2_with fail
      go_rounds 1
      try rw [Exit.noGoto_ret]
      go_ret
      exact ⟨rfl, Below.refl _ _⟩
    · obtain ⟨x, y, z, u, rfl⟩ := form4 E hs
      clear f1 f2 f3 hs
      go_enter Tryz.func283, Tryz.ntmps283
      go_wp2_with (go_at_call 291; refine cV.out.mono ?_; rintro e w' ⟨rfl, hw⟩; rw [hw]; clear hw)
      go_step3
      go_wp2_with fail
      go_rounds 1
      try rw [Exit.noGoto_ret]
      go_ret
      exact ⟨rfl, Below.refl _ _⟩
theorem idx_first (l : List UInt8) : (Lib.indexAny l [32, 9] == 0) = blankFirst l := by
  cases l with
  | nil => rfl
  | cons c r =>
    have hb := blank_is c
    have e : blankFirst (c :: r) = blankI (c.toNat : Int) := rfl
    rw [e]
    unfold Lib.indexAny
    rw [hb]
    have hge := Lib.indexAny_ge [32, 9] r
    cases h : blankI (c.toNat : Int) with
    | true => rfl
    | false =>
      simp only [Bool.false_eq_true, if_false]
      split
      · rfl
      · rename_i h2
        have h2 : ¬ Lib.indexAny r [32, 9] = -1 := by simpa using h2
        have h3 : ¬ Lib.indexAny r [32, 9] + 1 = 0 := by omega
        simpa using h3
theorem two_ascii : ∀ (j : Nat) b, (⟨#[32, 9]⟩ : ByteArray).data.toList[j]? = some b → b.toNat < 128 := by
  intro j b h
  match j, h with
  | 0, h => simp at h; subst h; decide
  | 1, h => simp at h; subst h; decide
theorem sset_info : (Tryz.prog.info? 309).map (fun i => (i.zero, i.size)) = some (some (.agg (Array.replicate 256 (.bool false))), 256) := by kernel_rfl
theorem idxC9 (s : ByteArray) (W : World) (h8 : 8 < s.size) (hs : s.size < 4294967281) : IdxC s W := by
  refine (Any.strings_IndexAny_long Tryz.lays153 (zero_of_info sset_info).1 (zero_of_info sset_info).2 s ⟨#[32, 9]⟩ W (by show 2 ≤ 2; omega) h8 hs (by show 2 < 4294967281; omega) two_ascii).mono ?_
  rintro e w' ⟨rfl, rfl⟩
  exact ⟨_, rfl, idx_first s.data.toList, ((Below.refl _ _).alloc (Nat.le_refl _) _).alloc (by simp) _⟩
theorem blank_at (s : ByteArray) (h : 0 < s.size) : blankFirst s.data.toList = blankI ((s[0]).toNat : Int) := by
  have : s.data.toList = s[0] :: s.data.toList.drop 1 := by
    have := List.drop_eq_getElem_cons (l := s.data.toList) (i := 0) (by simpa using h)
    rw [List.drop_zero] at this
    exact this
  rw [this]; rfl
theorem idxRuneA (c : UInt8) (w : World) (h : c.toNat < 128) : ∃ r : Int, Calls Tryz.prog 283 #[.string ⟨#[32, 9]⟩, .int .i32 (c.toNat : Int)] w (fun e w' => e = .returned (.int .i64 r) ∧ w' = w) ∧ (blankI (c.toNat : Int) = true → 0 ≤ r) ∧ (blankI (c.toNat : Int) = false → r < 0) := by
  have hc := Any.strings_IndexRune_ascii { Tryz.lays153 with } ⟨#[32, 9]⟩ (c.toNat : Int) w (by omega) (by omega)
  have hb : ((c.toNat : Int)).toNat.toUInt8 = c := by simp
  rw [hb] at hc
  refine ⟨_, hc, ?_, ?_⟩
  · intro he
    rw [← blank_is] at he
    have he : c = 32 ∨ c = 9 := by simpa using he
    rcases he with rfl | rfl <;> decide
  · intro he
    rw [← blank_is] at he
    have he : ¬ c = 32 ∧ ¬ c = 9 := by simpa using he
    have h1 : ¬ 32 = c := fun e => he.1 e.symm
    have h2 : ¬ 9 = c := fun e => he.2 e.symm
    have : Lib.indexByte [32, 9] c = -1 := by simp [Lib.indexByte, h1, h2]
    show Lib.indexByte [32, 9] c < 0
    rw [this]; decide
set_option maxHeartbeats 400000 in
theorem shouldS (n : Int) (w : World) :
    Calls Tryz.prog 284 #[.int .i64 n] w fun e w' => e = .returned (.bool (decide (8 < n))) ∧ w' = w := by
  go_enter Tryz.func284, Tryz.ntmps284
  go_wp2
  go_ret
  exact ⟨rfl, rfl⟩
set_option maxRecDepth 20000 in
set_option maxHeartbeats 1000000 in
theorem idxC8 (s : ByteArray) (W : World) (h8 : s.size ≤ 8) : IdxC s W := by
  unfold IdxC
  have h8' : decide ((8 : Int) < (s.size : Int)) = false := decide_eq_false (by omega)
  have BF := hide' (blank_at s)
  have BZ : Hid (s.size = 0 → blankFirst s.data.toList = false) := fun h => by
    have e : s.data.toList = [] := List.eq_nil_of_length_eq_zero (by simpa using h)
    rw [e]; rfl
  generalize blankFirst s.data.toList = bf at BF BZ ⊢
  go_enter Tryz.func264, Tryz.ntmps264
  go_wp2_with (go_at_call 284; refine (shouldS _ _).mono ?_; rintro e w' ⟨rfl, hw⟩; rw [hw]; clear hw)
  clear h8'
  go_loopg [9] s.size (fun g _ wr => ∃ pos : Nat, pos + g = s.size ∧ Hid (wr.heap[W.heap.size]? = some (.stringIter s pos)) ∧ Hid (Below W.heap.size W wr) ∧ Hid (0 < pos → bf = false))
  case atStart => exact ⟨0, by omega, World.iter_heap W s 0, iter_below W s 0, fun h => absurd h (by omega)⟩
  case round =>
    obtain ⟨pos, hp, HI, HB, HF⟩ := hrel
    by_cases hlt : pos < s.size
    · have hbt := byte_lt s[pos]
      by_cases ha : (s[pos]).toNat < 128
      · have hdec := decode_ascii s pos hlt ha
        have hnx := fun ty => run_next_at wr W.heap.size s pos ty HI.out hlt
        rw [hdec] at hnx
        have HI2 := hide' (iter_at HI.out (pos + 1))
        have HB2 : Hid (Below W.heap.size W (setIter wr W.heap.size s (pos + 1))) := iter_keeps HB.out (Nat.le_refl _)
        obtain ⟨r, cR, hr1, hr2⟩ := idxRuneA s[pos] (setIter wr W.heap.size s (pos + 1)) ha
        have CR := hide' cR
        simp only at hnx
        cases he : blankI ((s[pos]).toNat : Int) with
        | true =>
          have hr0 := hr1 he
          have BE : Hid (((pos : Int) == 0) = bf) := by
            unfold Hid
            by_cases h0 : pos = 0
            · subst h0; rw [BF.out hlt, he]; rfl
            · rw [HF.out (by omega)]; simp; omega
          clear hr1 hr2 he cR hdec ha
          generalize (s[pos]).toNat = cn at hnx CR hbt
          generalize setIter wr W.heap.size s (pos + 1) = w2 at hnx HI2 HB2 CR
          go_wp2_with (go_at_call 283; refine CR.out.mono ?_; rintro e w' ⟨rfl, hw⟩; rw [hw]; clear hw)
          go_ret
          exact ⟨_, rfl, BE, HB2.out⟩
        | false =>
          have hr0 := hr2 he
          have HF2 : Hid (0 < pos + 1 → bf = false) := fun _ => by
            by_cases h0 : pos = 0
            · subst h0; rw [BF.out hlt, he]
            · exact HF.out (by omega)
          clear hr1 hr2 he cR hdec ha
          generalize (s[pos]).toNat = cn at hnx CR hbt
          generalize setIter wr W.heap.size s (pos + 1) = w2 at hnx HI2 HB2 CR
          go_wp2_with (go_at_call 283; refine CR.out.mono ?_; rintro e w' ⟨rfl, hw⟩; rw [hw]; clear hw)
          go_roundg (gk - 1)
          case measure => omega
          case rel => exact ⟨pos + 1, by omega, HI2, HB2, HF2⟩
      · obtain ⟨R, K, hdec, hK1, hKn, hR1, hR2, hk⟩ := dec_at s pos hlt (by omega)
        have hnx := fun ty => run_next_at wr W.heap.size s pos ty HI.out hlt
        rw [hdec] at hnx
        have HI2 := hide' (iter_at HI.out (pos + K))
        have HB2 : Hid (Below W.heap.size W (setIter wr W.heap.size s (pos + K))) := iter_keeps HB.out (Nat.le_refl _)
        have CR := hide' (fun w => idxRune (R : Int) w (by omega) (hk.imp (fun e => by rw [e]; rfl) id))
        simp only at hnx
        have HF2 : Hid (0 < pos + K → bf = false) := fun _ => by
          by_cases h0 : pos = 0
          · subst h0
            rw [BF.out hlt]
            unfold blankI
            simp
            omega
          · exact HF.out (by omega)
        clear hk hdec ha hR1 hR2
        generalize (R : Int) = ri at hnx CR
        generalize setIter wr W.heap.size s (pos + K) = w2 at hnx HI2 HB2
        go_wp2_with fail
        refine (CR.out _).mono ?_
        rintro e w3 ⟨rfl, b3⟩
        have HI3 := hide' (iter_stays HI2.out b3)
        have HB3 := hide' (bt' HB2.out b3)
        clear b3 hnx HI2 HB2
        go_wp2_with fail
        go_roundg (gk - K)
        case measure => omega
        case rel => exact ⟨pos + K, by omega, HI3, HB3, HF2⟩
    · have hnx := fun ty => run_next_over wr W.heap.size s pos ty HI.out hlt
      have BE : Hid (((-1 : Int) == 0) = bf) := by
        unfold Hid
        by_cases h0 : s.size = 0
        · rw [BZ.out h0]; rfl
        · rw [HF.out (by omega)]; rfl
      go_wp2_with fail
      go_ret
      exact ⟨_, rfl, BE, HB.out⟩
theorem idxC (s : ByteArray) (W : World) (hs : s.size < 4294967281) : IdxC s W := by
  by_cases h8 : 8 < s.size
  · exact idxC9 s W h8 hs
  · exact idxC8 s W (by omega)
end Go.Proofs.YtibjcofbhldenaaGreatDoor
namespace Go.Proofs.YtibjcofbhldenaaGreatDoor
open Go.RowKit
/-- what the road of Parse reads of the library's variables -/
def Env (w : World) : Prop := MaxV w ∧ TabsV w
theorem env_below {w w' : World} (h : Env w) (hb : Below w.heap.size w w') : Env w' := ⟨maxV_below h.1 hb, tabsV_below h.2 hb⟩
theorem parseC (v : Value) (bs : List UInt8) (w : World) (hv : HoldsB w v bs) (E : Env w) (hs : bs.length < 4294967281) :
    Calls Tryz.prog 218 #[v] w fun e w' => ∃ lv, e = .returned (.tuple #[lv, .int .i64 (parseOf bs).2]) ∧ OwnF w lv (parseOf bs).1 w' :=
  parseTok v bs w hv E.1 hs (fun W hb ao cap line _ hl hB => containsAny line ao cap W hB (maxV_below E.1 hb) (tabsV_below E.2 hb) (by omega)) (fun W _ s _ hl => idxC s W (by omega))
theorem parseF_len : ∀ (n : Nat) (bs : List UInt8) (acc : FL), acc.length ≤ 100 → (parseF n bs acc).1.length ≤ 100 := by
  intro n
  induction n with
  | zero => intro bs acc h; exact h
  | succ n ih =>
    intro bs acc h
    unfold parseF
    split
    · exact h
    · split
      · simp
      · split
        · simp
        · split
          · simp
          · exact ih _ _ (by rw [List.length_append, List.length_singleton]; omega)
theorem parse_len (bs : List UInt8) : (parseOf bs).1.length ≤ 100 := parseF_len _ _ _ (by simp)
end Go.Proofs.YtibjcofbhldenaaGreatDoor
namespace Go.Proofs.YtibjcofbhldenaaGreatDoor
open Go.RowKit
end Go.Proofs.YtibjcofbhldenaaGreatDoor
