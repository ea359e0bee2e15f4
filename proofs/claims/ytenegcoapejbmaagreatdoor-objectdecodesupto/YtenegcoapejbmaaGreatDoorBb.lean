/- The contracts of goodValue and good, and of the document's Value. The bodies of the library's functions that are met here are those that the kit's contracts were proved of: the tables of numbers, checked body by body. Lines of fields in plain words; strings.Cut at a colon; the library's variable that its search looks at. The bodies of the library's functions that are met here are those that the kit's contracts were proved of: the tables of numbers, checked body by body. Bytes that are gone through line by line, in plain words; a list of bytes; the library's Cut at a line's end. The contract of Parse. -/
import Derived.Test.YtenegcoapejbmaaGreatDoorBa
import Derived.Shelf.Strings.Cut
import Derived.Shelf.Strings.IndexAnyAll
import Derived.Test.YtenegcoapejbmaaGreatDoorProg
import Derived.Lib.Split
import Derived.Lib.IndexAny
import Derived.Shelf.Vars
import Derived.Shelf.Bytes.SlCut
import Derived.Shelf.LaysM
import Derived.Lib.SlBytesConst
namespace Go.Proofs.YtenegcoapejbmaaGreatDoor
open Go.RowKit
def goodV (l : List UInt8) : Bool := l.all txt && decide (trimT l = l)
def goodF (f : List UInt8 × List UInt8) : Bool := isTok f.1 && goodV f.2
theorem all_bad (s : ByteArray) (k : Nat) (h : k < s.size) (hc : txt s[k] = false) : goodV s.data.toList = false := by
  unfold goodV
  rw [all_false s.data.toList k (by simpa using h) hc, Bool.false_and]
theorem all_step (s : ByteArray) (k : Nat) (h : k < s.size) (hc : txt s[k] = true) (ha : (s.data.toList.take k).all txt = true) : (s.data.toList.take (k + 1)).all txt = true := by
  rw [take_snoc s k h, List.all_append, ha]; simp [hc]
theorem all_end (s : ByteArray) (k : Nat) (h : s.size ≤ k) (ha : (s.data.toList.take k).all txt = true) : goodV s.data.toList = decide (trimT s.data.toList = s.data.toList) := by
  rw [take_all s k h] at ha
  unfold goodV; rw [ha, Bool.true_and]
theorem trim_eq (s : ByteArray) (h : trimT s.data.toList = s.data.toList) : (⟨(trimT s.data.toList).toArray⟩ : ByteArray) = s := by rw [h]
theorem trim_ne (s : ByteArray) (h : ¬ trimT s.data.toList = s.data.toList) : ((⟨(trimT s.data.toList).toArray⟩ : ByteArray).toList == s.toList) = false := by
  rw [Lib.toList_data, Lib.toList_data]; simpa using h
theorem trim_ne2 (s : ByteArray) (h : ¬ trimT s.data.toList = s.data.toList) : (trimT s.data.toList == s.toList) = false := by
  rw [Lib.toList_data]; simpa using h
set_option maxRecDepth 20000 in
set_option maxHeartbeats 1000000 in
theorem goodValueTok (s : ByteArray) (w : World) (hs : s.size ≤ 140737488351232) :
    Calls Tryz.prog 86 #[.string s] w fun e w' => e = .returned (.bool (goodV s.data.toList)) ∧ Below w.heap.size w w' := by
  have cT := hide' (trimTok s w hs)
  go_enter Tryz.func86, Tryz.ntmps86
  go_wp2_with fail
  go_loop [6] (fun i => ∃ k : Nat, k ≤ s.size ∧ i = .int .i64 k ∧ Hid ((s.data.toList.take k).all txt = true)) (fun i => s.size - (intOf i).toNat)
  case atStart => exact ⟨0, by omega, rfl, by unfold Hid; simp⟩
  case round =>
    obtain ⟨k, hk, rfl, ha⟩ := hrel
    by_cases hlt : k < s.size
    · have hb := byte_lt s[k]
      cases ht : txtI (s[k].toNat : Int) with
      | true =>
        have A := hide' (all_step s k hlt ht ha.out)
        go_wp2_with (go_at_call 114; refine (textFld _ (by omega) (by omega) _).mono ?_; rintro e w' ⟨rfl, rfl⟩)
        go_round
        case rel => exact ⟨k + 1, by omega, by go_num, A⟩
        case measure => simp [intOf]; omega
      | false =>
        have F := hide' (all_bad s k hlt ht)
        go_wp2_with (go_at_call 114; refine (textFld _ (by omega) (by omega) _).mono ?_; rintro e w' ⟨rfl, rfl⟩)
        go_ret
        rw [F.out]
        exact ⟨rfl, Below.refl _ _⟩
    · have F := hide' (all_end s k (by omega) ha.out)
      by_cases he : trimT s.data.toList = s.data.toList
      · rw [decide_eq_true he] at F
        rw [trim_eq s he] at cT
        clear he
        go_wp2_with fail
        refine cT.out.mono ?_
        rintro e w1 ⟨rfl, b1⟩
        have B1 := hide' b1
        clear b1
        go_wp2_with fail
        go_ret
        rw [F.out]
        exact ⟨rfl, B1.out⟩
      · rw [decide_eq_false he] at F
        have n1 := trim_ne s he
        have n2 := trim_ne2 s he
        clear he
        generalize trimT s.data.toList = t at cT n1 n2
        go_wp2_with fail
        refine cT.out.mono ?_
        rintro e w1 ⟨rfl, b1⟩
        have B1 := hide' b1
        clear b1
        go_wp2_with fail
        go_ret
        rw [F.out]
        exact ⟨rfl, B1.out⟩
set_option maxRecDepth 20000 in
set_option maxHeartbeats 1000000 in
theorem valueRef (s : ByteArray) (w : World) (hs : s.size ≤ 140737488351232) :
    Calls Tryz.prog 68 #[.string s] w fun e w' => e = .returned (.bool (goodV s.data.toList)) ∧ w' = w := by
  have cT := hide' (trimRef s w hs)
  go_enter Tryz.func68, Tryz.ntmps68
  go_wp2_with fail
  go_loop [3] (fun i => ∃ k : Nat, k ≤ s.size ∧ i = .int .i64 k ∧ Hid ((s.data.toList.take k).all txt = true)) (fun i => s.size - (intOf i).toNat)
  case atStart => exact ⟨0, by omega, rfl, by unfold Hid; simp⟩
  case round =>
    obtain ⟨k, hk, rfl, ha⟩ := hrel
    by_cases hlt : k < s.size
    · have hb := byte_lt s[k]
      cases ht : txtI (s[k].toNat : Int) with
      | true =>
        have A := hide' (all_step s k hlt ht ha.out)
        go_wp2_with (go_at_call 50; refine (textRef _ (by omega) (by omega) _).mono ?_; rintro e w' ⟨rfl, rfl⟩)
        go_round
        case rel => exact ⟨k + 1, by omega, by go_num, A⟩
        case measure => simp [intOf]; omega
      | false =>
        have F := hide' (all_bad s k hlt ht)
        go_wp2_with (go_at_call 50; refine (textRef _ (by omega) (by omega) _).mono ?_; rintro e w' ⟨rfl, rfl⟩)
        go_ret
        rw [F.out]
        exact ⟨rfl, rfl⟩
    · have F := hide' (all_end s k (by omega) ha.out)
      by_cases he : trimT s.data.toList = s.data.toList
      · rw [decide_eq_true he] at F
        rw [trim_eq s he] at cT
        clear he
        go_wp2_with fail
        refine cT.out.mono ?_
        rintro e w1 ⟨rfl, rfl⟩
        go_wp2_with fail
        go_ret
        rw [F.out]
        exact ⟨rfl, rfl⟩
      · rw [decide_eq_false he] at F
        have n1 := trim_ne s he
        have n2 := trim_ne2 s he
        clear he
        generalize trimT s.data.toList = t at cT n1 n2
        go_wp2_with fail
        refine cT.out.mono ?_
        rintro e w1 ⟨rfl, rfl⟩
        go_wp2_with fail
        go_ret
        rw [F.out]
        exact ⟨rfl, rfl⟩
set_option maxRecDepth 20000 in
set_option maxHeartbeats 1000000 in
theorem goodTok (x y : ByteArray) (w : World) (hx : x.size ≤ 140737488351232) (hy : y.size ≤ 140737488351232) :
    Calls Tryz.prog 70 #[.agg #[.string x, .string y]] w fun e w' => e = .returned (.bool (goodF (x.data.toList, y.data.toList))) ∧ Below w.heap.size w w' := by
  have c1 := fun W => tokenTok x W hx
  have c2 := hide' (fun W => goodValueTok y W hy)
  have F : Hid (goodF (x.data.toList, y.data.toList) = (isTok x.data.toList && goodV y.data.toList)) := rfl
  rw [F.out]
  clear F
  cases h1 : isTok x.data.toList with
  | false =>
    rw [h1] at c1
    have C1 := hide' c1
    clear c1 c2 h1
    rw [Bool.false_and]
    go_enter Tryz.func70, Tryz.ntmps70
    go_wp2_with (go_at_call 85; refine (C1.out _).mono ?_; rintro e w' ⟨rfl, rfl⟩)
    go_ret
    exact ⟨rfl, below_alloc' _ _⟩
  | true =>
    rw [h1] at c1
    have C1 := hide' c1
    clear c1 h1
    rw [Bool.true_and]
    generalize goodV y.data.toList = gb at c2 ⊢
    go_enter Tryz.func70, Tryz.ntmps70
    go_wp2_with (first | (go_at_call 85; refine (C1.out _).mono ?_; rintro e w' ⟨rfl, rfl⟩) | (go_at_call 86; refine (c2.out _).mono ?_; rintro e w2 ⟨rfl, b2⟩))
    go_ret
    exact ⟨rfl, (below_alloc' w _).trans (b2.mono (by simp))⟩
end Go.Proofs.YtenegcoapejbmaaGreatDoor
namespace Go.Proofs
open Go.Shelf
def Tryz.lays145_ren : Go.Shelf.Ren := ⟨fun | 145 => 59 | 220 => 77 | 219 => 93 | 217 => 120 | 225 => 106 | 224 => 75 | 267 => 121 | 266 => 100 | 314 => 133 | n => n, fun | 9 => 9 | 4 => 4 | 59 => 84 | 3 => 3 | 5 => 5 | 46 => 74 | 146 => 108 | 51 => 68 | n => n, fun | 1 => 0 | n => n⟩
theorem Tryz.lays145 : Go.Proofs.Lays.n145 Tryz.prog Tryz.lays145_ren := {
  mixed := by kernel_rfl
  f145 := Tryz.func59.trans (congrArg some (by kernel_rfl))
  f217 := Tryz.func120.trans (congrArg some (by kernel_rfl))
  f219 := Tryz.func93.trans (congrArg some (by kernel_rfl))
  f220 := Tryz.func77.trans (congrArg some (by kernel_rfl))
  f224 := Tryz.func75.trans (congrArg some (by kernel_rfl))
  f225 := Tryz.func106.trans (congrArg some (by kernel_rfl))
  f266 := Tryz.func100.trans (congrArg some (by kernel_rfl))
  f267 := Tryz.func121.trans (congrArg some (by kernel_rfl))
  f314 := Tryz.func133.trans (congrArg some (by kernel_rfl))
  t3 := Tryz.underlying3
  a3 := Tryz.isAgg3
  z3 := Tryz.sizeOf3
  v3 := Tryz.zeroValue3
  t4 := Tryz.underlying4
  a4 := Tryz.isAgg4
  z4 := Tryz.sizeOf4
  v4 := Tryz.zeroValue4
  t5 := Tryz.underlying5
  a5 := Tryz.isAgg5
  z5 := Tryz.sizeOf5
  v5 := Tryz.zeroValue5
  t9 := Tryz.underlying9
  a9 := Tryz.isAgg9
  z9 := Tryz.sizeOf9
  v9 := Tryz.zeroValue9
  t46 := Tryz.underlying74
  a46 := Tryz.isAgg74
  z46 := Tryz.sizeOf74
  v46 := Tryz.zeroValue74
  t51 := Tryz.underlying68
  a51 := Tryz.isAgg68
  z51 := Tryz.sizeOf68
  v51 := Tryz.zeroValue68
  t59 := Tryz.underlying84
  a59 := Tryz.isAgg84
  z59 := Tryz.sizeOf84
  v59 := Tryz.zeroValue84
  t146 := Tryz.underlying108
  a146 := Tryz.isAgg108
  z146 := Tryz.sizeOf108
  v146 := Tryz.zeroValue108
  g1 := by kernel_rfl }
def Tryz.lays153_ren : Go.Shelf.Ren := ⟨fun | 153 => 82 | 152 => 107 | 226 => 108 | 227 => 109 | 228 => 110 | 137 => 129 | 119 => 126 | 224 => 75 | 225 => 106 | 217 => 120 | 266 => 100 | n => n, fun | 9 => 9 | 3 => 3 | 4 => 4 | 5 => 5 | 21 => 21 | 117 => 126 | 116 => 125 | 0 => 0 | 46 => 74 | 124 => 141 | n => n, fun | n => n⟩
theorem Tryz.lays153 : Go.Proofs.Lays.n153 Tryz.prog Tryz.lays153_ren := {
  mixed := by kernel_rfl
  f119 := Tryz.func126.trans (congrArg some (by kernel_rfl))
  f137 := Tryz.func129.trans (congrArg some (by kernel_rfl))
  f152 := Tryz.func107.trans (congrArg some (by kernel_rfl))
  f153 := Tryz.func82.trans (congrArg some (by kernel_rfl))
  f217 := Tryz.func120.trans (congrArg some (by kernel_rfl))
  f224 := Tryz.func75.trans (congrArg some (by kernel_rfl))
  f225 := Tryz.func106.trans (congrArg some (by kernel_rfl))
  f226 := Tryz.func108.trans (congrArg some (by kernel_rfl))
  f227 := Tryz.func109.trans (congrArg some (by kernel_rfl))
  f228 := Tryz.func110.trans (congrArg some (by kernel_rfl))
  f266 := Tryz.func100.trans (congrArg some (by kernel_rfl))
  t0 := Tryz.underlying0
  a0 := Tryz.isAgg0
  z0 := Tryz.sizeOf0
  v0 := Tryz.zeroValue0
  t3 := Tryz.underlying3
  a3 := Tryz.isAgg3
  z3 := Tryz.sizeOf3
  v3 := Tryz.zeroValue3
  t4 := Tryz.underlying4
  a4 := Tryz.isAgg4
  z4 := Tryz.sizeOf4
  v4 := Tryz.zeroValue4
  t5 := Tryz.underlying5
  a5 := Tryz.isAgg5
  z5 := Tryz.sizeOf5
  v5 := Tryz.zeroValue5
  t9 := Tryz.underlying9
  a9 := Tryz.isAgg9
  z9 := Tryz.sizeOf9
  v9 := Tryz.zeroValue9
  t21 := Tryz.underlying21
  a21 := Tryz.isAgg21
  z21 := Tryz.sizeOf21
  v21 := Tryz.zeroValue21
  t46 := Tryz.underlying74
  a46 := Tryz.isAgg74
  z46 := Tryz.sizeOf74
  v46 := Tryz.zeroValue74
  t116 := Tryz.underlying125
  a116 := Tryz.isAgg125
  z116 := Tryz.sizeOf125
  t117 := Tryz.underlying126
  a117 := Tryz.isAgg126
  z117 := Tryz.sizeOf126
  v117 := Tryz.zeroValue126
  t124 := Tryz.underlying141
  a124 := Tryz.isAgg141
  z124 := Tryz.sizeOf141
  v124 := Tryz.zeroValue141 }
end Go.Proofs
namespace Go.Proofs.YtenegcoapejbmaaGreatDoor
open Go.RowKit
theorem while_app (p : UInt8 → Bool) (a b : List UInt8) (ha : ∀ c ∈ a, p c = true) (hb : ∀ c r, b = c :: r → p c = false) : (a ++ b).takeWhile p = a ∧ (a ++ b).dropWhile p = b := by
  induction a with
  | nil =>
    cases b with
    | nil => exact ⟨rfl, rfl⟩
    | cons c r => have := hb c r rfl; simp [this]
  | cons c a ih =>
    have h1 := ha c (by simp)
    have h2 := ih (fun d hd => ha d (by simp [hd]))
    simp [h1, h2]
theorem while_app2 (p : UInt8 → Bool) (l : List UInt8) : l.takeWhile p ++ l.dropWhile p = l := List.takeWhile_append_dropWhile
theorem while_all (p : UInt8 → Bool) (l : List UInt8) (h : l.all p = true) : l.takeWhile p = l ∧ l.dropWhile p = [] := by
  have := while_app p l [] (fun c hc => List.all_eq_true.1 h c hc) (by simp)
  rwa [List.append_nil] at this
theorem while_take (p : UInt8 → Bool) (l : List UInt8) : l.take (l.takeWhile p).length = l.takeWhile p := by
  conv => lhs; rw [← while_app2 p l]
  rw [List.takeWhile_append_dropWhile]
  have := @List.take_left _ (l.takeWhile p) (l.dropWhile p)
  rwa [List.takeWhile_append_dropWhile] at this
theorem while_drop (p : UInt8 → Bool) (l : List UInt8) (k : Nat) : l.drop ((l.takeWhile p).length + k) = (l.dropWhile p).drop k := by
  have := @List.drop_left _ (l.takeWhile p) (l.dropWhile p)
  rw [List.takeWhile_append_dropWhile] at this
  rw [← List.drop_drop, this]
theorem while_len (p : UInt8 → Bool) (l : List UInt8) (h : ¬ l.all p = true) : (l.takeWhile p).length < l.length := by
  induction l with
  | nil => simp at h
  | cons c l ih =>
    by_cases hc : p c = true
    · rw [List.takeWhile_cons_of_pos hc]
      have := ih (fun e => h (by rw [List.all_cons, hc, e]; rfl))
      simp; omega
    · rw [List.takeWhile_cons_of_neg hc]; simp
theorem index_one (p : UInt8 → Bool) (c : UInt8) (hp : ∀ x, p x = false ↔ x = c) (l : List UInt8) : Lib.index l [c] = if l.all p = true then -1 else ((l.takeWhile p).length : Int) := by
  induction l with
  | nil => rfl
  | cons b l ih =>
    rw [Lib.index]
    by_cases e : b = c
    · subst e
      have h1 := (hp b).2 rfl
      have h2 : [b].isPrefixOf (b :: l) = true := by simp [List.isPrefixOf]
      rw [if_pos h2, List.all_cons, h1, Bool.false_and, if_neg (by simp), List.takeWhile_cons_of_neg (by simp [h1])]; rfl
    · have h1 : p b = true := by
        cases h : p b with
        | true => rfl
        | false => exact absurd ((hp b).1 h) e
      have h2 : ¬ [c].isPrefixOf (b :: l) = true := by simp [List.isPrefixOf]; exact fun x => e x.symm
      rw [if_neg h2, ih, List.all_cons, h1, Bool.true_and, List.takeWhile_cons_of_pos h1]
      by_cases h : l.all p = true
      · rw [if_pos h, if_pos h]; rfl
      · rw [if_neg h, if_neg h, if_neg]
        · simp
        · intro x; have := beq_iff_eq.1 x; omega
theorem cut_one (p : UInt8 → Bool) (c : UInt8) (hp : ∀ x, p x = false ↔ x = c) (l : List UInt8) : Lib.cut l [c] = (l.takeWhile p, (l.dropWhile p).drop 1, ! l.all p) := by
  unfold Lib.cut
  rw [index_one p c hp l]
  by_cases h : l.all p = true
  · rw [if_pos h, if_neg (by omega), (while_all p l h).1, (while_all p l h).2, h]; rfl
  · rw [if_neg h, if_pos (by omega), Int.toNat_natCast, while_take, while_drop, Bool.eq_false_iff.2 h]; rfl
def noCol (c : UInt8) : Bool := decide (c ≠ 58)
theorem noCol_iff (c : UInt8) : noCol c = false ↔ c = 58 := by unfold noCol; simp
/-- the variable of the library's that its search looks at -/
def MaxV (w : World) : Prop := ∃ m, w.cell? ⟨0, 0, none⟩ = some (.int .i64 m)
theorem maxV_of {w : World} (h : w.ShapedOpen Tryz.prog) : MaxV w := cell_of_shapedOpen_int (g := 0) (t := 3) (zero := #[.int .i64 0]) h (of_decide_eq_true (by kernel_rfl)) (by kernel_rfl) rfl (by kernel_rfl) (by kernel_rfl) Tryz.underlying3
theorem cell_lt {w : World} {g : Nat} {v : Value} (h : w.cell? ⟨g, 0, none⟩ = some v) : g < w.heap.size := by
  rcases Nat.lt_or_ge g w.heap.size with h1 | h1
  · exact h1
  · unfold World.cell? at h
    rw [Array.getElem?_eq_none h1] at h
    simp at h
theorem maxV_below {w w' : World} (h : MaxV w) (hb : Below w.heap.size w w') : MaxV w' := by
  obtain ⟨m, hm⟩ := h
  exact ⟨m, by rw [hb.cell (p := ⟨0, 0, none⟩) (cell_lt hm)]; exact hm⟩
def nameOf (l : List UInt8) : List UInt8 := l.takeWhile noCol
def restOf (l : List UInt8) : List UInt8 := (l.dropWhile noCol).drop 1
def blankFirst (l : List UInt8) : Bool := match l with
  | c :: _ => blankI (c.toNat : Int)
  | [] => false
/-- the field that a line is, and the error -/
def lineOf (l : List UInt8) : (List UInt8 × List UInt8) × Int :=
  if blankFirst l = true then (([], []), 41)
  else if l.all noCol = true then (([], []), 40)
  else if goodF (nameOf l, trimT (restOf l)) = true then ((nameOf l, trimT (restOf l)), 0) else (([], []), 40)
theorem cutColon (s : ByteArray) (hs : s.size < 4294967281) (w : World) (M : MaxV w) :
    Calls Tryz.prog 59 #[.string s, .string ⟨#[58]⟩] w fun e w' => e = .returned (.tuple #[.string ⟨(nameOf s.data.toList).toArray⟩, .string ⟨(restOf s.data.toList).toArray⟩, .bool (! s.data.toList.all noCol)]) ∧ Below w.heap.size w w' := by
  obtain ⟨m, hm⟩ := M
  refine (Any.strings_Cut Tryz.lays145 s ⟨#[58]⟩ m w hs hm).mono ?_
  rintro e w' ⟨rfl, n, rfl⟩
  refine ⟨?_, below_drewN w n⟩
  rw [show (⟨#[58]⟩ : ByteArray).data.toList = [58] from rfl, cut_one noCol 58 noCol_iff]
  rfl
theorem name_len (l : List UInt8) : (nameOf l).length ≤ l.length := (List.takeWhile_sublist _).length_le
theorem rest_len (l : List UInt8) : (restOf l).length ≤ l.length := by
  unfold restOf; rw [List.length_drop]
  have := (List.dropWhile_sublist (p := noCol) (l := l)).length_le
  omega
theorem line_len (l : List UInt8) : (lineOf l).1.1.length ≤ l.length ∧ (lineOf l).1.2.length ≤ l.length := by
  unfold lineOf
  have h1 := name_len l
  have h2 := rest_len l
  have h3 := trimT_len (restOf l)
  split
  · simp
  · split
    · simp
    · split
      · exact ⟨h1, by show (trimT (restOf l)).length ≤ _; omega⟩
      · simp
/-- what strings.IndexAny at the two blanks says of a text -/
def IdxC (s : ByteArray) (W : World) : Prop := Calls Tryz.prog 82 #[.string s, .string ⟨#[32, 9]⟩] W fun e w' => ∃ r : Int, e = .returned (.int .i64 r) ∧ Hid ((r == 0) = blankFirst s.data.toList) ∧ Below W.heap.size W w'
theorem size_l8 (l : List UInt8) (n : Nat) (h : l.length ≤ n) : (⟨l.toArray⟩ : ByteArray).size ≤ n := by rw [size_l]; exact h
def lineV (l : List UInt8) : Value := .tuple #[.agg #[.string ⟨(lineOf l).1.1.toArray⟩, .string ⟨(lineOf l).1.2.toArray⟩], .int .i64 (lineOf l).2]
set_option maxRecDepth 20000 in
set_option maxHeartbeats 2000000 in
theorem parseLineTok (s : ByteArray) (hs : s.size < 4294967281) (w : World) (M : MaxV w) (cI : ∀ W, Below w.heap.size w W → IdxC s W) :
    Calls Tryz.prog 65 #[.string s] w fun e w' => e = .returned (lineV s.data.toList) ∧ Below w.heap.size w w' := by
  have I1 := hide' (cI _ (two_start w).2.2.2.2.2)
  have MV := hide' M
  have S0 := hide' (two_start w)
  clear M cI
  cases hb : blankFirst s.data.toList with
  | true =>
    have R : Hid (lineV s.data.toList = .tuple #[.agg #[.string ⟨#[]⟩, .string ⟨#[]⟩], .int .i64 41]) := by
      unfold Hid lineV lineOf; rw [if_pos hb]
    rw [R.out]
    unfold IdxC at I1
    rw [hb] at I1
    clear hb R
    go_enter Tryz.func65, Tryz.ntmps65
    go_wp2_with fail
    refine I1.out.mono ?_
    rintro e w1 ⟨r, rfl, hr, b1⟩
    have hr0 := hr.out
    have T1 := hide' (two_below S0.out b1)
    clear b1 I1 S0 hr
    obtain ⟨⟨x1, c1⟩, ⟨x2, c2⟩, f1, f2, z, bel⟩ := T1.out
    go_wp2_with fail
    obtain ⟨q1, q2, q3⟩ := two_store T1.out (.string ⟨#[]⟩) (.string ⟨#[]⟩)
    exact bodyPost_ret (v := .tuple #[.agg #[.string ⟨#[]⟩, .string ⟨#[]⟩], .int .i64 41]) (by simp [results, Tryz.results65, go_sem, q1, q2]) rfl ⟨rfl, q3⟩
  | false =>
    have z1 := name_len s.data.toList
    have z2 := rest_len s.data.toList
    have z3 := trimT_len (restOf s.data.toList)
    have zl : s.data.toList.length = s.size := by simp
    have cC := hide' (fun W MW => cutColon s hs W MW)
    have cT := hide' (fun W => trimTok ⟨(restOf s.data.toList).toArray⟩ W (size_l8 _ _ (by omega)))
    have cG := fun W => goodTok ⟨(nameOf s.data.toList).toArray⟩ ⟨(trimT (restOf s.data.toList)).toArray⟩ W (size_l8 _ _ (by omega)) (size_l8 _ _ (by omega))
    simp only at cT cG
    unfold IdxC at I1
    rw [hb] at I1
    cases ha : s.data.toList.all noCol with
    | true =>
      have R : Hid (lineV s.data.toList = .tuple #[.agg #[.string ⟨#[]⟩, .string ⟨#[]⟩], .int .i64 40]) := by
        unfold Hid lineV lineOf; rw [if_neg (by rw [hb]; simp), if_pos ha]
      rw [R.out]
      rw [ha] at cC
      clear hb R ha cG z1 z2 z3 zl
      generalize nameOf s.data.toList = nm at cC
      generalize trimT (restOf s.data.toList) = tv at cT
      generalize restOf s.data.toList = rv at cC cT
      go_enter Tryz.func65, Tryz.ntmps65
      go_wp2_with fail
      refine I1.out.mono ?_
      rintro e w1 ⟨r, rfl, hr, b1⟩
      have hr0 := hr.out
      have T1 := hide' (two_below S0.out b1)
      have M1 := hide' (maxV_below (maxV_below MV.out (S0.out).2.2.2.2.2) b1)
      clear b1 I1 S0 hr MV
      go_wp2_with fail
      refine (cC.out _ M1.out).mono ?_
      rintro e w2 ⟨rfl, b2⟩
      have T2 := hide' (two_below T1.out b2)
      clear b2 T1 M1 cC
      go_wp2_with fail
      refine (cT.out _).mono ?_
      rintro e w3 ⟨rfl, b3⟩
      have T3 := hide' (two_below T2.out b3)
      clear b3 T2 cT
      obtain ⟨⟨x1, c1⟩, ⟨x2, c2⟩, f1, f2, z, bel⟩ := T3.out
      go_wp2_with fail
      obtain ⟨q1, q2, q3⟩ := two_store T3.out (.string ⟨#[]⟩) (.string ⟨#[]⟩)
      have zz : w.heap.size < ((w3.setCell ⟨w.heap.size, 0, none⟩ (.string ⟨#[]⟩)).setCell ⟨w.heap.size, 1, none⟩ (.string ⟨#[]⟩)).heap.size := by simpa [World.setCell] using z
      generalize (w3.setCell ⟨w.heap.size, 0, none⟩ (.string ⟨#[]⟩)).setCell ⟨w.heap.size, 1, none⟩ (.string ⟨#[]⟩) = w5 at q1 q2 q3 zz ⊢
      have qb := below_alloc' w5 (.cells #[.string ⟨nm.toArray⟩, .string ⟨tv.toArray⟩] 76)
      have q1a : (w5.alloc (.cells #[.string ⟨nm.toArray⟩, .string ⟨tv.toArray⟩] 76)).cell? ⟨w.heap.size, 0, none⟩ = some (.string ⟨#[]⟩) := by rw [qb.cell (p := ⟨w.heap.size, 0, none⟩) zz]; exact q1
      have q2a : (w5.alloc (.cells #[.string ⟨nm.toArray⟩, .string ⟨tv.toArray⟩] 76)).cell? ⟨w.heap.size, 1, none⟩ = some (.string ⟨#[]⟩) := by rw [qb.cell (p := ⟨w.heap.size, 1, none⟩) zz]; exact q2
      exact bodyPost_ret (v := .tuple #[.agg #[.string ⟨#[]⟩, .string ⟨#[]⟩], .int .i64 40]) (by simp [results, Tryz.results65, go_sem, q1a, q2a]) rfl ⟨rfl, q3.alloc (by omega) _⟩
    | false =>
      rw [ha] at cC
      cases hg : goodF (nameOf s.data.toList, trimT (restOf s.data.toList)) with
      | false =>
        have R : Hid (lineV s.data.toList = .tuple #[.agg #[.string ⟨#[]⟩, .string ⟨#[]⟩], .int .i64 40]) := by
          unfold Hid lineV lineOf; rw [if_neg (by rw [hb]; simp), if_neg (by rw [ha]; simp), if_neg (by rw [hg]; simp)]
        rw [R.out]
        rw [hg] at cG
        have CG := hide' cG
        clear hb R ha hg cG z1 z2 z3 zl
        generalize nameOf s.data.toList = nm at cC CG
        generalize trimT (restOf s.data.toList) = tv at cT CG
        generalize restOf s.data.toList = rv at cC cT
        go_enter Tryz.func65, Tryz.ntmps65
        go_wp2_with fail
        refine I1.out.mono ?_
        rintro e w1 ⟨r, rfl, hr, b1⟩
        have hr0 := hr.out
        have T1 := hide' (two_below S0.out b1)
        have M1 := hide' (maxV_below (maxV_below MV.out (S0.out).2.2.2.2.2) b1)
        clear b1 I1 S0 hr MV
        go_wp2_with fail
        refine (cC.out _ M1.out).mono ?_
        rintro e w2 ⟨rfl, b2⟩
        have T2 := hide' (two_below T1.out b2)
        clear b2 T1 M1 cC
        go_wp2_with fail
        refine (cT.out _).mono ?_
        rintro e w3 ⟨rfl, b3⟩
        have T3 := hide' (two_below T2.out b3)
        clear b3 T2 cT
        go_wp2_with fail
        refine (CG.out _).mono ?_
        rintro e w4 ⟨rfl, b4⟩
        have T4 := hide' (two_below (two_below T3.out (below_alloc' w3 (.cells #[.string ⟨nm.toArray⟩, .string ⟨tv.toArray⟩] 76))) b4)
        clear b4
        obtain ⟨⟨x1, c1⟩, ⟨x2, c2⟩, f1, f2, z, bel⟩ := T4.out
        go_wp2_with fail
        obtain ⟨q1, q2, q3⟩ := two_store T4.out (.string ⟨#[]⟩) (.string ⟨#[]⟩)
        exact bodyPost_ret (v := .tuple #[.agg #[.string ⟨#[]⟩, .string ⟨#[]⟩], .int .i64 40]) (by simp [results, Tryz.results65, go_sem, q1, q2]) rfl ⟨rfl, q3⟩
      | true =>
        have R : Hid (lineV s.data.toList = .tuple #[.agg #[.string ⟨(nameOf s.data.toList).toArray⟩, .string ⟨(trimT (restOf s.data.toList)).toArray⟩], .int .i64 0]) := by
          unfold Hid lineV lineOf; rw [if_neg (by rw [hb]; simp), if_neg (by rw [ha]; simp), if_pos hg]
        rw [R.out]
        rw [hg] at cG
        have CG := hide' cG
        clear hb R ha hg cG z1 z2 z3 zl
        generalize nameOf s.data.toList = nm at cC CG
        generalize trimT (restOf s.data.toList) = tv at cT CG
        generalize restOf s.data.toList = rv at cC cT
        go_enter Tryz.func65, Tryz.ntmps65
        go_wp2_with fail
        refine I1.out.mono ?_
        rintro e w1 ⟨r, rfl, hr, b1⟩
        have hr0 := hr.out
        have T1 := hide' (two_below S0.out b1)
        have M1 := hide' (maxV_below (maxV_below MV.out (S0.out).2.2.2.2.2) b1)
        clear b1 I1 S0 hr MV
        go_wp2_with fail
        refine (cC.out _ M1.out).mono ?_
        rintro e w2 ⟨rfl, b2⟩
        have T2 := hide' (two_below T1.out b2)
        clear b2 T1 M1 cC
        go_wp2_with fail
        refine (cT.out _).mono ?_
        rintro e w3 ⟨rfl, b3⟩
        have T3 := hide' (two_below T2.out b3)
        clear b3 T2 cT
        go_wp2_with fail
        refine (CG.out _).mono ?_
        rintro e w4 ⟨rfl, b4⟩
        have T4 := hide' (two_below (two_below T3.out (below_alloc' w3 (.cells #[.string ⟨nm.toArray⟩, .string ⟨tv.toArray⟩] 76))) b4)
        have d1 : w4.cell? ⟨w3.heap.size, 0, none⟩ = some (.string ⟨nm.toArray⟩) := by rw [b4.cell (p := ⟨w3.heap.size, 0, none⟩) (by simp)]; simp
        have d2 : w4.cell? ⟨w3.heap.size, 1, none⟩ = some (.string ⟨tv.toArray⟩) := by rw [b4.cell (p := ⟨w3.heap.size, 1, none⟩) (by simp)]; simp
        clear b4
        obtain ⟨⟨x1, c1⟩, ⟨x2, c2⟩, f1, f2, z, bel⟩ := T4.out
        go_wp2_with fail
        obtain ⟨q1, q2, q3⟩ := two_store T4.out (.string ⟨nm.toArray⟩) (.string ⟨tv.toArray⟩)
        exact bodyPost_ret (v := .tuple #[.agg #[.string ⟨nm.toArray⟩, .string ⟨tv.toArray⟩], .int .i64 0]) (by simp [results, Tryz.results65, go_sem, q1, q2]) rfl ⟨rfl, q3⟩
end Go.Proofs.YtenegcoapejbmaaGreatDoor
namespace Go.Proofs
open Go.Shelf
def Tryz.laysT4_ren : Go.Shelf.Ren := ⟨fun | 4 => 58 | 5 => 57 | 6 => 73 | 7 => 13 | 8 => 74 | 9 => 75 | 10 => 76 | 11 => 91 | 12 => 92 | n => n, fun | 22 => 22 | 4 => 4 | 3 => 3 | 0 => 0 | 5 => 5 | 29 => 74 | 9 => 9 | 31 => 108 | 30 => 68 | n => n, fun | 0 => 0 | n => n⟩
theorem Tryz.laysT4 : Go.Proofs.SlLaysT.n4 Tryz.prog Tryz.laysT4_ren := {
  mixed := by kernel_rfl
  f4 := Tryz.func58.trans (congrArg some (by kernel_rfl))
  f5 := Tryz.func57.trans (congrArg some (by kernel_rfl))
  f6 := Tryz.func73.trans (congrArg some (by kernel_rfl))
  f7 := Tryz.func13.trans (congrArg some (by kernel_rfl))
  f8 := Tryz.func74.trans (congrArg some (by kernel_rfl))
  f9 := Tryz.func75.trans (congrArg some (by kernel_rfl))
  f10 := Tryz.func76.trans (congrArg some (by kernel_rfl))
  f11 := Tryz.func91.trans (congrArg some (by kernel_rfl))
  f12 := Tryz.func92.trans (congrArg some (by kernel_rfl))
  t0 := Tryz.underlying0
  a0 := Tryz.isAgg0
  z0 := Tryz.sizeOf0
  v0 := Tryz.zeroValue0
  t3 := Tryz.underlying3
  a3 := Tryz.isAgg3
  z3 := Tryz.sizeOf3
  v3 := Tryz.zeroValue3
  t4 := Tryz.underlying4
  a4 := Tryz.isAgg4
  z4 := Tryz.sizeOf4
  v4 := Tryz.zeroValue4
  t5 := Tryz.underlying5
  a5 := Tryz.isAgg5
  z5 := Tryz.sizeOf5
  v5 := Tryz.zeroValue5
  t9 := Tryz.underlying9
  a9 := Tryz.isAgg9
  z9 := Tryz.sizeOf9
  v9 := Tryz.zeroValue9
  t22 := Tryz.underlying22
  a22 := Tryz.isAgg22
  z22 := Tryz.sizeOf22
  v22 := Tryz.zeroValue22
  t29 := Tryz.underlying74
  a29 := Tryz.isAgg74
  z29 := Tryz.sizeOf74
  v29 := Tryz.zeroValue74
  t30 := Tryz.underlying68
  a30 := Tryz.isAgg68
  z30 := Tryz.sizeOf68
  v30 := Tryz.zeroValue68
  t31 := Tryz.underlying108
  a31 := Tryz.isAgg108
  z31 := Tryz.sizeOf108
  v31 := Tryz.zeroValue108
  g0 := by kernel_rfl }
def Tryz.laysM185_ren : Go.Shelf.Ren := ⟨fun | 185 => 57 | 187 => 73 | 115 => 13 | 253 => 74 | 224 => 75 | 254 => 76 | 255 => 91 | 291 => 92 | n => n, fun | 37 => 22 | 3 => 3 | 4 => 4 | 0 => 0 | 5 => 5 | 46 => 74 | 9 => 9 | 146 => 108 | 51 => 68 | n => n, fun | 1 => 0 | n => n⟩
theorem Tryz.laysM185 : Go.Proofs.LaysM.n185 Tryz.prog Tryz.laysM185_ren := {
  mixed := by kernel_rfl
  f115 := Tryz.func13.trans (congrArg some (by kernel_rfl))
  f185 := Tryz.func57.trans (congrArg some (by kernel_rfl))
  f187 := Tryz.func73.trans (congrArg some (by kernel_rfl))
  f224 := Tryz.func75.trans (congrArg some (by kernel_rfl))
  f253 := Tryz.func74.trans (congrArg some (by kernel_rfl))
  f254 := Tryz.func76.trans (congrArg some (by kernel_rfl))
  f255 := Tryz.func91.trans (congrArg some (by kernel_rfl))
  f291 := Tryz.func92.trans (congrArg some (by kernel_rfl))
  t0 := Tryz.underlying0
  a0 := Tryz.isAgg0
  z0 := Tryz.sizeOf0
  v0 := Tryz.zeroValue0
  t3 := Tryz.underlying3
  a3 := Tryz.isAgg3
  z3 := Tryz.sizeOf3
  v3 := Tryz.zeroValue3
  t4 := Tryz.underlying4
  a4 := Tryz.isAgg4
  z4 := Tryz.sizeOf4
  v4 := Tryz.zeroValue4
  t5 := Tryz.underlying5
  a5 := Tryz.isAgg5
  z5 := Tryz.sizeOf5
  v5 := Tryz.zeroValue5
  t9 := Tryz.underlying9
  a9 := Tryz.isAgg9
  z9 := Tryz.sizeOf9
  v9 := Tryz.zeroValue9
  t37 := Tryz.underlying22
  a37 := Tryz.isAgg22
  z37 := Tryz.sizeOf22
  v37 := Tryz.zeroValue22
  t46 := Tryz.underlying74
  a46 := Tryz.isAgg74
  z46 := Tryz.sizeOf74
  v46 := Tryz.zeroValue74
  t51 := Tryz.underlying68
  a51 := Tryz.isAgg68
  z51 := Tryz.sizeOf68
  v51 := Tryz.zeroValue68
  t146 := Tryz.underlying108
  a146 := Tryz.isAgg108
  z146 := Tryz.sizeOf108
  v146 := Tryz.zeroValue108
  g1 := by kernel_rfl
  i0 := by kernel_rfl
  i3 := by kernel_rfl
  i4 := by kernel_rfl
  i5 := by kernel_rfl
  i9 := by kernel_rfl
  i37 := by kernel_rfl
  i46 := by kernel_rfl
  i51 := by kernel_rfl
  i146 := by kernel_rfl
  m1 := by kernel_rfl
  s1_3 := fun w h => Go.Proofs.cell_of_shapedOpen_int (zero := #[.int .i64 0]) (t := 3) h (of_decide_eq_true (by kernel_rfl)) (by kernel_rfl) rfl (by kernel_rfl) (by kernel_rfl) Tryz.underlying3 }
end Go.Proofs
namespace Go.Proofs.YtenegcoapejbmaaGreatDoor
open Go.RowKit
def isEnd (c : UInt8) : Bool := decide (c = 13 ∨ c = 10)
/-- the first line, without its end, and what stands behind its end -/
def stepOf : List UInt8 → Option (List UInt8 × List UInt8)
  | [] => none
  | b :: t => if b = 13 then (match t with
      | c :: r => if c = 10 then some ([], r) else none
      | [] => none)
    else if b = 10 then none
    else (stepOf t).map (fun p => (b :: p.1, p.2))
theorem any_take (b : UInt8) (t : List UInt8) (i : Nat) (h : isEnd b = true) (hi : 0 < i) : ((b :: t).take i).any isEnd = true := by
  obtain ⟨j, rfl⟩ : ∃ j, i = j + 1 := ⟨i - 1, by omega⟩
  simp [h]
theorem step_spec : ∀ (bs : List UInt8), (∀ l r, stepOf bs = some (l, r) → Lib.index bs [13, 10] = (l.length : Int) ∧ l.any isEnd = false ∧ bs = l ++ 13 :: 10 :: r) ∧
    (stepOf bs = none → Lib.index bs [13, 10] = -1 ∨ ∃ i : Nat, Lib.index bs [13, 10] = i ∧ (bs.take i).any isEnd = true) := by
  intro bs
  induction bs with
  | nil => exact ⟨fun l r h => by simp [stepOf] at h, fun _ => Or.inl rfl⟩
  | cons b t ih =>
    have hidx : Lib.index (b :: t) [13, 10] = if ([13, 10] : List UInt8).isPrefixOf (b :: t) then 0 else if Lib.index t [13, 10] == -1 then -1 else Lib.index t [13, 10] + 1 := by rw [Lib.index]
    have hge := Lib.index_ge t [13, 10]
    have far : isEnd b = true → ¬ ([13, 10] : List UInt8).isPrefixOf (b :: t) = true → Lib.index (b :: t) [13, 10] = -1 ∨ ∃ i : Nat, Lib.index (b :: t) [13, 10] = i ∧ ((b :: t).take i).any isEnd = true := by
      intro he hp
      rw [hidx, if_neg hp]
      by_cases h1 : Lib.index t [13, 10] = -1
      · left; rw [h1]; rfl
      · right
        rw [if_neg (by simpa using h1)]
        obtain ⟨i, hi⟩ : ∃ i : Nat, Lib.index t [13, 10] = i := ⟨(Lib.index t [13, 10]).toNat, by omega⟩
        exact ⟨i + 1, by rw [hi]; rfl, any_take b t _ he (by omega)⟩
    by_cases h13 : b = 13
    · subst h13
      cases t with
      | nil =>
        refine ⟨fun l r h => by simp [stepOf] at h, fun _ => far (by decide) (by decide)⟩
      | cons c r0 =>
        by_cases h10 : c = 10
        · subst h10
          refine ⟨fun l r h => ?_, fun h => by simp [stepOf] at h⟩
          simp [stepOf] at h
          obtain ⟨rfl, rfl⟩ := h
          exact ⟨by rw [hidx, if_pos (by simp [List.isPrefixOf])]; rfl, rfl, rfl⟩
        · refine ⟨fun l r h => by simp [stepOf, h10] at h, fun _ => far (by decide) ?_⟩
          simp [List.isPrefixOf]
          exact fun e => h10 e.symm
    · by_cases h10 : b = 10
      · subst h10
        refine ⟨fun l r h => by simp [stepOf] at h, fun _ => far (by decide) (by simp [List.isPrefixOf])⟩
      · have hp : ¬ ([13, 10] : List UInt8).isPrefixOf (b :: t) = true := by
          simp [List.isPrefixOf]
          exact fun e => absurd e.symm h13
        have hs : stepOf (b :: t) = (stepOf t).map (fun p => (b :: p.1, p.2)) := by rw [stepOf.eq_def]; simp only; rw [if_neg h13, if_neg h10]
        have hb : isEnd b = false := by unfold isEnd; simp [h13, h10]
        refine ⟨fun l r h => ?_, fun h => ?_⟩
        · rw [hs] at h
          obtain ⟨⟨l', r'⟩, h', e⟩ := Option.map_eq_some_iff.1 h
          simp only [Prod.mk.injEq] at e
          obtain ⟨rfl, rfl⟩ := e
          obtain ⟨i1, i2, i3⟩ := ih.1 l' r' h'
          refine ⟨?_, ?_, ?_⟩
          · rw [hidx, if_neg hp, i1, if_neg (by simp)]; simp
          · simp [hb]; simpa using i2
          · rw [i3]; rfl
        · rw [hs] at h
          have h' : stepOf t = none := by simpa using h
          rcases ih.2 h' with i1 | ⟨i, i1, i2⟩
          · left; rw [hidx, if_neg hp, i1]; rfl
          · right
            refine ⟨i + 1, ?_, ?_⟩
            · rw [hidx, if_neg hp, i1, if_neg (by simp)]; simp
            · simp [i2]
def parseF : Nat → List UInt8 → FL → FL × Int
  | 0, _, acc => (acc, 0)
  | n + 1, bs, acc => if bs = [] then (acc, 0) else match stepOf bs with
    | none => ([], 40)
    | some p => if (lineOf p.1).2 ≠ 0 then ([], (lineOf p.1).2) else if 100 ≤ acc.length then ([], 42) else parseF n p.2 (acc ++ [(lineOf p.1).1])
theorem step_len {bs l r : List UInt8} (h : stepOf bs = some (l, r)) : bs.length = l.length + r.length + 2 := by
  have := ((step_spec bs).1 l r h).2.2
  rw [this]; simp; omega
theorem parse_fuel : ∀ (n m : Nat) (bs : List UInt8) (acc : FL), bs.length < n → bs.length < m → parseF n bs acc = parseF m bs acc := by
  intro n
  induction n with
  | zero => intro m bs acc h; omega
  | succ n ih =>
    intro m bs acc h hm
    obtain ⟨m, rfl⟩ : ∃ k, m = k + 1 := ⟨m - 1, by omega⟩
    unfold parseF
    by_cases h0 : bs = []
    · rw [if_pos h0, if_pos h0]
    · rw [if_neg h0, if_neg h0]
      cases hs : stepOf bs with
      | none => rfl
      | some p =>
        obtain ⟨l, r⟩ := p
        have hl := step_len hs
        simp only
        split
        · rfl
        · split
          · rfl
          · exact ih m r _ (by omega) (by omega)
def parseG (bs : List UInt8) (acc : FL) : FL × Int := parseF (bs.length + 1) bs acc
def parseOf (bs : List UInt8) : FL × Int := parseG bs []
theorem parse_nil (acc : FL) : parseG [] acc = (acc, 0) := by unfold parseG parseF; rw [if_pos rfl]
theorem parse_none (bs : List UInt8) (acc : FL) (h0 : bs ≠ []) (hs : stepOf bs = none) : parseG bs acc = ([], 40) := by unfold parseG parseF; rw [if_neg h0, hs]
theorem parse_bad (bs l r : List UInt8) (acc : FL) (hs : stepOf bs = some (l, r)) (hl : (lineOf l).2 ≠ 0) : parseG bs acc = ([], (lineOf l).2) := by
  have h0 : bs ≠ [] := by intro e; rw [e] at hs; simp [stepOf] at hs
  unfold parseG parseF; rw [if_neg h0, hs]; simp only; rw [if_pos hl]
theorem parse_many (bs l r : List UInt8) (acc : FL) (hs : stepOf bs = some (l, r)) (hl : (lineOf l).2 = 0) (ha : 100 ≤ acc.length) : parseG bs acc = ([], 42) := by
  have h0 : bs ≠ [] := by intro e; rw [e] at hs; simp [stepOf] at hs
  unfold parseG parseF; rw [if_neg h0, hs]; simp only; rw [if_neg (by rw [hl]; simp), if_pos ha]
theorem parse_next (bs l r : List UInt8) (acc : FL) (hs : stepOf bs = some (l, r)) (hl : (lineOf l).2 = 0) (ha : ¬ 100 ≤ acc.length) : parseG bs acc = parseG r (acc ++ [(lineOf l).1]) := by
  have h0 : bs ≠ [] := by intro e; rw [e] at hs; simp [stepOf] at hs
  have hlen := step_len hs
  unfold parseG
  rw [parseF, if_neg h0, hs]; simp only; rw [if_neg (by rw [hl]; simp), if_neg ha]
  exact parse_fuel _ _ _ _ (by omega) (by omega)
theorem in_of_holdsB {w : World} {ao : Option Addr} {cap : Nat} {bs : List UInt8} (h : HoldsB w (.slice ao bs.length cap) bs) : Lib.BytesIn w ao bs.length (bs.map fun b => (b.toNat : Int)) := by
  intro hn
  obtain ⟨ao', cap', e, _, _, hc⟩ := h
  simp only [Value.slice.injEq] at e
  obtain ⟨rfl, _, rfl⟩ := e
  obtain ⟨b, off, rfl, _, hcell⟩ := hc (fun e => by rw [e] at hn; simp at hn)
  refine ⟨b, off, rfl, fun i hi => ?_⟩
  rw [hcell i hi]
  simp [B, List.getD, hi]
theorem bytesOf_map' (l : List UInt8) : Lib.bytesOf (l.map fun b => (b.toNat : Int)) = l := by
  unfold Lib.bytesOf
  rw [List.map_map]
  conv => rhs; rw [← List.map_id l]
  exact List.map_congr_left (fun b _ => by simp)
theorem byte_range (l : List UInt8) : ∀ x ∈ l.map (fun b => (b.toNat : Int)), 0 ≤ x ∧ x < 256 := by
  intro x hx
  obtain ⟨b, _, rfl⟩ := List.mem_map.1 hx
  have := b.toNat_lt
  omega
theorem holdsB_suf {w : World} {ao : Option Addr} {cap : Nat} {bs : List UInt8} (h : HoldsB w (.slice ao bs.length cap) bs) (i : Nat) (hi : i ≤ bs.length) : HoldsB w (Lib.fromV ao bs.length cap i) (bs.drop i) := by
  obtain ⟨ao', cap', e, h0, hcp, hc⟩ := h
  simp only [Value.slice.injEq] at e
  obtain ⟨rfl, _, rfl⟩ := e
  have hl : (bs.drop i).length = bs.length - i := by rw [List.length_drop]
  refine ⟨_, cap - i, by unfold Lib.fromV; rw [hl], ?_, by omega, fun hne => ?_⟩
  · intro e
    split at e
    · omega
    · cases ao with
      | none => have := h0 rfl; omega
      | some a => simp at e
  · have hp : i < bs.length := by
      rcases Nat.lt_or_ge i bs.length with h | h
      · exact h
      · exact absurd (List.drop_eq_nil_of_le h) hne
    obtain ⟨b, off, rfl, hlt, hcell⟩ := hc (fun e => by rw [e] at hp; simp at hp)
    refine ⟨b, off + i, ?_, hlt, fun j hj => ?_⟩
    · rw [if_neg (by omega)]
      simp [Addr.add]
    · have := hcell (i + j) (by omega)
      rw [Nat.add_assoc, this]
      simp
theorem mark2 (W : World) : Sem.run Tryz.prog (convert 22 22 (.slice (some ⟨W.heap.size, 0, none⟩) 2 2)) (W.alloc (.cells #[.int .u8 13, .int .u8 10] 5)) = .ok (.slice (some ⟨W.heap.size, 0, none⟩) 2 2) (W.alloc (.cells #[.int .u8 13, .int .u8 10] 5 (2, 3))) :=
  Lib.run_convert_bytes_const W 22 5 #[.int .u8 13, .int .u8 10] 2 2 Tryz.underlying22 Tryz.underlying5
theorem cutB (ao : Option Addr) (cap : Nat) (bs : List UInt8) (W : World) (hv : HoldsB W (.slice ao bs.length cap) bs) (M : MaxV W) (hs : bs.length < 4294967281) :
    Calls Tryz.prog 58 #[.slice ao bs.length cap, .slice (some ⟨W.heap.size, 0, none⟩) 2 2] (W.alloc (.cells #[.int .u8 13, .int .u8 10] 5 (2, 3))) fun e w' => e = .returned (Lib.cutV ao bs.length cap 2 (Lib.index bs [13, 10])) ∧ Below W.heap.size W w' := by
  have bA := below_alloc' W (.cells #[.int .u8 13, .int .u8 10] 5 (2, 3))
  obtain ⟨m, hm⟩ := maxV_below M bA
  have h1 := in_of_holdsB (holdsB_mono hv bA)
  obtain ⟨ao', cap', e, h0, hcp, _⟩ := hv
  simp only [Value.slice.injEq] at e
  obtain ⟨rfl, _, rfl⟩ := e
  have c := Any.bytes_Cut_all Tryz.laysT4 ao (some ⟨W.heap.size, 0, none⟩) bs.length cap 2 2 (bs.map fun b => (b.toNat : Int)) [13, 10] m _ (by simp) rfl (byte_range bs) (by decide) h1 (fun _ => ⟨W.heap.size, 0, rfl, fun i hi => by
    match i, hi with
    | 0, _ => simp [World.cell?_alloc_mark]
    | 1, _ => simp [World.cell?_alloc_mark]⟩) h0 hcp hs (by decide) hm
  refine c.mono ?_
  rintro e w' ⟨rfl, q, rfl⟩
  rw [bytesOf_map', show Lib.bytesOf [13, 10] = [13, 10] from rfl]
  exact ⟨rfl, bt' bA (below_drewN _ q)⟩
end Go.Proofs.YtenegcoapejbmaaGreatDoor
namespace Go.Proofs.YtenegcoapejbmaaGreatDoor
open Go.RowKit
def lenOf : Value → Nat
  | .slice _ n _ => n
  | _ => 0
/-- what bytes.ContainsAny at a line's two last bytes says -/
def CaC (line : List UInt8) (ao : Option Addr) (cap : Nat) (W : World) : Prop := Calls Tryz.prog 64 #[.slice ao line.length cap, .string ⟨#[13, 10]⟩] W fun e w' => e = .returned (.bool (line.any isEnd)) ∧ Below W.heap.size W w'
theorem conv_holdsB (w : World) (ao : Option Addr) (cap : Nat) (l : List UInt8) (h : HoldsB w (.slice ao l.length cap) l) :
    Sem.run Tryz.prog (convert 22 9 (.slice ao l.length cap)) w = .ok (.string ⟨l.toArray⟩) w := by
  obtain ⟨ao', cap', e, h0, hcp, hc⟩ := h
  simp only [Value.slice.injEq] at e
  obtain ⟨rfl, _, rfl⟩ := e
  by_cases hl : l = []
  · subst hl
    cases ao with
    | none => obtain rfl := h0 rfl; exact conv_nil w
    | some a => exact run_convert_bytes_back w 22 9 5 a cap [] Tryz.underlying22 Tryz.underlying5 Tryz.underlying9 (fun j hj => by simp at hj)
  · obtain ⟨b, off, rfl, _, hcell⟩ := hc hl
    rw [run_convert_bytes_back w 22 9 5 ⟨b, off, none⟩ cap l Tryz.underlying22 Tryz.underlying5 Tryz.underlying9 (fun j hj => by rw [Go.WideShapes.add_plain]; exact hcell j hj)]
theorem line_err (l : List UInt8) : (lineOf l).2 = 0 ∨ (lineOf l).2 = 40 ∨ (lineOf l).2 = 41 := by
  unfold lineOf
  split
  · exact .inr (.inr rfl)
  · split
    · exact .inr (.inl rfl)
    · split
      · exact .inl rfl
      · exact .inr (.inl rfl)
set_option maxRecDepth 20000 in
set_option maxHeartbeats 1000000 in
theorem parseTok (v : Value) (bs : List UInt8) (w : World) (hv : HoldsB w v bs) (M : MaxV w) (hs : bs.length < 4294967281)
    (cA : ∀ W, Below w.heap.size w W → ∀ ao cap (line : List UInt8), (∀ c ∈ line, c ∈ bs) → line.length ≤ bs.length → HoldsB W (.slice ao line.length cap) line → CaC line ao cap W)
    (cI : ∀ W, Below w.heap.size w W → ∀ s : ByteArray, (∀ c ∈ s.data.toList, c ∈ bs) → s.size ≤ bs.length → IdxC s W) :
    Calls Tryz.prog 49 #[v] w fun e w' => ∃ lv, e = .returned (.tuple #[lv, .int .i64 (parseOf bs).2]) ∧ OwnF w lv (parseOf bs).1 w' := by
  have HV := hide' hv
  have MV := hide' M
  have CA := hide' cA
  have CI := hide' cI
  clear hv M cA cI
  obtain ⟨ao0, cap0, hv0, _⟩ := HV.out
  rw [hv0] at HV ⊢
  clear hv0
  go_enter Tryz.func49, Tryz.ntmps49
  go_wp2_with fail
  go_loopw [0, 4] (fun bv lv wr => ∃ (rest : List UInt8) (acc : FL) (ao : Option Addr) (cap : Nat), bv = .slice ao rest.length cap ∧ Hid (HoldsB w (.slice ao rest.length cap) rest) ∧ Hid (parseG rest acc = parseOf bs) ∧ acc.length ≤ 100 ∧ rest.length ≤ bs.length ∧ Hid (∀ c ∈ rest, c ∈ bs) ∧ OwnF w lv acc wr) (fun bv _ _ => lenOf bv)
  case atStart => exact ⟨bs, [], ao0, cap0, rfl, HV, rfl, by simp, Nat.le_refl _, fun c h => h, ownF_nil _ _ (Below.refl _ _)⟩
  case round =>
    obtain ⟨rest, acc, ao, cap, rfl, HB, HP, hacc, hrl, HM, ho⟩ := hrel
    by_cases hr0 : rest = []
    · subst hr0
      rw [parse_nil] at HP
      have P2 : Hid ((parseOf bs).2 = 0) := by unfold Hid; rw [← HP.out]
      have P1 : Hid ((parseOf bs).1 = acc) := by unfold Hid; rw [← HP.out]
      go_wp2_with fail
      go_ret2
      rw [P2.out, P1.out]
      exact ⟨_, rfl, ho⟩
    · have hpos : 0 < rest.length := by cases rest with | nil => exact absurd rfl hr0 | cons _ _ => simp
      have hB := holdsB_mono HB.out ho.2
      have kc := mark2 wr
      have cC := hide' (cutB ao cap rest wr hB (maxV_below MV.out ho.2) (by omega))
      cases hst : stepOf rest with
      | none =>
        have HPn := hide' (HP.out.symm.trans (parse_none rest acc hr0 hst))
        have P2 : Hid ((parseOf bs).2 = 40) := by unfold Hid; rw [HPn.out]
        have P1 : Hid ((parseOf bs).1 = []) := by unfold Hid; rw [HPn.out]
        rcases (step_spec rest).2 hst with hi | ⟨i, hi, hany⟩
        · rw [hi] at cC
          unfold Lib.cutV at cC
          rw [if_neg (by decide)] at cC
          clear hi hst hB
          go_wp2_with fail
          refine cC.out.mono ?_
          clear kc
          rintro e w1 ⟨rfl, b1⟩
          have B1 := hide' (bt' ho.2 b1)
          clear b1 ho
          go_wp2_with fail
          go_ret2
          rw [P2.out, P1.out]
          exact ⟨_, rfl, ownF_nil _ _ B1.out⟩
        · have hroom := Lib.index_room rest [13, 10] (by rw [hi]; omega)
          rw [hi] at hroom
          simp at hroom
          have hip : i ≤ rest.length := by omega
          have htl : (rest.take i).length = i := by rw [List.length_take]; omega
          have KA := hide' (fun W hb (hB2 : HoldsB W (.slice ao (rest.take i).length cap) (rest.take i)) => CA.out W hb ao cap (rest.take i) (fun c hc => HM.out c (List.mem_of_mem_take hc)) (by omega) hB2)
          have HT := hide' (holdsB_pre HB.out i hip)
          unfold CaC at KA
          rw [hany, htl] at KA
          rw [hi] at cC
          unfold Lib.cutV at cC
          rw [if_pos (by omega), Int.toNat_natCast] at cC
          obtain ⟨vb, hvb⟩ : ∃ vb, vb = Lib.fromV ao rest.length cap (i + 2) := ⟨_, rfl⟩
          rw [← hvb] at cC
          clear hi hst hB hvb hany htl hroom
          go_wp2_with fail
          refine cC.out.mono ?_
          clear kc
          rintro e w1 ⟨rfl, b1⟩
          have B1 := hide' (bt' ho.2 b1)
          clear b1 ho
          go_wp2_with fail
          refine (KA.out _ B1.out (holdsB_mono HT.out B1.out)).mono ?_
          rintro e w2 ⟨rfl, b2⟩
          have B2 := hide' (bt' B1.out b2)
          clear b2 B1
          go_wp2_with fail
          go_ret2
          rw [P2.out, P1.out]
          exact ⟨_, rfl, ownF_nil _ _ B2.out⟩
      | some p =>
        obtain ⟨l, r⟩ := p
        obtain ⟨hi, hany, happ⟩ := (step_spec rest).1 l r hst
        have hlen := step_len hst
        have htake : rest.take l.length = l := by rw [happ]; simp
        have hdrop : rest.drop (l.length + 2) = r := by rw [happ, ← List.drop_drop]; simp
        have HT := holdsB_pre HB.out l.length (by omega)
        rw [htake] at HT
        have HS := holdsB_suf HB.out (l.length + 2) (by omega)
        rw [hdrop] at HS
        have hlm : ∀ c ∈ l, c ∈ bs := fun c hc => HM.out c (by rw [happ]; simp [hc])
        have HMr : Hid (∀ c ∈ r, c ∈ bs) := fun c hc => HM.out c (by rw [happ]; simp [hc])
        have KA := hide' (fun W hb (hB2 : HoldsB W (.slice ao l.length cap) l) => CA.out W hb ao cap l hlm (by omega) hB2)
        unfold CaC at KA
        rw [hany] at KA
        have KI := hide' (fun W (hb : Below w.heap.size w W) => parseLineTok ⟨l.toArray⟩ (by rw [size_l]; omega) W (maxV_below MV.out hb) (fun W' hb' => CI.out W' (bt' hb hb') ⟨l.toArray⟩ (by simpa using hlm) (by rw [size_l]; omega)))
        simp only at KI
        rw [hi] at cC
        unfold Lib.cutV at cC
        rw [if_pos (by omega), Int.toNat_natCast] at cC
        obtain ⟨vb, hvb⟩ : ∃ vb, vb = Lib.fromV ao rest.length cap (l.length + 2) := ⟨_, rfl⟩
        rw [← hvb] at cC HS
        have HT2 := hide' HT
        have HS2 := hide' HS
        have CV := hide' (fun W (hb : Below w.heap.size w W) => conv_holdsB W ao cap l (holdsB_mono HT hb))
        have hpb := parse_bad rest l r acc hst
        have hpm := parse_many rest l r acc hst
        have hpn := parse_next rest l r acc hst
        unfold lineV at KI
        have LL := line_len l
        obtain ⟨x, hx⟩ : ∃ x, x = (lineOf l).1.1 := ⟨_, rfl⟩
        obtain ⟨y, hy⟩ : ∃ y, y = (lineOf l).1.2 := ⟨_, rfl⟩
        obtain ⟨ee, hee⟩ : ∃ ee, ee = (lineOf l).2 := ⟨_, rfl⟩
        rw [← hx, ← hy, ← hee] at KI
        have hxy : (lineOf l).1 = (x, y) := by rw [hx, hy]
        rw [← hee] at hpb hpm hpn
        by_cases h0 : ee = 0
        · by_cases h100 : acc.length = 100
          · have HPn := hide' (HP.out.symm.trans (hpm h0 (by omega)))
            have P2 : Hid ((parseOf bs).2 = 42) := by unfold Hid; rw [HPn.out]
            have P1 : Hid ((parseOf bs).1 = []) := by unfold Hid; rw [HPn.out]
            obtain ⟨aa, ca, b9, o9, hlv, _⟩ := holdsF_parts (holdsF_own ho)
            subst h0
            have e100 : ((acc.length : Int) == 100) = true := by rw [h100]; rfl
            clear hpb hpm hpn hi hany happ htake hdrop hlen hst HT HS LL hx hy hee hxy hlm hB h100 hvb
            rw [hlv] at ho ⊢
            clear hlv
            go_wp2_with fail
            refine cC.out.mono ?_
            rintro e w1 ⟨rfl, b1⟩
            have B1 := hide' (bt' ho.2 b1)
            have O1 := hide' (ownF_mono ho b1)
            clear b1 ho kc
            go_wp2_with fail
            refine (KA.out _ B1.out (holdsB_mono HT2.out B1.out)).mono ?_
            rintro e w2 ⟨rfl, b2⟩
            have B2 := hide' (bt' B1.out b2)
            have O2 := hide' (ownF_mono O1.out b2)
            have cv := CV.out w2 B2.out
            clear b2 B1 O1
            go_wp2_with fail
            refine (KI.out _ B2.out).mono ?_
            rintro e w3 ⟨rfl, b3⟩
            have B3 := hide' (bt' B2.out b3)
            have O3 := hide' (ownF_mono O2.out b3)
            clear b3 B2 O2 cv
            go_wp2_with fail
            go_ret2
            rw [P2.out, P1.out]
            exact ⟨_, rfl, ownF_nil _ _ (B3.out.alloc B3.out.size _)⟩
          · have HPn := hide' ((hpn h0 (by omega)).symm.trans HP.out)
            rw [hxy] at HPn
            obtain ⟨aa, ca, b9, o9, hlv, _⟩ := holdsF_parts (holdsF_own ho)
            subst h0
            have e100 : ((acc.length : Int) == 100) = false := by simp; omega
            obtain ⟨a2, c2, hvb2, _⟩ := HS2.out
            have HL := hide' hlen
            clear hpb hpm hpn hi hany happ htake hdrop hst HT HS LL hx hy hee hxy hlm hB hvb hlen
            rw [hvb2] at cC HS2
            clear hvb2
            rw [hlv] at ho ⊢
            clear hlv
            go_wp2_with fail
            refine cC.out.mono ?_
            rintro e w1 ⟨rfl, b1⟩
            have B1 := hide' (bt' ho.2 b1)
            have O1 := hide' (ownF_mono ho b1)
            clear b1 ho kc
            go_wp2_with fail
            refine (KA.out _ B1.out (holdsB_mono HT2.out B1.out)).mono ?_
            rintro e w2 ⟨rfl, b2⟩
            have B2 := hide' (bt' B1.out b2)
            have O2 := hide' (ownF_mono O1.out b2)
            have cv := CV.out w2 B2.out
            clear b2 B1 O1
            go_wp2_with fail
            refine (KI.out _ B2.out).mono ?_
            rintro e w3 ⟨rfl, b3⟩
            have B3 := hide' (bt' B2.out b3)
            have O3 := hide' (ownF_mono O2.out b3)
            clear b3 B2 O2 cv
            have O4 := hide' (ownF_mono O3.out (below_alloc' w3 (.cells #[.string ⟨x.toArray⟩, .string ⟨y.toArray⟩] 76)))
            go_wp2_with (at_builtin; refine appF rfl (.tmp 39) (.tmp 41) rfl w _ _ rfl O4.out (x, y) rfl rfl rfl (by simp) (by omega) ?_; intro v5 w5 ho5)
            go_roundw
            case rel => exact ⟨r, acc ++ [(x, y)], a2, c2, rfl, HS2, HPn, by simp; omega, by have := HL.out; omega, HMr, ho5⟩
            case measure => have := HL.out; simp [lenOf]; omega
        · have HPn := hide' (HP.out.symm.trans (hpb h0))
          have P2 : Hid ((parseOf bs).2 = ee) := by unfold Hid; rw [HPn.out]
          have P1 : Hid ((parseOf bs).1 = []) := by unfold Hid; rw [HPn.out]
          have ene : (ee != 0) = true := by simpa using h0
          clear hpb hpm hpn hi hany happ htake hdrop hlen hst HT HS LL hx hy hee hxy hlm hB h0 hvb
          go_wp2_with fail
          refine cC.out.mono ?_
          rintro e w1 ⟨rfl, b1⟩
          have B1 := hide' (bt' ho.2 b1)
          have O1 := hide' (ownF_mono ho b1)
          clear b1 ho kc
          go_wp2_with fail
          refine (KA.out _ B1.out (holdsB_mono HT2.out B1.out)).mono ?_
          rintro e w2 ⟨rfl, b2⟩
          have B2 := hide' (bt' B1.out b2)
          have O2 := hide' (ownF_mono O1.out b2)
          have cv := CV.out w2 B2.out
          clear b2 B1 O1
          go_wp2_with fail
          refine (KI.out _ B2.out).mono ?_
          rintro e w3 ⟨rfl, b3⟩
          have B3 := hide' (bt' B2.out b3)
          have O3 := hide' (ownF_mono O2.out b3)
          clear b3 B2 O2 cv
          go_wp2_with fail
          go_ret2
          rw [P2.out, P1.out]
          exact ⟨_, rfl, ownF_nil _ _ (B3.out.alloc B3.out.size _)⟩
end Go.Proofs.YtenegcoapejbmaaGreatDoor
