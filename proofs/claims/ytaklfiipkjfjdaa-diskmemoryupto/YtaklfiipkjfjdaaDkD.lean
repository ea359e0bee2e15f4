/- A disk in memory: its block, its tables, its files, its pending changes; what is as it was where other blocks are written. -/
import Derived.Test.YtaklfiipkjfjdaaDkM
import Derived.Test.YtaklfiipkjfjdaaMsk
import Derived.Test.YtaklfiipkjfjdaaHolB
import Derived.Test.YtaklfiipkjfjdaaOwnS
import Derived.StringKeys
namespace Go.Proofs.Ytaklfiipkjfjdaa
open Go.RowKit Go.Maps Go.WideMaps
theorem kStr : Keyed Try.prog 9 := string_keyed Try.underlying9
theorem kInt : Keyed Try.prog 3 := int_keyed Try.underlying3
theorem zeroP (w : World) : (zeroValue 72).run Try.prog w = .ok (.pointer none) w := by kernel_rfl
theorem zeroU (w : World) : (zeroValue 71).run Try.prog w = .ok (.agg #[]) w := by kernel_rfl
/-- a map that holds just these numbers -/
def FailsAt (W : World) (m : Nat) (fs : List Int) : Prop := ∃ n D, W.ownsMap Try.prog 3 (unitElem (H := Unit)) m n D ∧ ∀ i : Int, Maps.has D (.int .i64 i) = decide (i ∈ fs)
/-- a table of names -/
def Tbl (W : World) (m : Nat) (fb : Nat → Nat) (l : NL) : Prop := W.ownsMap Try.prog 9 pel m l.length (dOf fb l)
/-- a change of names as a function value -/
def ChgV (o : Ow) (fb : Nat → Nat) (W : World) (v : Value) : Chg → Prop
  | .put n k => n.length ≤ 64 ∧ ∃ bf bn, v = .func (.func 49) #[] #[.pointer (some ⟨bf, 0, none⟩), .pointer (some ⟨bn, 0, none⟩)] ∧ W.cell? ⟨bf, 0, none⟩ = some (.pointer (some ⟨fb k, 0, none⟩)) ∧ W.cell? ⟨bn, 0, none⟩ = some (S n) ∧ o bf = some .cap ∧ o bn = some .cap
  | .del n => n.length ≤ 64 ∧ ∃ bn, v = .func (.func 53) #[] #[.pointer (some ⟨bn, 0, none⟩)] ∧ W.cell? ⟨bn, 0, none⟩ = some (S n) ∧ o bn = some .cap
  | .mv a b k => a.length ≤ 64 ∧ b.length ≤ 64 ∧ ∃ ba bf bb, v = .func (.func 52) #[] #[.pointer (some ⟨ba, 0, none⟩), .pointer (some ⟨bf, 0, none⟩), .pointer (some ⟨bb, 0, none⟩)] ∧ W.cell? ⟨ba, 0, none⟩ = some (S a) ∧ W.cell? ⟨bf, 0, none⟩ = some (.pointer (some ⟨fb k, 0, none⟩)) ∧ W.cell? ⟨bb, 0, none⟩ = some (S b) ∧ o ba = some .cap ∧ o bf = some .cap ∧ o bb = some .cap
/-- a file's block: its number, its bytes (a row of its own), how many are safe -/
def FileAt (o : Ow) (W : World) (b i : Nat) (bs : List UInt8) (sf : Nat) : Prop :=
  ∃ rv, Blk b W [.int .i64 (i : Int), rv, .int .i64 (sf : Int)] ∧ W.ownsRow 0 5 1 rv bs.length (bs.map B) ∧ o b = some (.file i) ∧ ∀ rb, rv.ownBlock = some rb → o rb = some (.row i)
/-- the pending changes -/
def PendAt (o : Ow) (fb : Nat → Nat) (W : World) (pv : Value) (cs : List Chg) : Prop :=
  ∃ vs : List Value, W.ownsRow 0 91 1 pv cs.length vs ∧ (∀ i (h : i < cs.length), ∃ v, vs[i]? = some v ∧ ChgV o fb W v cs[i]) ∧ ∀ rb, pv.ownBlock = some rb → o rb = some .pend
def nOf (c : Chg) : Option Nat := match c with | .put _ k => some k | .del _ => none | .mv _ _ k => some k
structure DkV (o : Ow) (g m0 m1 m2 : Nat) (pv : Value) (fb : Nat → Nat) (s : Dk) (cs : List Chg) (W : World) : Prop where
  blk : Blk g W [.int .i64 s.room, .int .i64 s.power, .map (some m0), .int .i64 (s.n : Int), .int .i64 (s.data.length : Int), .map (some m1), .map (some m2), pv]
  fails : FailsAt W m0 s.fails
  seen : Tbl W m1 fb s.now
  safe : Tbl W m2 fb s.safe
  pend : PendAt o fb W pv cs
  files : ∀ i, i < s.data.length → FileAt o W (fb i) i (s.data.getD i []) (s.firm.getD i 0)
  og : o g = some .disk
  o0 : o m0 = some .fails
  o1 : o m1 = some .seen
  o2 : o m2 = some .safe
  lt : ∀ k, o.has k → k < W.heap.size
  wf : Wf s
  once : Once s.now
  sc : Sc s cs
  rm : 0 ≤ s.room ∧ s.room ≤ 1073741824
/-- a disk at block g that owns the blocks of o -/
def Dsk (o : Ow) (g : Nat) (s : Dk) (W : World) : Prop := ∃ m0 m1 m2 pv fb cs, DkV o g m0 m1 m2 pv fb s cs W
theorem tbl_same {o : Ow} {R : Role → Prop} {W W' : World} {m : Nat} {r : Role} {fb : Nat → Nat} {l : NL} (h : Tbl W m fb l) (hs : Same o R W W') (hb : o m = some r) (hr : R r) : Tbl W' m fb l := map_same h hs hb hr
theorem fails_same {o : Ow} {R : Role → Prop} {W W' : World} {m : Nat} {fs : List Int} (h : FailsAt W m fs) (hs : Same o R W W') (hb : o m = some .fails) (hr : R .fails) : FailsAt W' m fs := by
  obtain ⟨n, D, h1, h2⟩ := h
  exact ⟨n, D, map_same h1 hs hb hr, h2⟩
theorem cell_same {o : Ow} {R : Role → Prop} {W W' : World} {b j : Nat} {r : Role} {v : Value} (h : W.cell? ⟨b, j, none⟩ = some v) (hs : Same o R W W') (hb : o b = some r) (hr : R r) : W'.cell? ⟨b, j, none⟩ = some v := by
  rw [World.cell?_of_block (w := W) (a := ⟨b, j, none⟩) (hs.block b r hb hr)]; exact h
theorem chg_same {o : Ow} {R : Role → Prop} {W W' : World} {fb : Nat → Nat} {v : Value} {c : Chg} (h : ChgV o fb W v c) (hs : Same o R W W') (hr : R .cap) : ChgV o fb W' v c := by
  cases c with
  | put n k =>
    obtain ⟨hl, bf, bn, e, h1, h2, o1, o2⟩ := h
    exact ⟨hl, bf, bn, e, cell_same h1 hs o1 hr, cell_same h2 hs o2 hr, o1, o2⟩
  | del n =>
    obtain ⟨hl, bn, e, h2, o2⟩ := h
    exact ⟨hl, bn, e, cell_same h2 hs o2 hr, o2⟩
  | mv a b k =>
    obtain ⟨l1, l2, ba, bf, bb, e, h1, h2, h3, o1, o2, o3⟩ := h
    exact ⟨l1, l2, ba, bf, bb, e, cell_same h1 hs o1 hr, cell_same h2 hs o2 hr, cell_same h3 hs o3 hr, o1, o2, o3⟩
theorem file_same {o : Ow} {R : Role → Prop} {W W' : World} {b i : Nat} {bs : List UInt8} {sf : Nat} (h : FileAt o W b i bs sf) (hs : Same o R W W') (h1 : R (.file i)) (h2 : R (.row i)) : FileAt o W' b i bs sf := by
  obtain ⟨rv, hb, hr, ho, hw⟩ := h
  exact ⟨rv, blk_same hb hs ho h1, row_same hr hs hw h2, ho, hw⟩
theorem pend_same {o : Ow} {R : Role → Prop} {W W' : World} {fb : Nat → Nat} {pv : Value} {cs : List Chg} (h : PendAt o fb W pv cs) (hs : Same o R W W') (h1 : R .pend) (h2 : R .cap) : PendAt o fb W' pv cs := by
  obtain ⟨vs, hr, hc, hw⟩ := h
  exact ⟨vs, row_same hr hs hw h1, fun i hi => by obtain ⟨v, e, hv⟩ := hc i hi; exact ⟨v, e, chg_same hv hs h2⟩, hw⟩
/-- more blocks owned, none otherwise than before -/
def Ow.le (o o' : Ow) : Prop := ∀ k r, o k = some r → o' k = some r
theorem le_set {o : Ow} {b : Nat} (r : Role) (h : o b = none ∨ o b = some r) : o.le (o.set b r) := by
  intro k t e
  by_cases hk : k = b
  · subst hk
    rcases h with h | h
    · rw [h] at e; cases e
    · rw [set_same, ← h, e]
  · rw [set_other _ _ hk]; exact e
theorem chg_le {o o' : Ow} {W : World} {fb : Nat → Nat} {v : Value} {c : Chg} (h : ChgV o fb W v c) (hl : o.le o') : ChgV o' fb W v c := by
  cases c with
  | put n k =>
    obtain ⟨l, bf, bn, e, h1, h2, o1, o2⟩ := h
    exact ⟨l, bf, bn, e, h1, h2, hl _ _ o1, hl _ _ o2⟩
  | del n =>
    obtain ⟨l, bn, e, h2, o2⟩ := h
    exact ⟨l, bn, e, h2, hl _ _ o2⟩
  | mv a b k =>
    obtain ⟨l1, l2, ba, bf, bb, e, h1, h2, h3, o1, o2, o3⟩ := h
    exact ⟨l1, l2, ba, bf, bb, e, h1, h2, h3, hl _ _ o1, hl _ _ o2, hl _ _ o3⟩
theorem file_le {o o' : Ow} {W : World} {b i : Nat} {bs : List UInt8} {sf : Nat} (h : FileAt o W b i bs sf) (hl : o.le o') : FileAt o' W b i bs sf := by
  obtain ⟨rv, hb, hr, ho, hw⟩ := h
  exact ⟨rv, hb, hr, hl _ _ ho, fun rb e => hl _ _ (hw rb e)⟩
theorem pend_le {o o' : Ow} {W : World} {fb : Nat → Nat} {pv : Value} {cs : List Chg} (h : PendAt o fb W pv cs) (hl : o.le o') : PendAt o' fb W pv cs := by
  obtain ⟨vs, hr, hc, hw⟩ := h
  exact ⟨vs, hr, fun i hi => by obtain ⟨v, e, hv⟩ := hc i hi; exact ⟨v, e, chg_le hv hl⟩, fun rb e => hl _ _ (hw rb e)⟩
/-- another owner's work leaves a disk as it was -/
theorem dkV_same {o : Ow} {g m0 m1 m2 : Nat} {pv : Value} {fb : Nat → Nat} {s : Dk} {cs : List Chg} {W W' : World} (h : DkV o g m0 m1 m2 pv fb s cs W) (hs : Same o (fun _ => True) W W') : DkV o g m0 m1 m2 pv fb s cs W' where
  blk := blk_same h.blk hs h.og trivial
  fails := fails_same h.fails hs h.o0 trivial
  seen := tbl_same h.seen hs h.o1 trivial
  safe := tbl_same h.safe hs h.o2 trivial
  pend := pend_same h.pend hs trivial trivial
  files := fun i hi => file_same (h.files i hi) hs trivial trivial
  og := h.og
  o0 := h.o0
  o1 := h.o1
  o2 := h.o2
  lt := fun k hk => Nat.lt_of_lt_of_le (h.lt k hk) hs.size
  wf := h.wf
  once := h.once
  sc := h.sc
  rm := h.rm
theorem dsk_below {o : Ow} {g : Nat} {s : Dk} {W W' : World} (h : Dsk o g s W) (hb : Below W.heap.size W W') : Dsk o g s W' := by
  obtain ⟨m0, m1, m2, pv, fb, cs, v⟩ := h
  exact ⟨m0, m1, m2, pv, fb, cs, dkV_same v (same_below hb v.lt)⟩
theorem dsk_off {o : Ow} {g : Nat} {s : Dk} {W W' : World} {S : Nat → Prop} (h : Dsk o g s W) (hb : Off S W W') (hS : ∀ k, S k → o k = none) : Dsk o g s W' := by
  obtain ⟨m0, m1, m2, pv, fb, cs, v⟩ := h
  exact ⟨m0, m1, m2, pv, fb, cs, dkV_same v (same_off hb v.lt (fun k r hk e => by rw [hS k hk] at e; cases e))⟩
theorem dsk_lt {o : Ow} {g : Nat} {s : Dk} {W : World} (h : Dsk o g s W) : ∀ k, o.has k → k < W.heap.size := by
  obtain ⟨m0, m1, m2, pv, fb, cs, v⟩ := h
  exact v.lt
/-- what a disk's own work does: its blocks alone are written, new ones may be made -/
structure Grow (o : Ow) (W : World) (o' : Ow) (W' : World) : Prop where
  off : Off o.has W W'
  le : o.le o'
  new : ∀ k, o'.has k → o.has k ∨ W.heap.size ≤ k
theorem Grow.refl (o : Ow) (W : World) : Grow o W o W := ⟨Off.refl _ _, fun _ _ e => e, fun _ h => .inl h⟩
theorem grow_below {o : Ow} {W W' : World} (h : Below W.heap.size W W') : Grow o W o W' := ⟨off_of h, fun _ _ e => e, fun _ h => .inl h⟩
theorem Grow.trans {o o' o'' : Ow} {A B C : World} (h : Grow o A o' B) (k : Grow o' B o'' C) : Grow o A o'' C :=
  ⟨h.off.trans k.off h.new, fun i r e => k.le i r (h.le i r e), fun i hi => by
    rcases k.new i hi with h1 | h1
    · exact h.new i h1
    · exact .inr (Nat.le_trans h.off.size h1)⟩
/-- eight cells of a block -/
theorem cells_eight {b : Nat} {W : World} {v0 v1 v2 v3 v4 v5 v6 v7 : Value} (h : Blk b W [v0, v1, v2, v3, v4, v5, v6, v7]) : (W.cell? ⟨b, 0, none⟩ = some v0 ∧ W.cell? ⟨b, 1, none⟩ = some v1 ∧ W.cell? ⟨b, 2, none⟩ = some v2 ∧ W.cell? ⟨b, 3, none⟩ = some v3 ∧ W.cell? ⟨b, 4, none⟩ = some v4 ∧ W.cell? ⟨b, 5, none⟩ = some v5 ∧ W.cell? ⟨b, 6, none⟩ = some v6 ∧ W.cell? ⟨b, 7, none⟩ = some v7) ∧ (W.frozen? ⟨b, 3, none⟩ = false ∧ W.frozen? ⟨b, 4, none⟩ = false ∧ W.frozen? ⟨b, 7, none⟩ = false) :=
  ⟨⟨(h.1 0 (by simp)).1, (h.1 1 (by simp)).1, (h.1 2 (by simp)).1, (h.1 3 (by simp)).1, (h.1 4 (by simp)).1, (h.1 5 (by simp)).1, (h.1 6 (by simp)).1, (h.1 7 (by simp)).1⟩, ⟨(h.1 3 (by simp)).2, (h.1 4 (by simp)).2, (h.1 7 (by simp)).2⟩⟩
theorem cells_3 {b : Nat} {W : World} {v0 v1 v2 : Value} (h : Blk b W [v0, v1, v2]) : (W.cell? ⟨b, 0, none⟩ = some v0 ∧ W.cell? ⟨b, 1, none⟩ = some v1 ∧ W.cell? ⟨b, 2, none⟩ = some v2) ∧ (W.frozen? ⟨b, 0, none⟩ = false ∧ W.frozen? ⟨b, 1, none⟩ = false ∧ W.frozen? ⟨b, 2, none⟩ = false) :=
  ⟨⟨(h.1 0 (by simp)).1, (h.1 1 (by simp)).1, (h.1 2 (by simp)).1⟩, ⟨(h.1 0 (by simp)).2, (h.1 1 (by simp)).2, (h.1 2 (by simp)).2⟩⟩
theorem key_str {s : ByteArray} (hs : s.size ≤ 140737488351232) : keyOf Try.prog 9 (.string s) = some (.string s.data.toList) := keyOf_string_mk Try.underlying9 (by unfold maxLen; omega)
theorem look_some {W : World} {m : Nat} {fb : Nat → Nat} {l : NL} (h : Tbl W m fb l) {s : ByteArray} (hs : s.size ≤ 140737488351232) {k : Nat} (ha : atN l s.data.toList = some k) :
    (Instr.lookup 67 (.map (some m)) (.string s) true).run Try.prog W = .ok (.tuple #[.pointer (some ⟨fb k, 0, none⟩), .bool true]) W := by
  obtain ⟨v, ps, h1, h2⟩ := World.ownsMap.look_ok h kStr Try.underlying67 (zeroP W) pel_nil (key_str hs)
  rw [dOf_some ha] at h2
  rw [dOf_has, ha] at h1
  rw [h1, pel_lit h2]
  rfl
theorem look_none {W : World} {m : Nat} {fb : Nat → Nat} {l : NL} (h : Tbl W m fb l) {s : ByteArray} (hs : s.size ≤ 140737488351232) (ha : atN l s.data.toList = none) :
    (Instr.lookup 67 (.map (some m)) (.string s) true).run Try.prog W = .ok (.tuple #[.pointer none, .bool false]) W := by
  obtain ⟨v, ps, h1, h2⟩ := World.ownsMap.look_ok h kStr Try.underlying67 (zeroP W) pel_nil (key_str hs)
  rw [dOf_none ha] at h2
  rw [dOf_has, ha] at h1
  rcases pel_inv h2 with ⟨e, _⟩ | ⟨c, _, e⟩
  · rw [h1, e]; rfl
  · simp at e
theorem look_one {W : World} {m : Nat} {fb : Nat → Nat} {l : NL} (h : Tbl W m fb l) {s : ByteArray} (hs : s.size ≤ 140737488351232) {k : Nat} (ha : atN l s.data.toList = some k) :
    (Instr.lookup 67 (.map (some m)) (.string s) false).run Try.prog W = .ok (.pointer (some ⟨fb k, 0, none⟩)) W := by
  obtain ⟨v, ps, h1, h2⟩ := World.ownsMap.lookup h kStr Try.underlying67 (zeroP W) pel_nil (key_str hs)
  rw [dOf_some ha] at h2
  rw [h1, pel_lit h2]
theorem look_fails {W : World} {m : Nat} {fs : List Int} (h : FailsAt W m fs) {i : Int} (hi : -9223372036854775808 ≤ i ∧ i ≤ 9223372036854775807) :
    (Instr.lookup 65 (.map (some m)) (.int .i64 i) true).run Try.prog W = .ok (.tuple #[.agg #[], .bool (decide (i ∈ fs))]) W := by
  obtain ⟨n, D, h0, hh⟩ := h
  obtain ⟨v, ps, h1, h2⟩ := World.ownsMap.look_ok h0 kInt Try.underlying65 (zeroU W) unitElem_mk (keyOf_int_mk (a := i) Try.underlying3 (by unfold Lit.wf; simp only [Bool.and_eq_true, decide_eq_true_eq]; exact hi))
  obtain ⟨e, _⟩ := unitElem_inv h2
  rw [h1, e, hh]
end Go.Proofs.Ytaklfiipkjfjdaa
