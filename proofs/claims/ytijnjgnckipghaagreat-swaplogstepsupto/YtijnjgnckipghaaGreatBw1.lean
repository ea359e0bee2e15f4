/- Small things that every text uses. A row of bytes that a call itself made: one more byte appended to it, and its conversion to a string. A slice whose elements are these bytes. A row of texts that a call itself made: one more text appended to it, and what it holds in later worlds; the contract of SameTexts. Rows that are owned, beside blocks that are written. A block of any number of cells that may be written (a struct of several parts). Worlds that tell less: what is read in one is read in those that tell more; the blocks of one owner hidden; who owns which block. Plain: a table of names as a map reads; changes of names, one behind the other; names in their order, sorted. A disk in memory: its block, its tables, its files, its pending changes; what is as it was where other blocks are written. -/
import Derived.Test.YtijnjgnckipghaaGreatPlain
import Derived.Test.YtijnjgnckipghaaGreatRows
import Derived.Handy
import Derived.Deep.QuietTactic
import Derived.BigQuiet
import Derived.Maps.OwnSet
import Derived.Test.YtijnjgnckipghaaGreatBdA
import Derived.Maps.Ext
import Derived.Sort.KeysCollected
import Derived.StringKeys
namespace Go.Proofs.YtijnjgnckipghaaGreat
open Go.RowKit
theorem hide' {p : Prop} (h : p) : Hid p := h
theorem size_l (l : List UInt8) : (⟨l.toArray⟩ : ByteArray).size = l.length := by show l.toArray.size = _; rw [List.size_toArray]
theorem bcell {W w1 : World} (hb : Below W.heap.size W w1) : (∀ b o, b < W.heap.size → w1.cell? ⟨b, o, none⟩ = W.cell? ⟨b, o, none⟩) ∧ (∀ b o, b < W.heap.size → w1.frozen? ⟨b, o, none⟩ = W.frozen? ⟨b, o, none⟩) :=
  ⟨fun b o h => hb.cell (p := ⟨b, o, none⟩) h, fun b o h => hb.frozen (p := ⟨b, o, none⟩) h⟩
theorem below_alloc' (w : World) (o : Obj) : Below w.heap.size w (w.alloc o) := (Below.refl _ _).alloc (Nat.le_refl _) _
abbrev FL := List (List UInt8 × List UInt8)
end Go.Proofs.YtijnjgnckipghaaGreat
namespace Go.Proofs.YtijnjgnckipghaaGreat
open Go.RowKit
theorem Tryz.info5 : (Tryz.prog.info? 5).map (fun i => (i.zero, i.size, i.bytes)) = some (some (.int .u8 0), 1, 1) := by kernel_rfl
theorem load_own (w : World) (base g cap : Nat) (bs : List UInt8) (h : w.ownsRow base 5 1 (.slice (some ⟨g, 0, none⟩) bs.length cap) bs.length (bs.map B)) :
    (loadCells ⟨g, 0, none⟩ bs.length).run Tryz.prog w = .ok ((bs.map (fun c => (c.toNat : Int))).map (Value.int .u8)).toArray w := by
  have := run_loadCells_list (P := Tryz.prog) (w := w) ⟨g, 0, none⟩ (bs.map B) (fun j v hv => h.cells rfl j v hv)
  simpa [map_B] using this
theorem conv_own (w : World) (base g cap : Nat) (bs : List UInt8) (h : w.ownsRow base 5 1 (.slice (some ⟨g, 0, none⟩) bs.length cap) bs.length (bs.map B)) :
    Sem.run Tryz.prog (convert 67 9 (.slice (some ⟨g, 0, none⟩) bs.length cap)) w = .ok (.string ⟨bs.toArray⟩) w := by
  rw [run_convert_bytes_string w 67 9 5 _ _ _ Tryz.underlying67 Tryz.underlying5 Tryz.underlying9, run_bytesToString w _ _ _ _ (load_own w base g cap bs h), fold_push]
  simp
theorem conv_nil (w : World) :
    Sem.run Tryz.prog (convert 67 9 (.slice none 0 0)) w = .ok (.string ⟨#[]⟩) w := by
  rw [run_convert_bytes_string w 67 9 5 _ _ _ Tryz.underlying67 Tryz.underlying5 Tryz.underlying9]
  unfold Conv.bytesToString
  simp [Sem.run_pure]
  rfl
/-- v holds just the bytes bs, in a row of the call's own; what lay below is as it was -/
def Own (w0 : World) (v : Value) (bs : List UInt8) (w : World) : Prop := w.ownsRow w0.heap.size 5 1 v bs.length (bs.map B) ∧ Below w0.heap.size w0 w
theorem own_nil (w0 w : World) (h : Below w0.heap.size w0 w) : Own w0 (.slice none 0 0) [] w := ⟨World.ownsRow_nil _ _ _ _, h⟩
theorem own_lit (w0 : World) (c : UInt8) (n : Int) (hn : n = (c.toNat : Int)) : Own w0 (.slice (some ⟨w0.heap.size, 0, none⟩) 1 1) [c] (w0.alloc (.cells #[.int .u8 n] 5)) := by
  subst hn
  exact ⟨World.ownsRow_lit w0 #[.int .u8 (c.toNat : Int)] 1 (Nat.le_refl _) (by decide) rfl, (Below.refl _ _).alloc (Nat.le_refl _) _⟩
theorem app1 {ops : Array Oper} {rest : List Oper} {o : Oper} {a : Act} {Q : Exit → Act → World → Prop} {wr : World} {n : Int} (hgd : o.guard = none) (s x : Operand)
    (ho : o.op = .call { callee := .builtin .append, args := #[s, x], argTypes := #[67, 67] }) (w0 : World) (v : Value) (bs : List UInt8) (hs : a.eval s = v) (hown : Own w0 v bs wr)
    (c : UInt8) (hn : n = (c.toNat : Int)) (hx : a.eval x = .slice (some ⟨wr.heap.size, 0, none⟩) 1 1) (hlen : bs.length + 1 ≤ 140737488355328)
    (h : ∀ v' w', Own w0 v' (bs ++ [c]) w' → wpList Tryz.prog ops Q rest (a.put o.dst v') w') : wpList Tryz.prog ops Q (o :: rest) a (wr.alloc (.cells #[.int .u8 n] 5)) := by
  subst hn
  obtain ⟨i0, hi, hz0, hz1, hz2⟩ := info_parts Tryz.info5
  have hsz := hown.2.size
  refine wpList_append_own _ hgd s x 67 ho w0.heap.size 5 i0 (.int .u8 0) 1 1 Tryz.underlying67 hi hz0 hz1 hz2 rfl (by decide) v bs.length (bs.map B) hs (hown.1.alloc _) ⟨wr.heap.size, 0, none⟩ 1 1 [B c] hx rfl ?_ ?_ ?_ ?_ ?_ ?_
  · intro j u hj
    match j, hj with
    | 0, hj => simp at hj; subst hj; simp [Addr.add, B]
  · intro u hu; simp at hu; subst hu; rfl
  · unfold maxLen; omega
  · omega
  · simp; omega
  · intro v' w' h1 h2 _
    refine h v' w' ⟨by simpa using h1, ?_⟩
    refine Below.grown (hown.2.alloc (by omega) _) h2 (by simp; omega) ?_
    intro k hk
    exact (hown.1.lt k hk).1
theorem own_conv {w0 w : World} {v : Value} {bs : List UInt8} (h : Own w0 v bs w) : Sem.run Tryz.prog (convert 67 9 v) w = .ok (.string ⟨bs.toArray⟩) w := by
  rcases h.1.2 with ⟨rfl, hn⟩ | ⟨g, cap, cur, rfl, _⟩
  · obtain rfl : bs = [] := List.eq_nil_of_length_eq_zero hn
    exact conv_nil w
  · exact conv_own w _ g cap bs h.1
theorem extract_list (s : ByteArray) (a b : Nat) : (s.extract a b).data.toList = (s.data.toList.drop a).take (b - a) := by
  simp [ByteArray.data_extract, List.extract_eq_take_drop]
theorem own_empty (w0 : World) : Own w0 (.slice (some ⟨w0.heap.size, 0, none⟩) 0 0) [] (w0.alloc (.cells #[] 5)) :=
  ⟨World.ownsRow_lit w0 #[] 0 (Nat.le_refl _) (by decide) rfl, (Below.refl _ _).alloc (Nat.le_refl _) _⟩
end Go.Proofs.YtijnjgnckipghaaGreat
namespace Go.Proofs.YtijnjgnckipghaaGreat
open Go.RowKit
/-- v is a slice whose elements are the bytes bs -/
def HoldsB (w : World) (v : Value) (bs : List UInt8) : Prop :=
  ∃ ao cap, v = .slice ao bs.length cap ∧ (ao = none → cap = 0) ∧ bs.length ≤ cap ∧ (bs ≠ [] → ∃ b off, ao = some ⟨b, off, none⟩ ∧ b < w.heap.size ∧ ∀ j (h : j < bs.length), w.cell? ⟨b, off + j, none⟩ = some (B bs[j]))
theorem holdsB_own {w0 w : World} {v : Value} {bs : List UInt8} (h : Own w0 v bs w) : HoldsB w v bs := by
  obtain ⟨hl, h1 | ⟨g, cap, cur, rfl, hg, hh, hr⟩⟩ := h.1
  · obtain ⟨rfl, hn⟩ := h1
    obtain rfl : bs = [] := List.eq_nil_of_length_eq_zero hn
    exact ⟨none, 0, rfl, fun _ => rfl, Nat.le_refl _, fun h => absurd rfl h⟩
  · refine ⟨_, cap, rfl, fun e => (by cases e), hr.1, fun _ => ⟨g, 0, rfl, (h.1.lt g rfl).2, fun j hj => ?_⟩⟩
    rw [Nat.zero_add, h.1.cellAt j (by omega)]
    simp [hj]
theorem holdsB_mono {w w' : World} {v : Value} {bs : List UInt8} (h : HoldsB w v bs) (hb : Below w.heap.size w w') : HoldsB w' v bs := by
  obtain ⟨ao, cap, rfl, h0, hcp, hc⟩ := h
  refine ⟨ao, cap, rfl, h0, hcp, fun hne => ?_⟩
  obtain ⟨b, off, rfl, hlt, hcell⟩ := hc hne
  have := hb.size
  exact ⟨b, off, rfl, by omega, fun j hj => by rw [hb.cell (p := ⟨b, off + j, none⟩) hlt]; exact hcell j hj⟩
theorem holdsB_pre {w : World} {ao : Option Addr} {cap : Nat} {bs : List UInt8} (h : HoldsB w (.slice ao bs.length cap) bs) (i : Nat) (hi : i ≤ bs.length) : HoldsB w (.slice ao i cap) (bs.take i) := by
  obtain ⟨ao', cap', e, h0, hcp, hc⟩ := h
  simp only [Value.slice.injEq] at e
  obtain ⟨rfl, _, rfl⟩ := e
  have hl : (bs.take i).length = i := by rw [List.length_take]; omega
  refine ⟨ao, cap, by rw [hl], h0, by omega, fun hne => ?_⟩
  obtain ⟨b, off, rfl, hlt, hcell⟩ := hc (fun e => hne (by rw [e]; simp))
  exact ⟨b, off, rfl, hlt, fun j hj => by rw [hcell j (by omega)]; simp⟩
end Go.Proofs.YtijnjgnckipghaaGreat
namespace Go.Proofs.YtijnjgnckipghaaGreat
open Go.RowKit
/-- a text as the cell that holds it -/
def S (l : List UInt8) : Value := .string ⟨l.toArray⟩
theorem Tryz.info9 : (Tryz.prog.info? 9).map (fun i => (i.zero, i.size, i.bytes)) = some (some (.string ⟨#[]⟩), 1, 16) := by kernel_rfl
/-- v holds just the texts ss, in a row of the call's own; what lay below is as it was -/
def OwnS (w0 : World) (v : Value) (ss : List (List UInt8)) (w : World) : Prop := w.ownsRow w0.heap.size 9 1 v ss.length (ss.map S) ∧ Below w0.heap.size w0 w
theorem ownS_nil (w0 w : World) (h : Below w0.heap.size w0 w) : OwnS w0 (.slice none 0 0) [] w := ⟨World.ownsRow_nil _ _ _ _, h⟩
theorem ownS_empty (w0 : World) : OwnS w0 (.slice (some ⟨w0.heap.size, 0, none⟩) 0 0) [] (w0.alloc (.cells #[] 9)) :=
  ⟨World.ownsRow_lit w0 #[] 0 (Nat.le_refl _) (by decide) rfl, (Below.refl _ _).alloc (Nat.le_refl _) _⟩
theorem ownS_mono {w0 w w' : World} {v : Value} {ss : List (List UInt8)} (h : OwnS w0 v ss w) (hb : Below w.heap.size w w') : OwnS w0 v ss w' := by
  have hz := h.2.size
  refine ⟨?_, h.2.trans (hb.mono hz)⟩
  obtain ⟨hl, h1 | ⟨g, cap, cur, rfl, hg, hh, hr⟩⟩ := h.1
  · exact ⟨hl, .inl h1⟩
  · have hlt : g < w.heap.size := by
      rcases Nat.lt_or_ge g w.heap.size with h | h
      · exact h
      · rw [Array.getElem?_eq_none (by omega)] at hh; cases hh
    exact ⟨hl, .inr ⟨g, cap, cur, rfl, hg, by rw [hb.block g hlt]; exact hh, hr⟩⟩
theorem appS {ops : Array Oper} {rest : List Oper} {o : Oper} {a : Act} {Q : Exit → Act → World → Prop} {wr : World} {t : ByteArray} (hgd : o.guard = none) (s x : Operand)
    (ho : o.op = .call { callee := .builtin .append, args := #[s, x], argTypes := #[79, 79] }) (w0 : World) (v : Value) (ss : List (List UInt8)) (hs : a.eval s = v) (hown : OwnS w0 v ss wr)
    (l : List UInt8) (ht : t = ⟨l.toArray⟩) (hx : a.eval x = .slice (some ⟨wr.heap.size, 0, none⟩) 1 1) (hlen : (ss.length + 1) * 16 ≤ 140737488355328)
    (h : ∀ v' w', OwnS w0 v' (ss ++ [l]) w' → wpList Tryz.prog ops Q rest (a.put o.dst v') w') : wpList Tryz.prog ops Q (o :: rest) a (wr.alloc (.cells #[.string t] 9)) := by
  subst ht
  obtain ⟨i0, hi, hz0, hz1, hz2⟩ := info_parts Tryz.info9
  have hsz := hown.2.size
  refine wpList_append_own _ hgd s x 79 ho w0.heap.size 9 i0 (.string ⟨#[]⟩) 1 16 Tryz.underlying79 hi hz0 hz1 hz2 rfl (by decide) v ss.length (ss.map S) hs (hown.1.alloc _) ⟨wr.heap.size, 0, none⟩ 1 1 [S l] hx rfl ?_ ?_ ?_ ?_ ?_ ?_
  · intro j u hj
    match j, hj with
    | 0, hj => simp at hj; subst hj; simp [Addr.add, S]
  · intro u hu; simp at hu; subst hu; rfl
  · unfold maxLen; omega
  · omega
  · simp; omega
  · intro v' w' h1 h2 _
    refine h v' w' ⟨by simpa using h1, ?_⟩
    refine Below.grown (hown.2.alloc (by omega) _) h2 (by simp; omega) ?_
    intro k hk
    exact (hown.1.lt k hk).1
/-- v is a slice whose elements are the texts ss -/
def Holds (w : World) (v : Value) (ss : List (List UInt8)) : Prop :=
  ∃ ao cap, v = .slice ao ss.length cap ∧ (ss ≠ [] → ∃ b off, ao = some ⟨b, off, none⟩ ∧ b < w.heap.size ∧ ∀ j (h : j < ss.length), w.cell? ⟨b, off + j, none⟩ = some (S ss[j]))
theorem holds_own {w0 w : World} {v : Value} {ss : List (List UInt8)} (h : OwnS w0 v ss w) : Holds w v ss := by
  obtain ⟨hl, h1 | ⟨g, cap, cur, rfl, hg, hh, hr⟩⟩ := h.1
  · obtain ⟨rfl, hn⟩ := h1
    obtain rfl : ss = [] := List.eq_nil_of_length_eq_zero hn
    exact ⟨none, 0, rfl, fun h => absurd rfl h⟩
  · refine ⟨_, cap, rfl, fun _ => ⟨g, 0, rfl, (h.1.lt g rfl).2, fun j hj => ?_⟩⟩
    rw [Nat.zero_add, h.1.cellAt j (by omega)]
    simp [hj]
theorem holds_mono {w w' : World} {v : Value} {ss : List (List UInt8)} (h : Holds w v ss) (hb : Below w.heap.size w w') : Holds w' v ss := by
  obtain ⟨ao, cap, rfl, hc⟩ := h
  refine ⟨ao, cap, rfl, fun hne => ?_⟩
  obtain ⟨b, off, rfl, hlt, hcell⟩ := hc hne
  have := hb.size
  exact ⟨b, off, rfl, by omega, fun j hj => by rw [hb.cell (p := ⟨b, off + j, none⟩) hlt]; exact hcell j hj⟩
theorem holds_lit3 (w : World) (x y z : List UInt8) : Holds (w.alloc (.cells #[S x, S y, S z] 9)) (.slice (some ⟨w.heap.size, 0, none⟩) 3 3) [x, y, z] := by
  refine ⟨_, 3, rfl, fun _ => ⟨w.heap.size, 0, rfl, by simp, fun j hj => ?_⟩⟩
  match j, hj with
  | 0, _ => simp
  | 1, _ => simp
  | 2, _ => simp
theorem holds_lit1 (w : World) (x : List UInt8) : Holds (w.alloc (.cells #[S x] 9)) (.slice (some ⟨w.heap.size, 0, none⟩) 1 1) [x] := by
  refine ⟨_, 1, rfl, fun _ => ⟨w.heap.size, 0, rfl, by simp, fun j hj => ?_⟩⟩
  match j, hj with
  | 0, _ => simp
theorem ownS_base {w w1 w2 : World} {v : Value} {ss : List (List UInt8)} (h : OwnS w1 v ss w2) (hb : Below w.heap.size w w1) : OwnS w v ss w2 := by
  have hz := hb.size
  refine ⟨?_, hb.trans (h.2.mono hz)⟩
  obtain ⟨hl, h1 | ⟨g, cap, cur, hv, hg, hr⟩⟩ := h.1
  · exact ⟨hl, .inl h1⟩
  · exact ⟨hl, .inr ⟨g, cap, cur, hv, by omega, hr⟩⟩
theorem below_drawn {B : Nat} {a w : World} (h : Below B a w) (n : Nat) : Below B a (w.drewN n) := by
  induction n with
  | zero => exact h
  | succ n ih => exact ih.drew
theorem below_drewN (w : World) (n : Nat) : Below w.heap.size w (w.drewN n) := by
  induction n with
  | zero => exact Below.refl _ _
  | succ n ih => exact ih.drew
end Go.Proofs.YtijnjgnckipghaaGreat
namespace Go.Proofs.YtijnjgnckipghaaGreat
open Go.RowKit
theorem row_poke {W : World} {base k n b o : Nat} {t : TypeId} {v x : Value} {cs : List Value} (h : W.ownsRow base t k v n cs) (hb : b < base) : (W.setCell ⟨b, o, none⟩ x).ownsRow base t k v n cs := by
  obtain ⟨hl, h1 | ⟨g, cap, cur, hv, hg, hh, hr⟩⟩ := h
  · exact ⟨hl, .inl h1⟩
  · exact ⟨hl, .inr ⟨g, cap, cur, hv, hg, by rw [heap_setCell_other _ _ _ _ (by show g ≠ b; omega)]; exact hh, hr⟩⟩
theorem row_below {W W' : World} {base k n : Nat} {t : TypeId} {v : Value} {cs : List Value} (h : W.ownsRow base t k v n cs) (hb : Below W.heap.size W W') : W'.ownsRow base t k v n cs := by
  obtain ⟨hl, h1 | ⟨g, cap, cur, hv, hg, hh, hr⟩⟩ := h
  · exact ⟨hl, .inl h1⟩
  · have hlt : g < W.heap.size := by
      rcases Nat.lt_or_ge g W.heap.size with h | h
      · exact h
      · rw [Array.getElem?_eq_none (by omega)] at hh; cases hh
    exact ⟨hl, .inr ⟨g, cap, cur, hv, hg, by rw [hb.block g hlt]; exact hh, hr⟩⟩
theorem row_base {W : World} {base base' k n : Nat} {t : TypeId} {v : Value} {cs : List Value} (h : W.ownsRow base t k v n cs) (hb : base' ≤ base) : W.ownsRow base' t k v n cs := by
  obtain ⟨hl, h1 | ⟨g, cap, cur, hv, hg, hh, hr⟩⟩ := h
  · exact ⟨hl, .inl h1⟩
  · exact ⟨hl, .inr ⟨g, cap, cur, hv, by omega, hh, hr⟩⟩
end Go.Proofs.YtijnjgnckipghaaGreat
namespace Go.Proofs.YtijnjgnckipghaaGreat
open Go.RowKit
/-- block b's first cells hold vs, and may be written -/
def Blk (b : Nat) (W : World) (vs : List Value) : Prop := (∀ j (h : j < vs.length), W.cell? ⟨b, j, none⟩ = some vs[j] ∧ W.frozen? ⟨b, j, none⟩ = false) ∧ b < W.heap.size
theorem cells_below {b : Nat} {W W' : World} {vs : List Value} (h : Blk b W vs) (hb : Below W.heap.size W W') : Blk b W' vs :=
  ⟨fun j hj => ⟨by rw [hb.cell (p := ⟨b, j, none⟩) h.2]; exact (h.1 j hj).1, by rw [hb.frozen (p := ⟨b, j, none⟩) h.2]; exact (h.1 j hj).2⟩, Nat.lt_of_lt_of_le h.2 hb.size⟩
theorem cells_base {b base : Nat} {W W' : World} {vs : List Value} (h : Blk b W vs) (hb : Below base W W') (hlt : b < base) : Blk b W' vs :=
  ⟨fun j hj => ⟨by rw [hb.cell (p := ⟨b, j, none⟩) hlt]; exact (h.1 j hj).1, by rw [hb.frozen (p := ⟨b, j, none⟩) hlt]; exact (h.1 j hj).2⟩, Nat.lt_of_lt_of_le h.2 hb.size⟩
theorem cells_lit (w : World) (cs : Array Value) (t : TypeId) : Blk w.heap.size (w.alloc (.cells cs t)) cs.toList := by
  refine ⟨fun j hj => ⟨?_, ?_⟩, by simp⟩
  · unfold World.cell?
    rw [heap_alloc_new]
    have hj' : j < cs.size := by simpa using hj
    simp [hj']
  · unfold World.frozen?
    rw [heap_alloc_new]
    simp
/-- one cell written -/
theorem cells_set {b j : Nat} {W : World} {vs : List Value} (h : Blk b W vs) (hj : j < vs.length) (x : Value) : Blk b (W.setCell ⟨b, j, none⟩ x) (vs.set j x) := by
  refine ⟨fun i hi => ⟨?_, by simpa using (h.1 i (by simpa using hi)).2⟩, by simpa using h.2⟩
  rw [List.length_set] at hi
  by_cases e : i = j
  · subst e
    rw [World.cell?_setCell_same _ _ _ (h.1 i hj).1, List.getElem_set_self]
  · rw [World.cell?_setCell_other _ _ _ _ (by first | (simp; omega) | simp), (h.1 i hi).1, List.getElem_set_ne (by omega)]
/-- a cell of another block written -/
theorem cells_other {b c o : Nat} {W : World} {vs : List Value} (h : Blk b W vs) (hne : b ≠ c) (x : Value) : Blk b (W.setCell ⟨c, o, none⟩ x) vs := by
  refine ⟨fun i hi => ⟨?_, by simpa using (h.1 i hi).2⟩, by simpa using h.2⟩
  have e : (W.setCell ⟨c, o, none⟩ x).cell? ⟨b, i, none⟩ = W.cell? ⟨b, i, none⟩ := by simp [World.cell?, heap_setCell_other W ⟨c, o, none⟩ b x hne]
  rw [e]
  exact (h.1 i hi).1
/-- many cells written, one behind the other -/
def putFrom (b : Nat) : Nat → World → List Value → World
  | _, W, [] => W
  | o, W, v :: r => putFrom b (o + 1) (W.setCell ⟨b, o, none⟩ v) r
theorem cells_putFrom {b : Nat} : ∀ (vs : List Value) (o : Nat) (W : World) (us : List Value), Blk b W us → o + vs.length ≤ us.length → Blk b (putFrom b o W vs) (us.take o ++ vs ++ us.drop (o + vs.length)) := by
  intro vs
  induction vs with
  | nil =>
    intro o W us h hl
    simp only [putFrom, List.append_nil, List.length_nil, Nat.add_zero]
    rw [List.take_append_drop]
    exact h
  | cons v r ih =>
    intro o W us h hl
    rw [List.length_cons] at hl
    have h1 := ih (o + 1) _ _ (cells_set h (show o < us.length by omega) v) (by rw [List.length_set]; omega)
    have e1 : (us.set o v).take (o + 1) = us.take o ++ [v] := by
      rw [List.take_succ_eq_append_getElem (by rw [List.length_set]; omega), List.getElem_set_self, List.take_set_of_le (Nat.le_refl _)]
    have e2 : (us.set o v).drop (o + 1 + r.length) = us.drop (o + (v :: r).length) := by
      rw [List.drop_set_of_lt (by omega), List.length_cons]
      congr 1
      omega
    rw [e1, e2] at h1
    show Blk b (putFrom b (o + 1) (W.setCell ⟨b, o, none⟩ v) r) _
    have e3 : us.take o ++ v :: r ++ us.drop (o + (v :: r).length) = us.take o ++ [v] ++ r ++ us.drop (o + (v :: r).length) := by simp
    rw [e3]
    exact h1
theorem cells_put {b : Nat} {W : World} {us : List Value} (h : Blk b W us) (vs : List Value) (hl : vs.length = us.length) : Blk b (putFrom b 0 W vs) vs := by
  have h1 := cells_putFrom vs 0 W us h (by omega)
  rw [List.take_zero, List.nil_append, Nat.zero_add, List.drop_eq_nil_of_le (by omega), List.append_nil] at h1
  exact h1
theorem put_below {w : World} {b : Nat} (hb : w.heap.size ≤ b) : ∀ (vs : List Value) (o : Nat) (W : World), Below w.heap.size w W → Below w.heap.size w (putFrom b o W vs) := by
  intro vs
  induction vs with
  | nil => intro o W h; exact h
  | cons v r ih => intro o W h; exact ih (o + 1) _ (h.setCell hb v)
theorem row_putFrom {base k n b : Nat} {t : TypeId} {v : Value} {cs : List Value} (hb : b < base) : ∀ (vs : List Value) (o : Nat) (W : World), W.ownsRow base t k v n cs → (putFrom b o W vs).ownsRow base t k v n cs := by
  intro vs
  induction vs with
  | nil => intro o W h; exact h
  | cons x r ih => intro o W h; exact ih (o + 1) _ (row_poke h hb)
end Go.Proofs.YtijnjgnckipghaaGreat
namespace Go.Proofs.YtijnjgnckipghaaGreat
open Go.RowKit
/-- what M tells, W tells -/
structure Sub (M W : World) : Prop where
  size : M.heap.size ≤ W.heap.size
  cell : ∀ a v, M.cell? a = some v → W.cell? a = some v
theorem Sub.refl (W : World) : Sub W W := ⟨Nat.le_refl _, fun _ _ h => h⟩
theorem Sub.trans {A B C : World} (h : Sub A B) (k : Sub B C) : Sub A C := ⟨Nat.le_trans h.size k.size, fun a v e => k.cell a v (h.cell a v e)⟩
theorem cell_lt {W : World} {a : Addr} {v : Value} (h : W.cell? a = some v) : a.block < W.heap.size := by
  rcases Nat.lt_or_ge a.block W.heap.size with h1 | h1
  · exact h1
  · unfold World.cell? at h
    rw [Array.getElem?_eq_none h1] at h
    cases h
theorem sub_blocks {M W : World} (hs : M.heap.size ≤ W.heap.size) (h : ∀ k, k < M.heap.size → W.heap[k]? = M.heap[k]?) : Sub M W :=
  ⟨hs, fun a v e => by rw [World.cell?_of_block (w := M) (h _ (cell_lt e))]; exact e⟩
theorem sub_below {M W : World} (h : Below M.heap.size M W) : Sub M W := sub_blocks h.size h.block
open Classical in
/-- the world with the blocks of S hidden -/
noncomputable def mask (S : Nat → Prop) (W : World) : World := { W with heap := W.heap.mapIdx (fun i o => if S i then .cells #[] 0 else o) }
theorem mask_size (S : Nat → Prop) (W : World) : (mask S W).heap.size = W.heap.size := by unfold mask; simp
theorem mask_block {S : Nat → Prop} (W : World) {k : Nat} (h : ¬ S k) : (mask S W).heap[k]? = W.heap[k]? := by
  unfold mask
  simp only [Array.getElem?_mapIdx, h, if_false]
  cases W.heap[k]? <;> rfl
theorem mask_hid {S : Nat → Prop} (W : World) {a : Addr} (h : S a.block) : (mask S W).cell? a = none := by
  unfold World.cell? mask
  simp only [Array.getElem?_mapIdx, h, if_true]
  cases W.heap[a.block]? with
  | none => rfl
  | some o => simp
theorem mask_cell {S : Nat → Prop} (W : World) {a : Addr} (h : ¬ S a.block) : (mask S W).cell? a = W.cell? a := World.cell?_of_block (mask_block W h)
theorem mask_not {S : Nat → Prop} {W : World} {a : Addr} {v : Value} (h : (mask S W).cell? a = some v) : ¬ S a.block := fun hs => by rw [mask_hid W hs] at h; cases h
theorem mask_sub (S : Nat → Prop) (W : World) : Sub (mask S W) W := ⟨by rw [mask_size]; exact Nat.le_refl _, fun a v h => by rw [← mask_cell W (mask_not h)]; exact h⟩
/-- blocks that are as they were, but for those of S -/
structure Off (S : Nat → Prop) (W W' : World) : Prop where
  os : W'.os = W.os
  tape : W'.tape = W.tape
  output : W'.output = W.output
  size : W.heap.size ≤ W'.heap.size
  block : ∀ k, k < W.heap.size → ¬ S k → W'.heap[k]? = W.heap[k]?
theorem Off.refl (S : Nat → Prop) (W : World) : Off S W W := ⟨rfl, rfl, rfl, Nat.le_refl _, fun _ _ _ => rfl⟩
theorem off_of {S : Nat → Prop} {W W' : World} (h : Below W.heap.size W W') : Off S W W' := ⟨h.os, h.tape, h.output, h.size, fun k hk _ => h.block k hk⟩
theorem off_grown {S : Nat → Prop} {W W' : World} {row : Option Nat} (h : W.grownBy W' row) (hr : ∀ k, row = some k → S k) : Off S W W' :=
  ⟨h.os, h.tape, h.output, h.size, fun k hk hn => h.block k hk (fun e => hn (hr k e.symm))⟩
theorem off_poke {S : Nat → Prop} {W : World} (a : Addr) (h : S a.block) (u : Value) : Off S W (W.setCell a u) :=
  ⟨rfl, rfl, rfl, by simp [World.setCell], fun k _ hn => Below.heap_setCell _ _ _ _ (fun e => hn (by rw [e]; exact h))⟩
theorem off_alloc {S : Nat → Prop} {W : World} (o : Obj) : Off S W (W.alloc o) := off_of ((Below.refl _ _).alloc (Nat.le_refl _) _)
theorem Off.trans {S S' : Nat → Prop} {A B C : World} (h : Off S A B) (k : Off S' B C) (hS : ∀ i, S' i → S i ∨ A.heap.size ≤ i) : Off S A C :=
  ⟨k.os.trans h.os, k.tape.trans h.tape, k.output.trans h.output, Nat.le_trans h.size k.size, fun i hi hn => by
    rw [k.block i (Nat.lt_of_lt_of_le hi h.size) (fun e => by rcases hS i e with h1 | h1; exact hn h1; omega)]
    exact h.block i hi hn⟩
theorem Off.mono {S T : Nat → Prop} {A B : World} (h : Off S A B) (hS : ∀ i, S i → T i) : Off T A B := ⟨h.os, h.tape, h.output, h.size, fun k hk hn => h.block k hk (fun e => hn (hS k e))⟩
theorem Off.below {S : Nat → Prop} {W W' : World} (h : Off S W W') {C : Nat} (hC : C ≤ W.heap.size) (hS : ∀ k, S k → C ≤ k) : Below C W W' :=
  ⟨h.os, h.tape, h.output, h.size, fun k hk => h.block k (by omega) (fun e => by have := hS k e; omega)⟩
theorem off_mask {S S' : Nat → Prop} {W W' : World} (h : Off S W W') (hS : ∀ k, S' k → S k ∨ W.heap.size ≤ k) : Sub (mask S W) (mask S' W') := by
  refine ⟨by rw [mask_size, mask_size]; exact h.size, fun a v e => ?_⟩
  have h1 := mask_not e
  rw [mask_cell W h1] at e
  have h2 := cell_lt e
  have h3 : ¬ S' a.block := fun e3 => by rcases hS _ e3 with h4 | h4; exact h1 h4; omega
  rw [mask_cell W' h3, World.cell?_of_block (w := W) (h.block _ h2 h1)]
  exact e
/-- what is new in W' is told by every mask that hides old blocks alone -/
theorem new_mask {S : Nat → Prop} {W' : World} {n : Nat} (hS : ∀ k, S k → k < n) : Sub (mask (fun k => k < n) W') (mask S W') :=
  ⟨by rw [mask_size, mask_size]; exact Nat.le_refl _, fun a v e => by
    have h1 := mask_not e
    rw [mask_cell W' h1] at e
    rw [mask_cell W' (fun h => h1 (hS _ h))]
    exact e⟩
theorem mask_mono {S T : Nat → Prop} {W : World} (h : ∀ k, S k → T k) : Sub (mask T W) (mask S W) :=
  ⟨by rw [mask_size, mask_size]; exact Nat.le_refl _, fun a v e => by
    have h1 := mask_not e
    rw [mask_cell W h1] at e
    rw [mask_cell W (fun k => h1 (h _ k))]
    exact e⟩
theorem new_old {A B : World} {n m : Nat} (hb : ∀ k, k < A.heap.size → ¬ k < n → B.heap[k]? = A.heap[k]?) (hs : A.heap.size ≤ B.heap.size) (hm : m ≤ n) : Sub (mask (fun k => k < n) A) (mask (fun k => k < m) B) :=
  ⟨by rw [mask_size, mask_size]; exact hs, fun a v e => by
    have h1 := mask_not e
    rw [mask_cell A h1] at e
    rw [mask_cell B (fun k => h1 (by omega)), World.cell?_of_block (w := A) (hb _ (cell_lt e) h1)]
    exact e⟩
/-! who owns a block -/
inductive Role where
  | disk | fails | seen | safe | pend | cap
  | file (i : Nat)
  | row (i : Nat)
deriving DecidableEq
abbrev Ow := Nat → Option Role
def Ow.has (o : Ow) (k : Nat) : Prop := o k ≠ none
def Ow.set (o : Ow) (b : Nat) (r : Role) : Ow := fun k => if k = b then some r else o k
theorem set_same (o : Ow) (b : Nat) (r : Role) : o.set b r b = some r := by unfold Ow.set; rw [if_pos rfl]
theorem set_other (o : Ow) {b k : Nat} (r : Role) (h : k ≠ b) : o.set b r k = o k := by unfold Ow.set; rw [if_neg h]
theorem ow_ne {o : Ow} {a b : Nat} {r t : Role} (ha : o a = some r) (hb : o b = some t) (h : r ≠ t) : a ≠ b := fun e => h (by rw [e, hb] at ha; exact (Option.some.inj ha).symm)
theorem has_of {o : Ow} {k : Nat} {r : Role} (h : o k = some r) : o.has k := fun e => by rw [h] at e; cases e
/-- the blocks of the roles R are as they were -/
structure Same (o : Ow) (R : Role → Prop) (W W' : World) : Prop where
  size : W.heap.size ≤ W'.heap.size
  block : ∀ k r, o k = some r → R r → W'.heap[k]? = W.heap[k]?
theorem same_off {o : Ow} {R : Role → Prop} {S : Nat → Prop} {W W' : World} (h : Off S W W') (hlt : ∀ k, o.has k → k < W.heap.size) (hS : ∀ k r, S k → o k = some r → ¬ R r) : Same o R W W' :=
  ⟨h.size, fun k r e hr => h.block k (hlt k (has_of e)) (fun hs => hS k r hs e hr)⟩
theorem same_below {o : Ow} {R : Role → Prop} {W W' : World} (h : Below W.heap.size W W') (hlt : ∀ k, o.has k → k < W.heap.size) : Same o R W W' := ⟨h.size, fun k _ e _ => h.block k (hlt k (has_of e))⟩
theorem same_grown {o : Ow} {W W' : World} {b : Nat} {r0 : Role} (h : W.grownBy W' (some b)) (hlt : ∀ k, o.has k → k < W.heap.size) (hb : o b = some r0) : Same o (fun r => r ≠ r0) W W' :=
  ⟨h.size, fun k r e hr => h.block k (hlt k (has_of e)) (fun e2 => by cases e2; rw [hb] at e; exact hr (Option.some.inj e).symm)⟩
theorem same_new {o : Ow} {R : Role → Prop} {W W' : World} {b : Nat} (h : W.grownBy W' (some b)) (hlt : ∀ k, o.has k → k < W.heap.size) (hb : W.heap.size ≤ b ∨ o b = none) : Same o R W W' :=
  ⟨h.size, fun k _ e _ => h.block k (hlt k (has_of e)) (fun e2 => by
    have e3 : k = b := Option.some.inj e2
    subst e3
    rcases hb with hb | hb
    · have := hlt k (has_of e); omega
    · rw [hb] at e; cases e)⟩
theorem same_poke {o : Ow} {W : World} {b j : Nat} {r0 : Role} (hb : o b = some r0) (u : Value) : Same o (fun r => r ≠ r0) W (W.setCell ⟨b, j, none⟩ u) :=
  ⟨by simp [World.setCell], fun k r e hr => Below.heap_setCell _ _ _ _ (fun e2 => by subst e2; rw [hb] at e; exact hr (Option.some.inj e).symm)⟩
theorem Same.mono {o : Ow} {R R' : Role → Prop} {W W' : World} (h : Same o R W W') (hR : ∀ r, R' r → R r) : Same o R' W W' := ⟨h.size, fun k r e hr => h.block k r e (hR r hr)⟩
theorem Same.trans {o : Ow} {R : Role → Prop} {A B C : World} (h : Same o R A B) (k : Same o R B C) : Same o R A C := ⟨Nat.le_trans h.size k.size, fun i r e hr => (k.block i r e hr).trans (h.block i r e hr)⟩
theorem blk_same {o : Ow} {R : Role → Prop} {W W' : World} {b : Nat} {r : Role} {vs : List Value} (h : Blk b W vs) (hs : Same o R W W') (hb : o b = some r) (hr : R r) : Blk b W' vs :=
  ⟨fun j hj => ⟨by rw [World.cell?_of_block (w := W) (a := ⟨b, j, none⟩) (hs.block b r hb hr)]; exact (h.1 j hj).1, by rw [World.frozen?_of_block (w := W) (a := ⟨b, j, none⟩) (hs.block b r hb hr)]; exact (h.1 j hj).2⟩, Nat.lt_of_lt_of_le h.2 hs.size⟩
theorem map_same {H : Type} {o : Ow} {R : Role → Prop} {W W' : World} {b n : Nat} {r : Role} {P : Program} {k : TypeId} {E : Value → Option (DataW H × List MemPlace)} {D : DataW H} (h : W.ownsMap P k E b n D) (hs : Same o R W W') (hb : o b = some r) (hr : R r) : W'.ownsMap P k E b n D := by
  obtain ⟨es, clock, hh, F, hn, hD⟩ := h
  exact ⟨es, clock, by rw [hs.block b r hb hr]; exact hh, F, hn, hD⟩
theorem row_same {o : Ow} {R : Role → Prop} {W W' : World} {base k n : Nat} {r : Role} {t : TypeId} {v : Value} {cs : List Value} (h : W.ownsRow base t k v n cs) (hs : Same o R W W') (hb : ∀ b, v.ownBlock = some b → o b = some r) (hr : R r) : W'.ownsRow base t k v n cs := by
  obtain ⟨hl, h1 | ⟨x, cap, cur, hv, hx, hh, hrr⟩⟩ := h
  · exact ⟨hl, .inl h1⟩
  · refine ⟨hl, .inr ⟨x, cap, cur, hv, hx, ?_, hrr⟩⟩
    rw [hs.block x r (hb x (by rw [hv]; rfl)) hr]
    exact hh
end Go.Proofs.YtijnjgnckipghaaGreat
namespace Go.Proofs.YtijnjgnckipghaaGreat
open Go.RowKit
abbrev DU := DataW Unit
/-- an element of a table: a pointer to a block's beginning, or nil -/
def pel (v : Value) : Option (DU × List MemPlace) := match v with
  | .pointer none => some (.nil, [])
  | .pointer (some ⟨b, 0, none⟩) => some (.lit (.int .i64 (b : Int)), [])
  | _ => none
theorem pel_at (b : Nat) : pel (.pointer (some ⟨b, 0, none⟩)) = some (.lit (.int .i64 (b : Int)), []) := rfl
theorem pel_nil : pel (.pointer none) = some (.nil, []) := rfl
theorem pel_inv {v : Value} {z : DU × List MemPlace} (h : pel v = some z) : (v = .pointer none ∧ z = (.nil, [])) ∨ ∃ b : Nat, v = .pointer (some ⟨b, 0, none⟩) ∧ z = (.lit (.int .i64 (b : Int)), []) := by
  unfold pel at h
  split at h
  · simp only [Option.some.injEq] at h; exact .inl ⟨rfl, h.symm⟩
  · simp only [Option.some.injEq] at h; exact .inr ⟨_, rfl, h.symm⟩
  · cases h
theorem pel_lit {v : Value} {b : Nat} {ps : List MemPlace} (h : pel v = some (.lit (.int .i64 (b : Int)), ps)) : v = .pointer (some ⟨b, 0, none⟩) := by
  rcases pel_inv h with ⟨_, e⟩ | ⟨c, hv, e⟩
  · simp at e
  · simp only [Prod.mk.injEq, DataW.lit.injEq, Lit.int.injEq, true_and] at e
    have : b = c := by omega
    rw [this]; exact hv
/-- what a table of names reads as; fb: the block of each file -/
def dOf (fb : Nat → Nat) (l : NL) : DU := .map (l.map (fun p => (Lit.string p.1, .lit (.int .i64 (fb p.2 : Int)))))
theorem before_less : ∀ a b : Nm, bytesBefore a b = lessN a b := by
  intro a
  induction a with
  | nil => intro b; cases b <;> rfl
  | cons x u ih =>
    intro b
    cases b with
    | nil => rfl
    | cons y v => show (decide (x < y) || (x == y && bytesBefore u v)) = _; rw [ih, less_cons]
theorem same_str (a b : Nm) : (Lit.string a).sameKey (Lit.string b) = decide (a = b) := by
  show (a == b) = _
  by_cases h : a = b
  · simp [h]
  · simp [h]
theorem dOf_filter (fb : Nat → Nat) (l : NL) (n : Nm) : (l.map (fun p => (Lit.string p.1, (DataW.lit (.int .i64 (fb p.2 : Int)) : DU)))).filter (fun p => !p.1.sameKey (.string n)) = (delN l n).map (fun p => (Lit.string p.1, (DataW.lit (.int .i64 (fb p.2 : Int)) : DU))) := by
  unfold delN
  rw [List.filter_map]
  congr 1
  apply List.filter_congr
  intro p _
  show (!(Lit.string p.1).sameKey (.string n)) = _
  rw [same_str]
  by_cases h : p.1 = n <;> simp [h]
theorem dOf_del (fb : Nat → Nat) (l : NL) (n : Nm) : (dOf fb l).del (.string n) = dOf fb (delN l n) := by
  unfold dOf DataW.del
  simp only
  rw [dOf_filter]
theorem dOf_ins (fb : Nat → Nat) (n : Nm) (k : Nat) : ∀ l : NL, DataW.insert (Lit.string n, (DataW.lit (.int .i64 (fb k : Int)) : DU)) (l.map (fun p => (Lit.string p.1, (DataW.lit (.int .i64 (fb p.2 : Int)) : DU)))) = (insN n k l).map (fun p => (Lit.string p.1, (DataW.lit (.int .i64 (fb p.2 : Int)) : DU))) := by
  intro l
  induction l with
  | nil => rfl
  | cons q r ih =>
    rw [List.map_cons, DataW.insert, insN]
    have e : (Lit.string n).before (Lit.string q.1) = lessN n q.1 := before_less n q.1
    simp only [e]
    split
    · rfl
    · rw [ih]; rfl
theorem dOf_put (fb : Nat → Nat) (l : NL) (n : Nm) (k : Nat) : (dOf fb l).put (.string n) (.lit (.int .i64 (fb k : Int))) = dOf fb (putN l n k) := by
  unfold dOf DataW.put putN
  simp only
  rw [dOf_filter, dOf_ins]
theorem dOf_find (fb : Nat → Nat) (n : Nm) (l : NL) : (l.map (fun p => (Lit.string p.1, (DataW.lit (.int .i64 (fb p.2 : Int)) : DU)))).find? (fun p => p.1.sameKey (.string n)) = (l.find? (fun p => decide (p.1 = n))).map (fun p => (Lit.string p.1, (DataW.lit (.int .i64 (fb p.2 : Int)) : DU))) := by
  rw [List.find?_map]
  congr 1
  congr 1
  funext p
  exact same_str p.1 n
theorem dOf_some {fb : Nat → Nat} {l : NL} {n : Nm} {k : Nat} (h : atN l n = some k) (z : DU) : (dOf fb l).atKey (.string n) z = .lit (.int .i64 (fb k : Int)) := by
  unfold atN at h
  unfold dOf DataW.atKey
  simp only
  rw [dOf_find]
  obtain ⟨p, hp, rfl⟩ := Option.map_eq_some_iff.1 h
  rw [hp]
  rfl
theorem dOf_none {fb : Nat → Nat} {l : NL} {n : Nm} (h : atN l n = none) (z : DU) : (dOf fb l).atKey (.string n) z = z := by
  unfold atN at h
  unfold dOf DataW.atKey
  simp only
  rw [dOf_find, Option.map_eq_none_iff.1 h]
  rfl
theorem dOf_has (fb : Nat → Nat) (l : NL) (n : Nm) : Maps.has (dOf fb l) (.string n) = (atN l n).isSome := by
  unfold dOf atN
  rw [Maps.has_eq, List.any_map]
  have e : ((fun p : Lit × DU => p.1.sameKey (.string n)) ∘ fun p : Nm × Nat => (Lit.string p.1, (DataW.lit (.int .i64 (fb p.2 : Int)) : DU))) = fun p : Nm × Nat => decide (p.1 = n) := by funext p; exact same_str p.1 n
  rw [e]
  induction l with
  | nil => rfl
  | cons q r ih =>
    rw [List.any_cons, List.find?_cons]
    by_cases h : q.1 = n
    · simp [h]
    · simp only [h, decide_false, Bool.false_or]; exact ih
theorem dOf_size (fb : Nat → Nat) (l : NL) : Maps.size (dOf fb l) = l.length := by
  unfold dOf
  rw [Maps.size_eq, List.length_map]
theorem dOf_keys (fb : Nat → Nat) (l : NL) : strKeys (dOf fb l) = l.map (fun p => p.1) := by
  unfold dOf strKeys
  simp [strOf]
theorem dOf_congr {fb fc : Nat → Nat} {l : NL} (h : ∀ p ∈ l, fb p.2 = fc p.2) : dOf fb l = dOf fc l := by
  unfold dOf
  congr 1
  exact List.map_congr_left (fun p hp => by rw [h p hp])
/-- how many entries a map has is told by what it reads as -/
theorem own_tight {P : Program} {k : TypeId} {R : Value → Option (DU × List MemPlace)} {w : World} {b n : Nat} {D : DU} (h : w.ownsMap P k R b n D) : w.ownsMap P k R b (Maps.size D) D := by
  obtain ⟨es, clock, hb, F, hs, hD⟩ := h
  refine ⟨es, clock, hb, F, ?_, hD⟩
  rw [hD, Maps.size_eq, length_sorted]
  simp
theorem delN_len (l : NL) (n : Nm) : (delN l n).length ≤ l.length := List.length_filter_le _ _
theorem insN_len (n : Nm) (k : Nat) : ∀ l : NL, (insN n k l).length = l.length + 1 := by
  intro l
  induction l with
  | nil => rfl
  | cons q r ih => unfold insN; split <;> simp [ih]
theorem putN_len (l : NL) (n : Nm) (k : Nat) : (putN l n k).length ≤ l.length + 1 := by
  unfold putN
  rw [insN_len]
  have := delN_len l n
  omega
/-! changes of names -/
inductive Chg where
  | put (n : Nm) (k : Nat)
  | del (n : Nm)
  | mv (a b : Nm) (k : Nat)
def Chg.app : Chg → NL → NL
  | .put n k, l => putN l n k
  | .del n, l => delN l n
  | .mv a b k, l => putN (delN l a) b k
def appAll (cs : List Chg) (l : NL) : NL := cs.foldl (fun l c => c.app l) l
def scanC : NL → List Chg → List NL
  | _, [] => []
  | l, c :: r => c.app l :: scanC (c.app l) r
theorem appN_len (c : Chg) (l : NL) : (c.app l).length ≤ l.length + 1 := by
  cases c with
  | put n k => exact putN_len l n k
  | del n => have := delN_len l n; show (delN l n).length ≤ _; omega
  | mv a b k =>
    have h1 := putN_len (delN l a) b k
    have h2 := delN_len l a
    show (putN (delN l a) b k).length ≤ _
    omega
theorem appAll_len : ∀ (cs : List Chg) (l : NL), (appAll cs l).length ≤ l.length + cs.length := by
  intro cs
  induction cs with
  | nil => intro l; exact Nat.le_refl _
  | cons c r ih =>
    intro l
    have h1 := ih (c.app l)
    have h2 := appN_len c l
    show (appAll r (c.app l)).length ≤ _
    rw [List.length_cons]
    omega
theorem appAll_snoc (cs : List Chg) (c : Chg) (l : NL) : appAll (cs ++ [c]) l = c.app (appAll cs l) := by unfold appAll; rw [List.foldl_append]; rfl
theorem scan_len : ∀ (cs : List Chg) (l : NL), (scanC l cs).length = cs.length := by
  intro cs
  induction cs with
  | nil => intro l; rfl
  | cons c r ih => intro l; show (scanC (c.app l) r).length + 1 = _; rw [ih]; rfl
theorem scan_snoc : ∀ (cs : List Chg) (c : Chg) (l : NL), scanC l (cs ++ [c]) = scanC l cs ++ [c.app (appAll cs l)] := by
  intro cs
  induction cs with
  | nil => intro c l; rfl
  | cons d r ih =>
    intro c l
    show d.app l :: scanC (d.app l) (r ++ [c]) = _
    rw [ih]
    rfl
theorem scan_get : ∀ (cs : List Chg) (l : NL) (k : Nat), k < cs.length → (scanC l cs).getD k [] = appAll (cs.take (k + 1)) l := by
  intro cs
  induction cs with
  | nil => intro l k h; cases h
  | cons c r ih =>
    intro l k h
    cases k with
    | zero => rfl
    | succ j =>
      show (scanC (c.app l) r).getD j [] = _
      rw [ih _ _ (by simpa using h)]
      rfl
/-- the names' lists of a disk are its changes', one behind the other -/
def Sc (s : Dk) (cs : List Chg) : Prop := s.pend = scanC s.safe cs ∧ s.now = appAll cs s.safe
theorem sc_named {s : Dk} {cs : List Chg} (h : Sc s cs) (c : Chg) : Sc (s.named (c.app s.now)) (cs ++ [c]) := by
  refine ⟨?_, ?_⟩
  · show s.pend ++ [c.app s.now] = scanC s.safe (cs ++ [c])
    rw [scan_snoc, h.1, h.2]
  · show c.app s.now = appAll (cs ++ [c]) s.safe
    rw [appAll_snoc, h.2]
theorem left_names {s : Dk} {cs : List Chg} (h : Sc s cs) (k : Int) : leftNames s k = appAll (cs.take (min k.toNat cs.length)) s.safe := by
  have hl : s.pend.length = cs.length := by rw [h.1, scan_len]
  unfold leftNames
  by_cases hk : k ≤ 0
  · rw [if_pos hk, show k.toNat = 0 by omega, Nat.zero_min]
    rfl
  · rw [if_neg hk]
    by_cases hp : s.pend = []
    · have : cs = [] := by
        have h0 : cs.length = 0 := by rw [← hl, hp]; rfl
        exact List.eq_nil_of_length_eq_zero h0
      rw [if_pos hp, this]
      simp [appAll]
    · have hpos : 0 < cs.length := by rw [← hl]; exact List.length_pos_iff.2 hp
      rw [if_neg hp, hl, h.1, scan_get _ _ _ (by omega)]
      congr 1
      congr 1
      omega
/-! names, sorted -/
theorem less_lt : ∀ a b : Nm, lessN a b = true → a < b := by
  intro a
  induction a with
  | nil =>
    intro b h
    cases b with
    | nil => cases h
    | cons y v => exact List.nil_lt_cons y v
  | cons x u ih =>
    intro b h
    cases b with
    | nil => rw [less_nil] at h; cases h
    | cons y v =>
      rw [less_cons] at h
      simp only [Bool.or_eq_true, decide_eq_true_eq, Bool.and_eq_true, beq_iff_eq] at h
      rw [List.cons_lt_cons_iff]
      rcases h with h | ⟨h1, h2⟩
      · exact .inl h
      · exact .inr ⟨h1, ih v h2⟩
theorem sorted_keys {l : NL} (hs : SortedN l) {ss : List Nm} (hp : ss.Perm (l.map (fun p => p.1))) : ss.mergeSort (fun x y => decide (x ≤ y)) = l.map (fun p => p.1) := by
  have h1 := mergeSort_of_perm hp
  have tr : ∀ a b c : List UInt8, leB a b = true → leB b c = true → leB a c = true := fun a b c h1 h2 => by simp only [leB, decide_eq_true_eq] at *; exact List.le_trans h1 h2
  have to : ∀ a b : List UInt8, (leB a b || leB b a) = true := fun a b => by simp only [leB, Bool.or_eq_true, decide_eq_true_eq]; exact List.le_total a b
  refine h1.trans ?_
  refine List.Perm.eq_of_pairwise (le := fun a b => leB a b = true) (fun a b _ _ h1 h2 => ?_) (List.pairwise_mergeSort tr to _) ?_ (List.mergeSort_perm _ leB)
  · simp only [leB, decide_eq_true_eq] at h1 h2
    exact List.le_antisymm h1 h2
  · refine List.pairwise_map.2 (hs.imp (fun {p q} h => ?_))
    simp only [leB, decide_eq_true_eq]
    exact List.le_of_lt (less_lt _ _ h)
end Go.Proofs.YtijnjgnckipghaaGreat
namespace Go.Proofs.YtijnjgnckipghaaGreat
open Go.RowKit Go.Maps Go.WideMaps
theorem kStr : Keyed Tryz.prog 9 := string_keyed Tryz.underlying9
theorem kInt : Keyed Tryz.prog 3 := int_keyed Tryz.underlying3
theorem zeroP (w : World) : (zeroValue 109).run Tryz.prog w = .ok (.pointer none) w := by kernel_rfl
theorem zeroU (w : World) : (zeroValue 108).run Tryz.prog w = .ok (.agg #[]) w := by kernel_rfl
/-- a map that holds just these numbers -/
def FailsAt (W : World) (m : Nat) (fs : List Int) : Prop := ∃ n D, W.ownsMap Tryz.prog 3 (unitElem (H := Unit)) m n D ∧ ∀ i : Int, Maps.has D (.int .i64 i) = decide (i ∈ fs)
/-- a table of names -/
def Tbl (W : World) (m : Nat) (fb : Nat → Nat) (l : NL) : Prop := W.ownsMap Tryz.prog 9 pel m l.length (dOf fb l)
/-- a change of names as a function value -/
def ChgV (o : Ow) (fb : Nat → Nat) (W : World) (v : Value) : Chg → Prop
  | .put n k => n.length ≤ 64 ∧ ∃ bf bn, v = .func (.func 76) #[] #[.pointer (some ⟨bf, 0, none⟩), .pointer (some ⟨bn, 0, none⟩)] ∧ W.cell? ⟨bf, 0, none⟩ = some (.pointer (some ⟨fb k, 0, none⟩)) ∧ W.cell? ⟨bn, 0, none⟩ = some (S n) ∧ o bf = some .cap ∧ o bn = some .cap
  | .del n => n.length ≤ 64 ∧ ∃ bn, v = .func (.func 95) #[] #[.pointer (some ⟨bn, 0, none⟩)] ∧ W.cell? ⟨bn, 0, none⟩ = some (S n) ∧ o bn = some .cap
  | .mv a b k => a.length ≤ 64 ∧ b.length ≤ 64 ∧ ∃ ba bf bb, v = .func (.func 101) #[] #[.pointer (some ⟨ba, 0, none⟩), .pointer (some ⟨bf, 0, none⟩), .pointer (some ⟨bb, 0, none⟩)] ∧ W.cell? ⟨ba, 0, none⟩ = some (S a) ∧ W.cell? ⟨bf, 0, none⟩ = some (.pointer (some ⟨fb k, 0, none⟩)) ∧ W.cell? ⟨bb, 0, none⟩ = some (S b) ∧ o ba = some .cap ∧ o bf = some .cap ∧ o bb = some .cap
/-- a file's block: its number, its bytes (a row of its own), how many are safe -/
def FileAt (o : Ow) (W : World) (b i : Nat) (bs : List UInt8) (sf : Nat) : Prop :=
  ∃ rv, Blk b W [.int .i64 (i : Int), rv, .int .i64 (sf : Int)] ∧ W.ownsRow 0 5 1 rv bs.length (bs.map B) ∧ o b = some (.file i) ∧ ∀ rb, rv.ownBlock = some rb → o rb = some (.row i)
/-- the pending changes -/
def PendAt (o : Ow) (fb : Nat → Nat) (W : World) (pv : Value) (cs : List Chg) : Prop :=
  ∃ vs : List Value, W.ownsRow 0 125 1 pv cs.length vs ∧ (∀ i (h : i < cs.length), ∃ v, vs[i]? = some v ∧ ChgV o fb W v cs[i]) ∧ ∀ rb, pv.ownBlock = some rb → o rb = some .pend
def nOf (c : Chg) : Option Nat := match c with | .put _ k => some k | .del _ => none | .mv _ _ k => some k
structure DkV (o : Ow) (g m0 m1 m2 : Nat) (pv : Value) (fb : Nat → Nat) (s : Dk) (cs : List Chg) (W : World) : Prop where
  blk : Blk g W [.int .i64 s.room, .int .i64 s.power, .map (some m0), .int .i64 (s.n : Int), .int .i64 (s.data.length : Int), .map (some m1), .map (some m2), pv]
  fails : FailsAt W m0 s.fails
  seen : Tbl W m1 fb s.now
  safe : Tbl W m2 fb s.safe
  pend : PendAt o fb W pv cs
  files : ∀ i, i < s.data.length → FileAt o W (fb i) i (s.data.getD i []) (s.firm.getD i 0)
  og : o g = some .disk
  o0 : o m0 = some .fails
  o1 : o m1 = some .seen
  o2 : o m2 = some .safe
  lt : ∀ k, o.has k → k < W.heap.size
  wf : Wf s
  once : Once s.now
  sc : Sc s cs
  rm : 0 ≤ s.room ∧ s.room ≤ 1073741824
/-- a disk at block g that owns the blocks of o -/
def Dsk (o : Ow) (g : Nat) (s : Dk) (W : World) : Prop := ∃ m0 m1 m2 pv fb cs, DkV o g m0 m1 m2 pv fb s cs W
theorem tbl_same {o : Ow} {R : Role → Prop} {W W' : World} {m : Nat} {r : Role} {fb : Nat → Nat} {l : NL} (h : Tbl W m fb l) (hs : Same o R W W') (hb : o m = some r) (hr : R r) : Tbl W' m fb l := map_same h hs hb hr
theorem fails_same {o : Ow} {R : Role → Prop} {W W' : World} {m : Nat} {fs : List Int} (h : FailsAt W m fs) (hs : Same o R W W') (hb : o m = some .fails) (hr : R .fails) : FailsAt W' m fs := by
  obtain ⟨n, D, h1, h2⟩ := h
  exact ⟨n, D, map_same h1 hs hb hr, h2⟩
theorem cell_same {o : Ow} {R : Role → Prop} {W W' : World} {b j : Nat} {r : Role} {v : Value} (h : W.cell? ⟨b, j, none⟩ = some v) (hs : Same o R W W') (hb : o b = some r) (hr : R r) : W'.cell? ⟨b, j, none⟩ = some v := by
  rw [World.cell?_of_block (w := W) (a := ⟨b, j, none⟩) (hs.block b r hb hr)]; exact h
theorem chg_same {o : Ow} {R : Role → Prop} {W W' : World} {fb : Nat → Nat} {v : Value} {c : Chg} (h : ChgV o fb W v c) (hs : Same o R W W') (hr : R .cap) : ChgV o fb W' v c := by
  cases c with
  | put n k =>
    obtain ⟨hl, bf, bn, e, h1, h2, o1, o2⟩ := h
    exact ⟨hl, bf, bn, e, cell_same h1 hs o1 hr, cell_same h2 hs o2 hr, o1, o2⟩
  | del n =>
    obtain ⟨hl, bn, e, h2, o2⟩ := h
    exact ⟨hl, bn, e, cell_same h2 hs o2 hr, o2⟩
  | mv a b k =>
    obtain ⟨l1, l2, ba, bf, bb, e, h1, h2, h3, o1, o2, o3⟩ := h
    exact ⟨l1, l2, ba, bf, bb, e, cell_same h1 hs o1 hr, cell_same h2 hs o2 hr, cell_same h3 hs o3 hr, o1, o2, o3⟩
theorem file_same {o : Ow} {R : Role → Prop} {W W' : World} {b i : Nat} {bs : List UInt8} {sf : Nat} (h : FileAt o W b i bs sf) (hs : Same o R W W') (h1 : R (.file i)) (h2 : R (.row i)) : FileAt o W' b i bs sf := by
  obtain ⟨rv, hb, hr, ho, hw⟩ := h
  exact ⟨rv, blk_same hb hs ho h1, row_same hr hs hw h2, ho, hw⟩
theorem pend_same {o : Ow} {R : Role → Prop} {W W' : World} {fb : Nat → Nat} {pv : Value} {cs : List Chg} (h : PendAt o fb W pv cs) (hs : Same o R W W') (h1 : R .pend) (h2 : R .cap) : PendAt o fb W' pv cs := by
  obtain ⟨vs, hr, hc, hw⟩ := h
  exact ⟨vs, row_same hr hs hw h1, fun i hi => by obtain ⟨v, e, hv⟩ := hc i hi; exact ⟨v, e, chg_same hv hs h2⟩, hw⟩
/-- more blocks owned, none otherwise than before -/
def Ow.le (o o' : Ow) : Prop := ∀ k r, o k = some r → o' k = some r
theorem le_set {o : Ow} {b : Nat} (r : Role) (h : o b = none ∨ o b = some r) : o.le (o.set b r) := by
  intro k t e
  by_cases hk : k = b
  · subst hk
    rcases h with h | h
    · rw [h] at e; cases e
    · rw [set_same, ← h, e]
  · rw [set_other _ _ hk]; exact e
theorem chg_le {o o' : Ow} {W : World} {fb : Nat → Nat} {v : Value} {c : Chg} (h : ChgV o fb W v c) (hl : o.le o') : ChgV o' fb W v c := by
  cases c with
  | put n k =>
    obtain ⟨l, bf, bn, e, h1, h2, o1, o2⟩ := h
    exact ⟨l, bf, bn, e, h1, h2, hl _ _ o1, hl _ _ o2⟩
  | del n =>
    obtain ⟨l, bn, e, h2, o2⟩ := h
    exact ⟨l, bn, e, h2, hl _ _ o2⟩
  | mv a b k =>
    obtain ⟨l1, l2, ba, bf, bb, e, h1, h2, h3, o1, o2, o3⟩ := h
    exact ⟨l1, l2, ba, bf, bb, e, h1, h2, h3, hl _ _ o1, hl _ _ o2, hl _ _ o3⟩
theorem file_le {o o' : Ow} {W : World} {b i : Nat} {bs : List UInt8} {sf : Nat} (h : FileAt o W b i bs sf) (hl : o.le o') : FileAt o' W b i bs sf := by
  obtain ⟨rv, hb, hr, ho, hw⟩ := h
  exact ⟨rv, hb, hr, hl _ _ ho, fun rb e => hl _ _ (hw rb e)⟩
theorem pend_le {o o' : Ow} {W : World} {fb : Nat → Nat} {pv : Value} {cs : List Chg} (h : PendAt o fb W pv cs) (hl : o.le o') : PendAt o' fb W pv cs := by
  obtain ⟨vs, hr, hc, hw⟩ := h
  exact ⟨vs, hr, fun i hi => by obtain ⟨v, e, hv⟩ := hc i hi; exact ⟨v, e, chg_le hv hl⟩, fun rb e => hl _ _ (hw rb e)⟩
/-- another owner's work leaves a disk as it was -/
theorem dkV_same {o : Ow} {g m0 m1 m2 : Nat} {pv : Value} {fb : Nat → Nat} {s : Dk} {cs : List Chg} {W W' : World} (h : DkV o g m0 m1 m2 pv fb s cs W) (hs : Same o (fun _ => True) W W') : DkV o g m0 m1 m2 pv fb s cs W' where
  blk := blk_same h.blk hs h.og trivial
  fails := fails_same h.fails hs h.o0 trivial
  seen := tbl_same h.seen hs h.o1 trivial
  safe := tbl_same h.safe hs h.o2 trivial
  pend := pend_same h.pend hs trivial trivial
  files := fun i hi => file_same (h.files i hi) hs trivial trivial
  og := h.og
  o0 := h.o0
  o1 := h.o1
  o2 := h.o2
  lt := fun k hk => Nat.lt_of_lt_of_le (h.lt k hk) hs.size
  wf := h.wf
  once := h.once
  sc := h.sc
  rm := h.rm
theorem dsk_below {o : Ow} {g : Nat} {s : Dk} {W W' : World} (h : Dsk o g s W) (hb : Below W.heap.size W W') : Dsk o g s W' := by
  obtain ⟨m0, m1, m2, pv, fb, cs, v⟩ := h
  exact ⟨m0, m1, m2, pv, fb, cs, dkV_same v (same_below hb v.lt)⟩
theorem dsk_off {o : Ow} {g : Nat} {s : Dk} {W W' : World} {S : Nat → Prop} (h : Dsk o g s W) (hb : Off S W W') (hS : ∀ k, S k → o k = none) : Dsk o g s W' := by
  obtain ⟨m0, m1, m2, pv, fb, cs, v⟩ := h
  exact ⟨m0, m1, m2, pv, fb, cs, dkV_same v (same_off hb v.lt (fun k r hk e => by rw [hS k hk] at e; cases e))⟩
theorem dsk_lt {o : Ow} {g : Nat} {s : Dk} {W : World} (h : Dsk o g s W) : ∀ k, o.has k → k < W.heap.size := by
  obtain ⟨m0, m1, m2, pv, fb, cs, v⟩ := h
  exact v.lt
/-- what a disk's own work does: its blocks alone are written, new ones may be made -/
structure Grow (o : Ow) (W : World) (o' : Ow) (W' : World) : Prop where
  off : Off o.has W W'
  le : o.le o'
  new : ∀ k, o'.has k → o.has k ∨ W.heap.size ≤ k
theorem Grow.refl (o : Ow) (W : World) : Grow o W o W := ⟨Off.refl _ _, fun _ _ e => e, fun _ h => .inl h⟩
theorem grow_below {o : Ow} {W W' : World} (h : Below W.heap.size W W') : Grow o W o W' := ⟨off_of h, fun _ _ e => e, fun _ h => .inl h⟩
theorem Grow.trans {o o' o'' : Ow} {A B C : World} (h : Grow o A o' B) (k : Grow o' B o'' C) : Grow o A o'' C :=
  ⟨h.off.trans k.off h.new, fun i r e => k.le i r (h.le i r e), fun i hi => by
    rcases k.new i hi with h1 | h1
    · exact h.new i h1
    · exact .inr (Nat.le_trans h.off.size h1)⟩
/-- eight cells of a block -/
theorem cells_eight {b : Nat} {W : World} {v0 v1 v2 v3 v4 v5 v6 v7 : Value} (h : Blk b W [v0, v1, v2, v3, v4, v5, v6, v7]) : (W.cell? ⟨b, 0, none⟩ = some v0 ∧ W.cell? ⟨b, 1, none⟩ = some v1 ∧ W.cell? ⟨b, 2, none⟩ = some v2 ∧ W.cell? ⟨b, 3, none⟩ = some v3 ∧ W.cell? ⟨b, 4, none⟩ = some v4 ∧ W.cell? ⟨b, 5, none⟩ = some v5 ∧ W.cell? ⟨b, 6, none⟩ = some v6 ∧ W.cell? ⟨b, 7, none⟩ = some v7) ∧ (W.frozen? ⟨b, 3, none⟩ = false ∧ W.frozen? ⟨b, 4, none⟩ = false ∧ W.frozen? ⟨b, 7, none⟩ = false) :=
  ⟨⟨(h.1 0 (by simp)).1, (h.1 1 (by simp)).1, (h.1 2 (by simp)).1, (h.1 3 (by simp)).1, (h.1 4 (by simp)).1, (h.1 5 (by simp)).1, (h.1 6 (by simp)).1, (h.1 7 (by simp)).1⟩, ⟨(h.1 3 (by simp)).2, (h.1 4 (by simp)).2, (h.1 7 (by simp)).2⟩⟩
theorem cells_3 {b : Nat} {W : World} {v0 v1 v2 : Value} (h : Blk b W [v0, v1, v2]) : (W.cell? ⟨b, 0, none⟩ = some v0 ∧ W.cell? ⟨b, 1, none⟩ = some v1 ∧ W.cell? ⟨b, 2, none⟩ = some v2) ∧ (W.frozen? ⟨b, 0, none⟩ = false ∧ W.frozen? ⟨b, 1, none⟩ = false ∧ W.frozen? ⟨b, 2, none⟩ = false) :=
  ⟨⟨(h.1 0 (by simp)).1, (h.1 1 (by simp)).1, (h.1 2 (by simp)).1⟩, ⟨(h.1 0 (by simp)).2, (h.1 1 (by simp)).2, (h.1 2 (by simp)).2⟩⟩
theorem key_str {s : ByteArray} (hs : s.size ≤ 140737488351232) : keyOf Tryz.prog 9 (.string s) = some (.string s.data.toList) := keyOf_string_mk Tryz.underlying9 (by unfold maxLen; omega)
theorem look_some {W : World} {m : Nat} {fb : Nat → Nat} {l : NL} (h : Tbl W m fb l) {s : ByteArray} (hs : s.size ≤ 140737488351232) {k : Nat} (ha : atN l s.data.toList = some k) :
    (Instr.lookup 104 (.map (some m)) (.string s) true).run Tryz.prog W = .ok (.tuple #[.pointer (some ⟨fb k, 0, none⟩), .bool true]) W := by
  obtain ⟨v, ps, h1, h2⟩ := World.ownsMap.look_ok h kStr Tryz.underlying104 (zeroP W) pel_nil (key_str hs)
  rw [dOf_some ha] at h2
  rw [dOf_has, ha] at h1
  rw [h1, pel_lit h2]
  rfl
theorem look_none {W : World} {m : Nat} {fb : Nat → Nat} {l : NL} (h : Tbl W m fb l) {s : ByteArray} (hs : s.size ≤ 140737488351232) (ha : atN l s.data.toList = none) :
    (Instr.lookup 104 (.map (some m)) (.string s) true).run Tryz.prog W = .ok (.tuple #[.pointer none, .bool false]) W := by
  obtain ⟨v, ps, h1, h2⟩ := World.ownsMap.look_ok h kStr Tryz.underlying104 (zeroP W) pel_nil (key_str hs)
  rw [dOf_none ha] at h2
  rw [dOf_has, ha] at h1
  rcases pel_inv h2 with ⟨e, _⟩ | ⟨c, _, e⟩
  · rw [h1, e]; rfl
  · simp at e
theorem look_one {W : World} {m : Nat} {fb : Nat → Nat} {l : NL} (h : Tbl W m fb l) {s : ByteArray} (hs : s.size ≤ 140737488351232) {k : Nat} (ha : atN l s.data.toList = some k) :
    (Instr.lookup 104 (.map (some m)) (.string s) false).run Tryz.prog W = .ok (.pointer (some ⟨fb k, 0, none⟩)) W := by
  obtain ⟨v, ps, h1, h2⟩ := World.ownsMap.lookup h kStr Tryz.underlying104 (zeroP W) pel_nil (key_str hs)
  rw [dOf_some ha] at h2
  rw [h1, pel_lit h2]
theorem look_fails {W : World} {m : Nat} {fs : List Int} (h : FailsAt W m fs) {i : Int} (hi : -9223372036854775808 ≤ i ∧ i ≤ 9223372036854775807) :
    (Instr.lookup 102 (.map (some m)) (.int .i64 i) true).run Tryz.prog W = .ok (.tuple #[.agg #[], .bool (decide (i ∈ fs))]) W := by
  obtain ⟨n, D, h0, hh⟩ := h
  obtain ⟨v, ps, h1, h2⟩ := World.ownsMap.look_ok h0 kInt Tryz.underlying102 (zeroU W) unitElem_mk (keyOf_int_mk (a := i) Tryz.underlying3 (by unfold Lit.wf; simp only [Bool.and_eq_true, decide_eq_true_eq]; exact hi))
  obtain ⟨e, _⟩ := unitElem_inv h2
  rw [h1, e, hh]
end Go.Proofs.YtijnjgnckipghaaGreat
