/- The program's disk and the document's, side by side: what the laws' loops keep. -/
import Derived.Test.YtijnjgnckipghaaGreatBdF
import Derived.Test.YtijnjgnckipghaaGreatBdG
namespace Go.Proofs.YtijnjgnckipghaaGreat
open Go.RowKit
theorem refS_sub {M W : World} {v : Value} {s : Dk} (h : RefS M v s) (hs : Sub M W) : RefS W v s := by
  obtain ⟨x0, x1, x2, x3, x4, x6, e, h⟩ := h
  exact ⟨x0, x1, x2, x3, x4, x6, e, refV_sub h hs⟩
/-- the disk's blocks, and the block q -/
def NoB (o : Ow) (q k : Nat) : Prop := o.has k ∨ k = q
/-- a block that is not the disk's -/
structure Kp (o : Ow) (w1 : World) (p : Nat) (cs : List Value) (W : World) : Prop where
  out : o p = none
  lo : w1.heap.size ≤ p
  blk : Blk p W cs
section
variable {o o' : Ow} {w1 W W' : World} {p g q : Nat} {cs vs us : List Value} {s s' t t' : Dk} {v v' : Value}
theorem kp_below (h : Kp o w1 p cs W) (hb : Below W.heap.size W W') : Kp o w1 p cs W' := ⟨h.out, h.lo, cells_below h.blk hb⟩
theorem kp_grow (h : Kp o w1 p cs W) (hg : Grow o W o' W') : Kp o' w1 p cs W' := by
  have hn : ¬ o.has p := fun e => e h.out
  have hk := hg.off.block p h.blk.2 hn
  refine ⟨?_, h.lo, ⟨fun j hj => ⟨?_, ?_⟩, Nat.lt_of_lt_of_le h.blk.2 hg.off.size⟩⟩
  · cases e : o' p with
    | none => rfl
    | some r =>
      rcases hg.new p (has_of e) with e1 | e1
      · exact absurd e1 hn
      · exact absurd h.blk.2 (by omega)
  · rw [World.cell?_of_block (w := W) (a := ⟨p, j, none⟩) hk]; exact (h.blk.1 j hj).1
  · rw [World.frozen?_of_block (w := W) (a := ⟨p, j, none⟩) hk]; exact (h.blk.1 j hj).2
/-- the program's disk is s, the document's value v is t; q's block holds vs -/
structure Two (o : Ow) (g q : Nat) (vs : List Value) (v : Value) (s t : Dk) (w1 W : World) : Prop where
  liv : Liv o g s w1 W
  kp : Kp o w1 q vs W
  ref : RefS (mask (NoB o q) W) v t
theorem two_lt (h : Two o g q vs v s t w1 W) : ∀ k, NoB o q k → k < W.heap.size := fun k e => e.elim (dsk_lt h.liv.dsk k) (fun e => by rw [e]; exact h.kp.blk.2)
theorem two_refS (h : Two o g q vs v s t w1 W) : RefS W v t := refS_sub h.ref (mask_sub _ _)
theorem two_below (h : Two o g q vs v s t w1 W) (hb : Below W.heap.size W W') : Two o g q vs v s t w1 W' :=
  ⟨liv_below h.liv hb, kp_below h.kp hb, refS_sub h.ref (off_mask (S := NoB o q) (S' := NoB o q) (off_of hb) (fun _ hk => .inl hk))⟩
theorem two_grow (h : Two o g q vs v s t w1 W) (hl : Liv o' g s' w1 W') (hg : Grow o W o' W') : Two o' g q vs v s' t w1 W' :=
  ⟨hl, kp_grow h.kp hg, refS_sub h.ref (off_mask (S := NoB o q) (S' := NoB o' q) (hg.off.mono (fun _ e => .inl e)) (fun k e => e.elim (fun e => (hg.new k e).elim (fun e => .inl (.inl e)) .inr) (fun e => .inl (.inr e))))⟩
theorem two_ref (h : Two o g q vs v s t w1 W) (hb : Below W.heap.size W W') (hr : RefS (mask (NoB o q) W') v' t') : Two o g q vs v' s t' w1 W' := ⟨liv_below h.liv hb, kp_below h.kp hb, hr⟩
theorem two_put (h : Two o g q vs v s t w1 W) (hu : us.length = vs.length) : Two o g q us v s t w1 (putFrom q 0 W us) := by
  refine ⟨⟨dsk_off h.liv.dsk (off_put (S := fun k => k = q) rfl us 0 W) (fun k e => by rw [e]; exact h.kp.out), h.liv.own, below_put h.kp.lo us 0 W h.liv.bel⟩, ⟨h.kp.out, h.kp.lo, ?_⟩, refS_sub h.ref (off_mask (S := NoB o q) (S' := NoB o q) (off_put (.inr rfl) us 0 W) (fun _ e => .inl e))⟩
  have := cells_putFrom us 0 W vs h.kp.blk (by omega)
  rw [List.drop_eq_nil_of_le (by omega)] at this
  simpa using this
/-- the beginning: the document's value, and its block laid -/
theorem two_start (hl : Liv o g s w1 W) (hr : RefS (mask o.has W) v t) (hb : Below W.heap.size W W') (hk : Blk W.heap.size W' vs) : Two o g W.heap.size vs v s t w1 W' :=
  ⟨liv_below hl hb, ⟨by
    cases e : o W.heap.size with
    | none => rfl
    | some r => exact absurd (dsk_lt hl.dsk _ (has_of e)) (by omega), hl.bel.size, hk⟩, refS_sub hr (off_mask (S := o.has) (S' := NoB o W.heap.size) (off_of hb) (fun k e => e.elim .inl (fun e => .inr (by omega))))⟩
/-- a block laid behind what there is -/
theorem kp_new (hl : Liv o g s w1 W) (hk : Blk W.heap.size W' cs) : Kp o w1 W.heap.size cs W' :=
  ⟨by
    cases e : o W.heap.size with
    | none => rfl
    | some r => exact absurd (dsk_lt hl.dsk _ (has_of e)) (by omega), hl.bel.size, hk⟩
end
/-- what came in lies outside of the disk -/
theorem in_sub {o : Ow} {w w1 W : World} (h1 : Below w.heap.size w w1) (hb : Below w1.heap.size w1 W) (ho : ∀ k, o.has k → w1.heap.size ≤ k) : Sub w (mask o.has W) :=
  ⟨by rw [mask_size]; exact Nat.le_trans h1.size hb.size, fun a v h => by
    have hl := cell_lt h
    have hs := h1.size
    rw [mask_cell W (show ¬ o.has a.block from fun e => by have := ho _ e; omega), hb.cell (p := a) (by omega), h1.cell hl]
    exact h⟩
/-- both disks, and one op's block -/
def Reg (g q p : Nat) (vs cs : List Value) (v : Value) (s t : Dk) (w1 W : World) : Prop := ∃ o, Two o g q vs v s t w1 W ∧ Kp o w1 p cs W
theorem reg_below {g q p : Nat} {vs cs : List Value} {v : Value} {s t : Dk} {w1 W W' : World} (h : Reg g q p vs cs v s t w1 W) (hb : Below W.heap.size W W') : Reg g q p vs cs v s t w1 W' := by
  obtain ⟨o, h1, h2⟩ := h
  exact ⟨o, two_below h1 hb, kp_below h2 hb⟩
end Go.Proofs.YtijnjgnckipghaaGreat
