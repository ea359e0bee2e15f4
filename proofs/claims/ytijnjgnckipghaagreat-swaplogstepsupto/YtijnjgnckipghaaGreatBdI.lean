/- The rows that the document's New fills, and what one append leaves of the others. One more name, byte row and number in the document's New. The contract of the document's New. -/
import Derived.Test.YtijnjgnckipghaaGreatBdG
import Derived.Test.YtijnjgnckipghaaGreatBw18
import Derived.Deep.AppendLies
import Derived.Deep.DeepCutAuto
namespace Go.Proofs.YtijnjgnckipghaaGreat
open Go.RowKit
theorem row_offN {W W' : World} {base k n : Nat} {t : TypeId} {v : Value} {cs : List Value} {S : Nat → Prop} (h : W.ownsRow base t k v n cs) (ho : Off S W W') (hn : ∀ b, v.ownBlock = some b → ¬ S b) : W'.ownsRow base t k v n cs := by
  obtain ⟨hl, h1 | ⟨g, cap, cur, rfl, hg, hh, hr⟩⟩ := h
  · exact ⟨hl, .inl h1⟩
  · have hlt : g < W.heap.size := by
      rcases Nat.lt_or_ge g W.heap.size with h | h
      · exact h
      · rw [Array.getElem?_eq_none (by omega)] at hh; cases hh
    exact ⟨hl, .inr ⟨g, cap, cur, rfl, hg, by rw [ho.block g hlt (hn g rfl)]; exact hh, hr⟩⟩
theorem blk_offN {W W' : World} {b : Nat} {vs : List Value} {S : Nat → Prop} (h : Blk b W vs) (ho : Off S W W') (hn : ¬ S b) : Blk b W' vs := by
  have e := ho.block b h.2 hn
  exact ⟨fun j hj => ⟨by rw [World.cell?_of_block (w := W) e]; exact (h.1 j hj).1, by have := (h.1 j hj).2; unfold World.frozen? at this ⊢; dsimp only at this ⊢; rw [e]; exact this⟩, Nat.lt_of_lt_of_le h.2 ho.size⟩
/-- the blocks that copies don't lie in -/
def nwS (w : World) (v0 v1 v3 v4 : Value) (k : Nat) : Prop := k < w.heap.size + 2 ∨ v0.ownBlock = some k ∨ v1.ownBlock = some k ∨ v3.ownBlock = some k ∨ v4.ownBlock = some k
def zer9 : List Value := [.slice none 0 0, .slice none 0 0, .slice none 0 0, .slice none 0 0, .slice none 0 0, .int .i64 0, .slice none 0 0, .int .i64 0, .int .i64 0]
structure NwR (w : World) (fs : FilL) (room power : Int) (zv : Value) (j0 j1 j3 j4 : Nat) (v0 v1 v3 v4 : Value) (W : World) : Prop where
  blk : Blk (w.heap.size + 1) W [v0, v1, .slice none 0 0, v3, v4, .int .i64 room, zv, .int .i64 power, .int .i64 0]
  out : Blk w.heap.size W zer9
  bel : Below w.heap.size w W
  big : w.heap.size + 2 ≤ W.heap.size
  r0 : W.ownsRow (w.heap.size + 2) 71 2 v0 j0 (cellsNm ((numbered fs).take j0))
  r1 : W.ownsRow (w.heap.size + 2) 71 2 v1 j1 (cellsNm ((numbered fs).take j1))
  r3 : ∃ vs, W.ownsRow (w.heap.size + 2) 67 1 v3 j3 vs ∧ ∀ (i : Nat) (u : Value) (x : Nm × List UInt8), vs[i]? = some u → fs[i]? = some x → HoldsB (mask (nwS w v0 v1 v3 v4) W) u x.2 ∧ ∃ a n c, u = .slice a n c
  r4 : W.ownsRow (w.heap.size + 2) 3 1 v4 j4 ((fs.take j4).map (fun f => I (f.2.length : Int)))
  ap : v0.ownBlock = none ∨ v0.ownBlock ≠ v1.ownBlock
theorem nw_below {w : World} {fs : FilL} {room power : Int} {zv : Value} {j0 j1 j3 j4 : Nat} {v0 v1 v3 v4 : Value} {W W' : World} (h : NwR w fs room power zv j0 j1 j3 j4 v0 v1 v3 v4 W) (hb : Below W.heap.size W W') : NwR w fs room power zv j0 j1 j3 j4 v0 v1 v3 v4 W' := by
  refine ⟨cells_below h.blk hb, cells_below h.out hb, h.bel.trans (hb.mono h.bel.size), Nat.le_trans h.big hb.size, row_below h.r0 hb, row_below h.r1 hb, ?_, row_below h.r4 hb, h.ap⟩
  obtain ⟨vs, h1, h2⟩ := h.r3
  have hlt : ∀ k, nwS w v0 v1 v3 v4 k → nwS w v0 v1 v3 v4 k ∨ W.heap.size ≤ k := fun k e => .inl e
  exact ⟨vs, row_below h1 hb, fun i u x e1 e2 => ⟨holdsB_sub (off_mask (off_of hb) hlt) (h2 i u x e1 e2).1, (h2 i u x e1 e2).2⟩⟩
theorem none_or {x y : Option Nat} (h : x = none ∨ x ≠ y) {b : Nat} (hx : x = some b) : y ≠ some b := by
  rcases h with h | h
  · rw [h] at hx; cases hx
  · intro e; exact h (hx.trans e.symm)
theorem nw0 {w : World} {fs : FilL} {room power : Int} {zv : Value} {j0 j1 j3 j4 : Nat} {v0 v1 v3 v4 u : Value} {W W1 w' : World} (h : NwR w fs room power zv j0 j1 j3 j4 v0 v1 v3 v4 W) (hb : Below W.heap.size W W1) (hg : W1.grownBy w' v0.ownBlock) (hr : w'.ownsRow (w.heap.size + 2) 71 2 u (j0 + 1) (cellsNm ((numbered fs).take (j0 + 1)))) (hat : ∀ k, u.ownBlock = some k → v0.ownBlock = some k ∨ W.heap.size ≤ k) :
    NwR w fs room power zv (j0 + 1) j1 j3 j4 u v1 v3 v4 (w'.setCell ⟨w.heap.size + 1, 0, none⟩ u) := by
  have hlo : ∀ k, v0.ownBlock = some k → w.heap.size + 2 ≤ k := fun k e => (World.ownsRow.lt h.r0 k e).1
  have hw1 : W1.heap.size ≤ w'.heap.size := hg.size
  have O : Off (fun k => k = w.heap.size + 1 ∨ v0.ownBlock = some k) W (w'.setCell ⟨w.heap.size + 1, 0, none⟩ u) :=
    ((off_of hb).trans (off_grown (S := fun k => k = w.heap.size + 1 ∨ v0.ownBlock = some k) hg (fun k e => .inr e)) (fun k e => .inl e)).trans (off_poke ⟨w.heap.size + 1, 0, none⟩ (.inl rfl) u) (fun k e => .inl e)
  have hB : Blk (w.heap.size + 1) w' [v0, v1, .slice none 0 0, v3, v4, .int .i64 room, zv, .int .i64 power, .int .i64 0] :=
    blk_offN (cells_below h.blk hb) (off_grown (S := fun k => v0.ownBlock = some k) hg (fun k e => e)) (fun e => by have := hlo _ e; omega)
  have hN : Sub (mask (nwS w v0 v1 v3 v4) W) (mask (nwS w u v1 v3 v4) (w'.setCell ⟨w.heap.size + 1, 0, none⟩ u)) :=
    off_mask (O.mono (fun k e => by
      rcases e with e | e
      · left; omega
      · exact .inr (.inl e))) (fun k e => by
      unfold nwS at e ⊢
      rcases e with e | e | e | e | e
      · exact .inl (.inl e)
      · rcases hat k e with g | g
        · exact .inl (.inr (.inl g))
        · exact .inr g
      · exact .inl (.inr (.inr (.inl e)))
      · exact .inl (.inr (.inr (.inr (.inl e))))
      · exact .inl (.inr (.inr (.inr (.inr e)))))
  obtain ⟨vs, hvs, h2⟩ := h.r3
  have k1 := row_offN h.r1 O (fun b e g => g.elim (fun g => by have := (World.ownsRow.lt h.r1 b e).1; omega) (fun g => none_or h.ap g e))
  have k3 := row_offN hvs O (fun b e g => g.elim (fun g => by have := (World.ownsRow.lt hvs b e).1; omega) (fun g => none_or (rows_apart h.r0 hvs (by decide)) g e))
  have k4 := row_offN h.r4 O (fun b e g => g.elim (fun g => by have := (World.ownsRow.lt h.r4 b e).1; omega) (fun g => none_or (rows_apart h.r0 h.r4 (by decide)) g e))
  have ku := row_poke (o := 0) (x := u) hr (show w.heap.size + 1 < w.heap.size + 2 by omega)
  have hbl : Below w.heap.size w (w'.setCell ⟨w.heap.size + 1, 0, none⟩ u) := h.bel.trans (O.below h.bel.size (fun k e => e.elim (fun e => by omega) (fun e => by have := hlo k e; omega)))
  have hbig : w.heap.size + 2 ≤ (w'.setCell ⟨w.heap.size + 1, 0, none⟩ u).heap.size := Nat.le_trans h.big O.size
  have ho := blk_offN h.out O (fun e => e.elim (fun e => by omega) (fun e => by have := hlo _ e; omega))
  have hbk := cells_set hB (j := 0) (by simp) u
  exact ⟨hbk, ho, hbl, hbig, ku, k1, ⟨vs, k3, fun i y x e1 e2 => ⟨holdsB_sub hN (h2 i y x e1 e2).1, (h2 i y x e1 e2).2⟩⟩, k4, (by
    cases hu : u.ownBlock with
    | none => exact .inl rfl
    | some k =>
      refine .inr (fun e => ?_)
      rcases hat k hu with g | g
      · exact none_or h.ap g e.symm
      · have := (World.ownsRow.lt h.r1 k e.symm).2; omega)⟩
theorem nw1 {w : World} {fs : FilL} {room power : Int} {zv : Value} {j0 j1 j3 j4 : Nat} {v0 v1 v3 v4 u : Value} {W W1 w' : World} (h : NwR w fs room power zv j0 j1 j3 j4 v0 v1 v3 v4 W) (hb : Below W.heap.size W W1) (hg : W1.grownBy w' v1.ownBlock) (hr : w'.ownsRow (w.heap.size + 2) 71 2 u (j1 + 1) (cellsNm ((numbered fs).take (j1 + 1)))) (hat : ∀ k, u.ownBlock = some k → v1.ownBlock = some k ∨ W.heap.size ≤ k) :
    NwR w fs room power zv j0 (j1 + 1) j3 j4 v0 u v3 v4 (w'.setCell ⟨w.heap.size + 1, 1, none⟩ u) := by
  have hlo : ∀ k, v1.ownBlock = some k → w.heap.size + 2 ≤ k := fun k e => (World.ownsRow.lt h.r1 k e).1
  have hw1 : W1.heap.size ≤ w'.heap.size := hg.size
  have O : Off (fun k => k = w.heap.size + 1 ∨ v1.ownBlock = some k) W (w'.setCell ⟨w.heap.size + 1, 1, none⟩ u) :=
    ((off_of hb).trans (off_grown (S := fun k => k = w.heap.size + 1 ∨ v1.ownBlock = some k) hg (fun k e => .inr e)) (fun k e => .inl e)).trans (off_poke ⟨w.heap.size + 1, 1, none⟩ (.inl rfl) u) (fun k e => .inl e)
  have hB : Blk (w.heap.size + 1) w' [v0, v1, .slice none 0 0, v3, v4, .int .i64 room, zv, .int .i64 power, .int .i64 0] :=
    blk_offN (cells_below h.blk hb) (off_grown (S := fun k => v1.ownBlock = some k) hg (fun k e => e)) (fun e => by have := hlo _ e; omega)
  have hN : Sub (mask (nwS w v0 v1 v3 v4) W) (mask (nwS w v0 u v3 v4) (w'.setCell ⟨w.heap.size + 1, 1, none⟩ u)) :=
    off_mask (O.mono (fun k e => by
      rcases e with e | e
      · left; omega
      · exact .inr (.inr (.inl e)))) (fun k e => by
      unfold nwS at e ⊢
      rcases e with e | e | e | e | e
      · exact .inl (.inl e)
      · exact .inl (.inr (.inl e))
      · rcases hat k e with g | g
        · exact .inl (.inr (.inr (.inl g)))
        · exact .inr g
      · exact .inl (.inr (.inr (.inr (.inl e))))
      · exact .inl (.inr (.inr (.inr (.inr e)))))
  obtain ⟨vs, hvs, h2⟩ := h.r3
  have k0 := row_offN h.r0 O (fun b e g => g.elim (fun g => by have := (World.ownsRow.lt h.r0 b e).1; omega) (fun g => none_or h.ap e g))
  have k3 := row_offN hvs O (fun b e g => g.elim (fun g => by have := (World.ownsRow.lt hvs b e).1; omega) (fun g => none_or (rows_apart h.r1 hvs (by decide)) g e))
  have k4 := row_offN h.r4 O (fun b e g => g.elim (fun g => by have := (World.ownsRow.lt h.r4 b e).1; omega) (fun g => none_or (rows_apart h.r1 h.r4 (by decide)) g e))
  have ku := row_poke (o := 1) (x := u) hr (show w.heap.size + 1 < w.heap.size + 2 by omega)
  have hbl : Below w.heap.size w (w'.setCell ⟨w.heap.size + 1, 1, none⟩ u) := h.bel.trans (O.below h.bel.size (fun k e => e.elim (fun e => by omega) (fun e => by have := hlo k e; omega)))
  have hbig : w.heap.size + 2 ≤ (w'.setCell ⟨w.heap.size + 1, 1, none⟩ u).heap.size := Nat.le_trans h.big O.size
  have ho := blk_offN h.out O (fun e => e.elim (fun e => by omega) (fun e => by have := hlo _ e; omega))
  have hbk := cells_set hB (j := 1) (by simp) u
  exact ⟨hbk, ho, hbl, hbig, k0, ku, ⟨vs, k3, fun i y x e1 e2 => ⟨holdsB_sub hN (h2 i y x e1 e2).1, (h2 i y x e1 e2).2⟩⟩, k4, (by
    cases hu : v0.ownBlock with
    | none => exact .inl rfl
    | some k =>
      refine .inr (fun e => ?_)
      rcases hat k e.symm with g | g
      · exact none_or h.ap hu g
      · have := (World.ownsRow.lt h.r0 k hu).2; omega)⟩
theorem nw3 {w : World} {fs : FilL} {room power : Int} {zv : Value} {j0 j1 j3 j4 : Nat} {v0 v1 v3 v4 u : Value} {W W1 w' : World} (h : NwR w fs room power zv j0 j1 j3 j4 v0 v1 v3 v4 W) (hb : Below W.heap.size W W1) (hg : W1.grownBy w' v3.ownBlock) (vs : List Value) (hvs : W.ownsRow (w.heap.size + 2) 67 1 v3 j3 vs) (h2 : ∀ (i : Nat) (u : Value) (x : Nm × List UInt8), vs[i]? = some u → fs[i]? = some x → HoldsB (mask (nwS w v0 v1 v3 v4) W) u x.2 ∧ ∃ a n c, u = .slice a n c) (d : Value) (hd : ∀ x, fs[j3]? = some x → HoldsB (mask (nwS w v0 v1 v3 v4) W1) d x.2 ∧ ∃ a n c, d = .slice a n c) (hr : w'.ownsRow (w.heap.size + 2) 67 1 u (j3 + 1) (vs ++ [d])) (hat1 : ∀ k, u.ownBlock = some k → v3.ownBlock = some k ∨ W1.heap.size ≤ k) :
    NwR w fs room power zv j0 j1 (j3 + 1) j4 v0 v1 u v4 (w'.setCell ⟨w.heap.size + 1, 3, none⟩ u) := by
  have hat : ∀ k, u.ownBlock = some k → v3.ownBlock = some k ∨ W.heap.size ≤ k := fun k e => (hat1 k e).elim .inl (fun g => .inr (Nat.le_trans hb.size g))
  have hlo : ∀ k, v3.ownBlock = some k → w.heap.size + 2 ≤ k := fun k e => (World.ownsRow.lt hvs k e).1
  have hw1 : W1.heap.size ≤ w'.heap.size := hg.size
  have O : Off (fun k => k = w.heap.size + 1 ∨ v3.ownBlock = some k) W (w'.setCell ⟨w.heap.size + 1, 3, none⟩ u) :=
    ((off_of hb).trans (off_grown (S := fun k => k = w.heap.size + 1 ∨ v3.ownBlock = some k) hg (fun k e => .inr e)) (fun k e => .inl e)).trans (off_poke ⟨w.heap.size + 1, 3, none⟩ (.inl rfl) u) (fun k e => .inl e)
  have hB : Blk (w.heap.size + 1) w' [v0, v1, .slice none 0 0, v3, v4, .int .i64 room, zv, .int .i64 power, .int .i64 0] :=
    blk_offN (cells_below h.blk hb) (off_grown (S := fun k => v3.ownBlock = some k) hg (fun k e => e)) (fun e => by have := hlo _ e; omega)
  have hN : Sub (mask (nwS w v0 v1 v3 v4) W) (mask (nwS w v0 v1 u v4) (w'.setCell ⟨w.heap.size + 1, 3, none⟩ u)) :=
    off_mask (O.mono (fun k e => by
      rcases e with e | e
      · left; omega
      · exact .inr (.inr (.inr (.inl e))))) (fun k e => by
      unfold nwS at e ⊢
      rcases e with e | e | e | e | e
      · exact .inl (.inl e)
      · exact .inl (.inr (.inl e))
      · exact .inl (.inr (.inr (.inl e)))
      · rcases hat k e with g | g
        · exact .inl (.inr (.inr (.inr (.inl g))))
        · exact .inr g
      · exact .inl (.inr (.inr (.inr (.inr e)))))
  have k0 := row_offN h.r0 O (fun b e g => g.elim (fun g => by have := (World.ownsRow.lt h.r0 b e).1; omega) (fun g => none_or (rows_apart hvs h.r0 (by decide)) g e))
  have k1 := row_offN h.r1 O (fun b e g => g.elim (fun g => by have := (World.ownsRow.lt h.r1 b e).1; omega) (fun g => none_or (rows_apart hvs h.r1 (by decide)) g e))
  have k4 := row_offN h.r4 O (fun b e g => g.elim (fun g => by have := (World.ownsRow.lt h.r4 b e).1; omega) (fun g => none_or (rows_apart hvs h.r4 (by decide)) g e))
  have ku := row_poke (o := 3) (x := u) hr (show w.heap.size + 1 < w.heap.size + 2 by omega)
  have hN1 : Sub (mask (nwS w v0 v1 v3 v4) W1) (mask (nwS w v0 v1 u v4) (w'.setCell ⟨w.heap.size + 1, 3, none⟩ u)) :=
    off_mask ((off_grown (S := nwS w v0 v1 v3 v4) hg (fun k e => .inr (.inr (.inr (.inl e))))).trans (off_poke (S := nwS w v0 v1 v3 v4) ⟨w.heap.size + 1, 3, none⟩ (.inl (by show w.heap.size + 1 < _; omega)) u) (fun k e => .inl e)) (fun k e => by
      unfold nwS at e ⊢
      rcases e with e | e | e | e | e
      · exact .inl (.inl e)
      · exact .inl (.inr (.inl e))
      · exact .inl (.inr (.inr (.inl e)))
      · rcases hat1 k e with g | g
        · exact .inl (.inr (.inr (.inr (.inl g))))
        · exact .inr g
      · exact .inl (.inr (.inr (.inr (.inr e)))))
  have hlen : vs.length = j3 := by have := hvs.1; omega
  have hbl : Below w.heap.size w (w'.setCell ⟨w.heap.size + 1, 3, none⟩ u) := h.bel.trans (O.below h.bel.size (fun k e => e.elim (fun e => by omega) (fun e => by have := hlo k e; omega)))
  have hbig : w.heap.size + 2 ≤ (w'.setCell ⟨w.heap.size + 1, 3, none⟩ u).heap.size := Nat.le_trans h.big O.size
  have ho := blk_offN h.out O (fun e => e.elim (fun e => by omega) (fun e => by have := hlo _ e; omega))
  have hbk := cells_set hB (j := 3) (by simp) u
  exact ⟨hbk, ho, hbl, hbig, k0, k1, ⟨vs ++ [d], ku, fun i y x e1 e2 => by
    by_cases hi : i < j3
    · rw [List.getElem?_append_left (by omega)] at e1
      exact ⟨holdsB_sub hN (h2 i y x e1 e2).1, (h2 i y x e1 e2).2⟩
    · rw [List.getElem?_append_right (by omega)] at e1
      have hz : i - vs.length = 0 := by
        rcases Nat.eq_zero_or_pos (i - vs.length) with h | h
        · exact h
        · rw [List.getElem?_eq_none (by simp; omega)] at e1; cases e1
      rw [hz] at e1
      simp only [List.getElem?_cons_zero, Option.some.injEq] at e1
      subst e1
      obtain rfl : i = j3 := by omega
      exact ⟨holdsB_sub hN1 (hd x e2).1, (hd x e2).2⟩⟩, k4, h.ap⟩
theorem nw4 {w : World} {fs : FilL} {room power : Int} {zv : Value} {j0 j1 j3 j4 : Nat} {v0 v1 v3 v4 u : Value} {W W1 w' : World} (h : NwR w fs room power zv j0 j1 j3 j4 v0 v1 v3 v4 W) (hb : Below W.heap.size W W1) (hg : W1.grownBy w' v4.ownBlock) (hr : w'.ownsRow (w.heap.size + 2) 3 1 u (j4 + 1) ((fs.take (j4 + 1)).map (fun f => I (f.2.length : Int)))) (hat : ∀ k, u.ownBlock = some k → v4.ownBlock = some k ∨ W.heap.size ≤ k) :
    NwR w fs room power zv j0 j1 j3 (j4 + 1) v0 v1 v3 u (w'.setCell ⟨w.heap.size + 1, 4, none⟩ u) := by
  have hlo : ∀ k, v4.ownBlock = some k → w.heap.size + 2 ≤ k := fun k e => (World.ownsRow.lt h.r4 k e).1
  have hw1 : W1.heap.size ≤ w'.heap.size := hg.size
  have O : Off (fun k => k = w.heap.size + 1 ∨ v4.ownBlock = some k) W (w'.setCell ⟨w.heap.size + 1, 4, none⟩ u) :=
    ((off_of hb).trans (off_grown (S := fun k => k = w.heap.size + 1 ∨ v4.ownBlock = some k) hg (fun k e => .inr e)) (fun k e => .inl e)).trans (off_poke ⟨w.heap.size + 1, 4, none⟩ (.inl rfl) u) (fun k e => .inl e)
  have hB : Blk (w.heap.size + 1) w' [v0, v1, .slice none 0 0, v3, v4, .int .i64 room, zv, .int .i64 power, .int .i64 0] :=
    blk_offN (cells_below h.blk hb) (off_grown (S := fun k => v4.ownBlock = some k) hg (fun k e => e)) (fun e => by have := hlo _ e; omega)
  have hN : Sub (mask (nwS w v0 v1 v3 v4) W) (mask (nwS w v0 v1 v3 u) (w'.setCell ⟨w.heap.size + 1, 4, none⟩ u)) :=
    off_mask (O.mono (fun k e => by
      rcases e with e | e
      · left; omega
      · exact .inr (.inr (.inr (.inr e))))) (fun k e => by
      unfold nwS at e ⊢
      rcases e with e | e | e | e | e
      · exact .inl (.inl e)
      · exact .inl (.inr (.inl e))
      · exact .inl (.inr (.inr (.inl e)))
      · exact .inl (.inr (.inr (.inr (.inl e))))
      · rcases hat k e with g | g
        · exact .inl (.inr (.inr (.inr (.inr g))))
        · exact .inr g)
  obtain ⟨vs, hvs, h2⟩ := h.r3
  have k0 := row_offN h.r0 O (fun b e g => g.elim (fun g => by have := (World.ownsRow.lt h.r0 b e).1; omega) (fun g => none_or (rows_apart h.r4 h.r0 (by decide)) g e))
  have k1 := row_offN h.r1 O (fun b e g => g.elim (fun g => by have := (World.ownsRow.lt h.r1 b e).1; omega) (fun g => none_or (rows_apart h.r4 h.r1 (by decide)) g e))
  have k3 := row_offN hvs O (fun b e g => g.elim (fun g => by have := (World.ownsRow.lt hvs b e).1; omega) (fun g => none_or (rows_apart h.r4 hvs (by decide)) g e))
  have ku := row_poke (o := 4) (x := u) hr (show w.heap.size + 1 < w.heap.size + 2 by omega)
  have hbl : Below w.heap.size w (w'.setCell ⟨w.heap.size + 1, 4, none⟩ u) := h.bel.trans (O.below h.bel.size (fun k e => e.elim (fun e => by omega) (fun e => by have := hlo k e; omega)))
  have hbig : w.heap.size + 2 ≤ (w'.setCell ⟨w.heap.size + 1, 4, none⟩ u).heap.size := Nat.le_trans h.big O.size
  have ho := blk_offN h.out O (fun e => e.elim (fun e => by omega) (fun e => by have := hlo _ e; omega))
  have hbk := cells_set hB (j := 4) (by simp) u
  exact ⟨hbk, ho, hbl, hbig, k0, k1, ⟨vs, k3, fun i y x e1 e2 => ⟨holdsB_sub hN (h2 i y x e1 e2).1, (h2 i y x e1 e2).2⟩⟩, ku, h.ap⟩
theorem nw_start (w : World) (fs : FilL) (room power : Int) (zv : Value) : NwR w fs room power zv 0 0 0 0 (.slice none 0 0) (.slice none 0 0) (.slice none 0 0) (.slice none 0 0)
    ((w.alloc (.cells #[.slice none 0 0, .slice none 0 0, .slice none 0 0, .slice none 0 0, .slice none 0 0, .int .i64 0, .slice none 0 0, .int .i64 0, .int .i64 0] 38)).alloc (.cells #[.slice none 0 0, .slice none 0 0, .slice none 0 0, .slice none 0 0, .slice none 0 0, .int .i64 room, zv, .int .i64 power, .int .i64 0] 38)) := by
  have a1 := cells_lit w #[.slice none 0 0, .slice none 0 0, .slice none 0 0, .slice none 0 0, .slice none 0 0, .int .i64 0, .slice none 0 0, .int .i64 0, .int .i64 0] 38
  have b1 := below_alloc' w (.cells #[.slice none 0 0, .slice none 0 0, .slice none 0 0, .slice none 0 0, .slice none 0 0, .int .i64 0, .slice none 0 0, .int .i64 0, .int .i64 0] 38)
  have z1 : (w.alloc (.cells #[.slice none 0 0, .slice none 0 0, .slice none 0 0, .slice none 0 0, .slice none 0 0, .int .i64 0, .slice none 0 0, .int .i64 0, .int .i64 0] 38)).heap.size = w.heap.size + 1 := by simp
  generalize w.alloc (.cells #[.slice none 0 0, .slice none 0 0, .slice none 0 0, .slice none 0 0, .slice none 0 0, .int .i64 0, .slice none 0 0, .int .i64 0, .int .i64 0] 38) = B1 at a1 b1 z1 ⊢
  have a2 := cells_lit B1 #[.slice none 0 0, .slice none 0 0, .slice none 0 0, .slice none 0 0, .slice none 0 0, .int .i64 room, zv, .int .i64 power, .int .i64 0] 38
  have b2 := below_alloc' B1 (.cells #[.slice none 0 0, .slice none 0 0, .slice none 0 0, .slice none 0 0, .slice none 0 0, .int .i64 room, zv, .int .i64 power, .int .i64 0] 38)
  have z2 : (B1.alloc (.cells #[.slice none 0 0, .slice none 0 0, .slice none 0 0, .slice none 0 0, .slice none 0 0, .int .i64 room, zv, .int .i64 power, .int .i64 0] 38)).heap.size = w.heap.size + 2 := by simp [z1]
  generalize B1.alloc (.cells #[.slice none 0 0, .slice none 0 0, .slice none 0 0, .slice none 0 0, .slice none 0 0, .int .i64 room, zv, .int .i64 power, .int .i64 0] 38) = B2 at a2 b2 z2 ⊢
  rw [z1] at a2
  exact ⟨a2, cells_below a1 b2, b1.trans (b2.mono (by omega)), by omega, World.ownsRow_nil _ _ _ _, World.ownsRow_nil _ _ _ _, ⟨[], World.ownsRow_nil _ _ _ _, fun i u x e => by simp at e⟩, World.ownsRow_nil _ _ _ _, .inl rfl⟩
end Go.Proofs.YtijnjgnckipghaaGreat
namespace Go.Proofs.YtijnjgnckipghaaGreat
open Go.RowKit
theorem row_slQ {w : World} {base k n : Nat} {t : TypeId} {v : Value} {cs : List Value} (h : w.ownsRow base t k v n cs) : ∃ a c, v = .slice a n c := by
  rcases h.2 with ⟨rfl, hn⟩ | ⟨x, cap, cur, rfl, _⟩
  · exact ⟨none, 0, by rw [hn]⟩
  · exact ⟨_, cap, rfl⟩
/-- a world with one more block of these cells -/
def Lit1 (wl X : World) (cs : List Value) : Prop := Below wl.heap.size wl X ∧ X.heap.size = wl.heap.size + 1 ∧ ∀ i u, cs[i]? = some u → X.cell? ⟨wl.heap.size, i, none⟩ = some u
theorem lit1_alloc (wl : World) (cs : List Value) (t : TypeId) : Lit1 wl (wl.alloc (.cells cs.toArray t)) cs := by
  refine ⟨below_alloc' wl _, by simp, fun i u hu => ?_⟩
  unfold World.cell?
  rw [heap_alloc_new]
  simpa using hu
theorem lit1_drew (wl : World) (cs : List Value) (t : TypeId) : Lit1 wl (wl.alloc (.cells cs.toArray t)).drew cs := by
  obtain ⟨h1, _, h3⟩ := lit1_alloc wl cs t
  exact ⟨h1.drew, by simp, fun i u hu => by simpa using h3 i u hu⟩
/-- one element, laid in a new block, appended to a row inside a drawn region -/
theorem step_appG {ops : Array Oper} {o : Oper} {a : Act} {K : Act → World → Prop} {Q : Exit → Act → World → Prop} {E : Prop} {X : World} (wl : World) (cs : List Value) (hX : Lit1 wl X cs) (hgd : o.guard = none) (s x : Operand) (st t : TypeId) (zv : Value) (k nb : Nat)
    (hus : Tryz.prog.underlying st = some (.slice t)) (hinfo : (Tryz.prog.info? t).map (fun i => (i.zero, i.size, i.bytes)) = some (some zv, k, nb)) (hzc : zv.cells.size = k) (hk : 0 < k)
    (ho : o.op = .call { callee := .builtin .append, args := #[s, x], argTypes := #[st, st] }) (base : Nat) (v : Value) (n : Nat) (xs : List Value) (hs : a.eval s = v) (hown : wl.ownsRow base t k v n xs)
    (hx : a.eval x = .slice (some ⟨wl.heap.size, 0, none⟩) 1 1) (hl : cs.length = k) (h1 : ∀ u ∈ cs, u.oneCell' = true) (hn : n ≤ 1000000000) (hnb : nb ≤ 1000) (hb : base ≤ wl.heap.size)
    (h : ∀ g cap w', w'.ownsRow base t k (.slice (some ⟨g, 0, none⟩) (n + 1) cap) (n + 1) (xs ++ cs) → X.grownBy w' v.ownBlock → (v.ownBlock = some g ∨ g = wl.heap.size + 1) → K (a.put o.dst (.slice (some ⟨g, 0, none⟩) (n + 1) cap)) w') :
    if Region.wanted o (yielded ops a.tmps) = true then Oper.wp Tryz.prog o a X K Q else E := by
  obtain ⟨i0, hi, hz0, hz1, hz2⟩ := info_parts hinfo
  obtain ⟨x1, x2, x3⟩ := hX
  have hle : (n + 1) * nb ≤ 140737488355328 := by
    have := Nat.mul_le_mul (show n + 1 ≤ 1000000001 by omega) hnb
    omega
  refine step_append_lies _ hgd s x st ho base t i0 zv k nb hus hi hz0 hz1 hz2 hzc hk v n xs hs (row_below hown x1) ⟨wl.heap.size, 0, none⟩ 1 1 cs hx (by omega) ?_ h1 (by decide) (by unfold maxLen; omega) hle (by omega) (wl.heap.size + 1) x2 (fun g cap w' r1 r2 r3 _ => h g cap w' r1 r2 r3)
  intro i u hu
  rw [Go.WideShapes.add_plain, Nat.zero_add]
  exact x3 i u hu
/-- a call of CopyBytes inside a drawn region, by its contract -/
theorem step_copyG {ops : Array Oper} {o : Oper} {a : Act} {K : Act → World → Prop} {Q : Exit → Act → World → Prop} {E : Prop} {X : World} {R : Ending → World → Prop} (hgd : o.guard = none) (x : Operand) (ty : TypeId)
    (ho : o.op = .call { callee := .value (.func 23), args := #[x], argTypes := #[ty] }) (v : Value) (hv : a.eval x = v) (hc : Calls Tryz.prog 23 #[v] X R)
    (h : ∀ e w', R e w' → ∃ u, e = .returned u ∧ K (a.put o.dst u) w') : if Region.wanted o (yielded ops a.tmps) = true then Oper.wp Tryz.prog o a X K Q else E := by
  have hw : Region.wanted o (yielded ops a.tmps) = true := by simp [Region.wanted, hgd]
  rw [if_pos hw]
  subst hv
  have hrun : (execOp a.eval o).run Tryz.prog X = .ok (.enter 23 #[a.eval x]) X := by
    simp only [execOp, ho]
    simp [resolve, invoke, Deferred.ofValue, go_sem]
  unfold Oper.wp
  rw [hrun, Oper.upon_enter]
  refine hc.mono ?_
  intro e w' hr
  obtain ⟨u, rfl, hk⟩ := h e w' hr
  exact hk
section
variable {w : World} {fs : FilL} {room power : Int} {zv : Value} {j0 j1 j3 j4 : Nat} {v0 v1 v3 v4 : Value} {W W1 w' : World}
theorem nwB {v : Value} (h : NwR w fs room power zv j0 j1 j3 j4 v0 v1 v3 v4 W) (hb : Below W.heap.size W W1) (hg : W1.grownBy w' v.ownBlock) (hlo : ∀ k, v.ownBlock = some k → w.heap.size + 2 ≤ k) :
    Blk (w.heap.size + 1) w' [v0, v1, .slice none 0 0, v3, v4, .int .i64 room, zv, .int .i64 power, .int .i64 0] :=
  blk_offN (cells_below h.blk hb) (off_grown (S := fun k => v.ownBlock = some k) hg (fun k e => e)) (fun e => by have := hlo _ e; omega)
theorem nm_next (fs : FilL) (j : Nat) (hj : j < fs.length) : cellsNm ((numbered fs).take (j + 1)) = cellsNm ((numbered fs).take j) ++ [S (fs[j]).1, .int .i64 (j : Int)] := by
  have hj' : j < (numbered fs).length := by rw [num_len]; exact hj
  rw [List.take_succ_eq_append_getElem hj', cellsNm_app, num_get]
  rfl
theorem at_of {gb m n c : Nat} {v : Value} (hat : v.ownBlock = some gb ∨ gb = m + 1) (hm : n ≤ m + 1) : ∀ k, (Value.slice (some ⟨gb, 0, none⟩) j0 c).ownBlock = some k → v.ownBlock = some k ∨ n ≤ k := by
  intro k e
  simp only [Value.ownBlock, Option.some.injEq] at e
  subst e
  rcases hat with h | h
  · exact .inl h
  · exact .inr (by omega)
theorem fin0 {wl w6 X : World} {gb gc : Nat} {y : ByteArray} (h : NwR w fs room power zv j0 j1 j3 j4 v0 v1 v3 v4 W) (hj : j0 < fs.length) (hy : S (fs[j0]).1 = .string y) (hb : Below W.heap.size W wl) (hX : Lit1 wl X [.string y, .int .i64 (j0 : Int)])
    (hr : w6.ownsRow (w.heap.size + 2) 71 2 (.slice (some ⟨gb, 0, none⟩) (j0 + 1) gc) (j0 + 1) (cellsNm ((numbered fs).take j0) ++ [.string y, .int .i64 (j0 : Int)]))
    (hg : X.grownBy w6 v0.ownBlock) (hat : v0.ownBlock = some gb ∨ gb = wl.heap.size + 1) :
    NwR w fs room power zv (j0 + 1) j1 j3 j4 (.slice (some ⟨gb, 0, none⟩) (j0 + 1) gc) v1 v3 v4 (w6.setCell ⟨w.heap.size + 1, 0, none⟩ (.slice (some ⟨gb, 0, none⟩) (j0 + 1) gc)) ∧ Blk (w.heap.size + 1) w6 [v0, v1, .slice none 0 0, v3, v4, .int .i64 room, zv, .int .i64 power, .int .i64 0] := by
  have hb2 : Below W.heap.size W X := hb.trans (hX.1.mono hb.size)
  refine ⟨nw0 h hb2 hg ?_ (at_of hat (Nat.le_succ_of_le hb.size)), nwB h hb2 hg (fun k e => (World.ownsRow.lt h.r0 k e).1)⟩
  rw [nm_next fs j0 hj, hy]
  exact hr
theorem fin1 {wl w6 X : World} {gb gc : Nat} {y : ByteArray} (h : NwR w fs room power zv j0 j1 j3 j4 v0 v1 v3 v4 W) (hj : j1 < fs.length) (hy : S (fs[j1]).1 = .string y) (hb : Below W.heap.size W wl) (hX : Lit1 wl X [.string y, .int .i64 (j1 : Int)])
    (hr : w6.ownsRow (w.heap.size + 2) 71 2 (.slice (some ⟨gb, 0, none⟩) (j1 + 1) gc) (j1 + 1) (cellsNm ((numbered fs).take j1) ++ [.string y, .int .i64 (j1 : Int)]))
    (hg : X.grownBy w6 v1.ownBlock) (hat : v1.ownBlock = some gb ∨ gb = wl.heap.size + 1) :
    NwR w fs room power zv j0 (j1 + 1) j3 j4 v0 (.slice (some ⟨gb, 0, none⟩) (j1 + 1) gc) v3 v4 (w6.setCell ⟨w.heap.size + 1, 1, none⟩ (.slice (some ⟨gb, 0, none⟩) (j1 + 1) gc)) ∧ Blk (w.heap.size + 1) w6 [v0, v1, .slice none 0 0, v3, v4, .int .i64 room, zv, .int .i64 power, .int .i64 0] := by
  have hb2 : Below W.heap.size W X := hb.trans (hX.1.mono hb.size)
  refine ⟨nw1 h hb2 hg ?_ (at_of hat (Nat.le_succ_of_le hb.size)), nwB h hb2 hg (fun k e => (World.ownsRow.lt h.r1 k e).1)⟩
  rw [nm_next fs j1 hj, hy]
  exact hr
theorem fin4 {wl w6 X : World} {gb gc : Nat} {L : Nat} (h : NwR w fs room power zv j0 j1 j3 j4 v0 v1 v3 v4 W) (hj : j4 < fs.length) (hy : (fs[j4]).2.length = L) (hb : Below W.heap.size W wl) (hX : Lit1 wl X [.int .i64 (L : Int)])
    (hr : w6.ownsRow (w.heap.size + 2) 3 1 (.slice (some ⟨gb, 0, none⟩) (j4 + 1) gc) (j4 + 1) ((fs.take j4).map (fun f => I (f.2.length : Int)) ++ [.int .i64 (L : Int)]))
    (hg : X.grownBy w6 v4.ownBlock) (hat : v4.ownBlock = some gb ∨ gb = wl.heap.size + 1) :
    NwR w fs room power zv j0 j1 j3 (j4 + 1) v0 v1 v3 (.slice (some ⟨gb, 0, none⟩) (j4 + 1) gc) (w6.setCell ⟨w.heap.size + 1, 4, none⟩ (.slice (some ⟨gb, 0, none⟩) (j4 + 1) gc)) ∧ Blk (w.heap.size + 1) w6 [v0, v1, .slice none 0 0, v3, v4, .int .i64 room, zv, .int .i64 power, .int .i64 0] := by
  have hb2 : Below W.heap.size W X := hb.trans (hX.1.mono hb.size)
  refine ⟨nw4 h hb2 hg ?_ (at_of hat (Nat.le_succ_of_le hb.size)), nwB h hb2 hg (fun k e => (World.ownsRow.lt h.r4 k e).1)⟩
  rw [List.take_succ_eq_append_getElem hj, List.map_append]
  subst hy
  exact hr
theorem fin3 {wl w6 X : World} {gb gc : Nat} {d : Value} {vs : List Value} (h : NwR w fs room power zv j0 j1 j3 j4 v0 v1 v3 v4 W) (hvs : W.ownsRow (w.heap.size + 2) 67 1 v3 j3 vs)
    (h2 : ∀ (i : Nat) (u : Value) (x : Nm × List UInt8), vs[i]? = some u → fs[i]? = some x → HoldsB (mask (nwS w v0 v1 v3 v4) W) u x.2 ∧ ∃ a n c, u = .slice a n c)
    (hj : j3 < fs.length) (hd : HoldsB (mask (fun k => k < W.heap.size) wl) d (fs[j3]).2) (hb : Below W.heap.size W wl) (hX : Lit1 wl X [d])
    (hr : w6.ownsRow (w.heap.size + 2) 67 1 (.slice (some ⟨gb, 0, none⟩) (j3 + 1) gc) (j3 + 1) (vs ++ [d]))
    (hg : X.grownBy w6 v3.ownBlock) (hat : v3.ownBlock = some gb ∨ gb = wl.heap.size + 1) :
    NwR w fs room power zv j0 j1 (j3 + 1) j4 v0 v1 (.slice (some ⟨gb, 0, none⟩) (j3 + 1) gc) v4 (w6.setCell ⟨w.heap.size + 1, 3, none⟩ (.slice (some ⟨gb, 0, none⟩) (j3 + 1) gc)) ∧ Blk (w.heap.size + 1) w6 [v0, v1, .slice none 0 0, v3, v4, .int .i64 room, zv, .int .i64 power, .int .i64 0] := by
  have hb2 : Below W.heap.size W X := hb.trans (hX.1.mono hb.size)
  refine ⟨nw3 h hb2 hg vs hvs h2 d ?_ hr (at_of hat (by rw [hX.2.1]; exact Nat.le_refl _)), nwB h hb2 hg (fun k e => (World.ownsRow.lt hvs k e).1)⟩
  intro x hx
  rw [List.getElem?_eq_getElem hj, Option.some.injEq] at hx
  subst hx
  have hS : ∀ k, nwS w v0 v1 v3 v4 k → k < W.heap.size := fun k e => by
    have hbig := h.big
    rcases e with e | e | e | e | e
    · omega
    · exact (World.ownsRow.lt h.r0 k e).2
    · exact (World.ownsRow.lt h.r1 k e).2
    · exact (World.ownsRow.lt hvs k e).2
    · exact (World.ownsRow.lt h.r4 k e).2
  refine ⟨holdsB_sub ((new_mask hS).trans (off_mask (off_of hX.1) (fun k e => .inl e))) hd, ?_⟩
  obtain ⟨a, c, e, _⟩ := hd
  exact ⟨a, _, c, e⟩
theorem nw_end (h : NwR w fs room power zv j0 j1 j3 j4 v0 v1 v3 v4 W) (x0 x1 x2 x3 x4 x5 x6 x7 x8 : Value) :
    Blk w.heap.size (putFrom w.heap.size 0 W [x0, x1, x2, x3, x4, x5, x6, x7, x8]) [x0, x1, x2, x3, x4, x5, x6, x7, x8] ∧ Below w.heap.size w (putFrom w.heap.size 0 W [x0, x1, x2, x3, x4, x5, x6, x7, x8]) := by
  refine ⟨?_, below_put (Nat.le_refl _) _ 0 W h.bel⟩
  have := cells_putFrom [x0, x1, x2, x3, x4, x5, x6, x7, x8] 0 W zer9 h.out (by simp [zer9])
  have e : zer9.drop (0 + [x0, x1, x2, x3, x4, x5, x6, x7, x8].length) = [] := List.drop_eq_nil_of_le (by simp [zer9])
  rw [e] at this
  simpa using this
theorem held_maskR {base k n : Nat} {t : TypeId} {v : Value} {cs : List Value} (h : W.ownsRow base t k v n cs) : Held (mask (fun x => x < base) W) v k n cs := by
  obtain ⟨hl, ao, cap, rfl, h0, hcp, hc⟩ := held_row h
  refine ⟨hl, ao, cap, rfl, h0, hcp, fun hne => ?_⟩
  obtain ⟨b, off, rfl, hlt, hcell⟩ := hc hne
  have hb : base ≤ b := (h.lt b rfl).1
  exact ⟨b, off, rfl, by rw [mask_size]; exact hlt, fun j u hj => by rw [mask_cell W (show ¬ (⟨b, off + j, none⟩ : Addr).block < base by show ¬ b < base; omega)]; exact hcell j u hj⟩
theorem nw_ref {S : Nat → Prop} (hS : ∀ k, S k → k < w.heap.size) {n nz : Nat} {a0 a1 a3 a4 za : Option Addr} {d0 d1 d3 d4 zc : Nat} {zs : List Int} (h : NwR w fs room power (.slice za nz zc) n n n n (.slice a0 n d0) (.slice a1 n d1) (.slice a3 n d3) (.slice a4 n d4) W) (hn : fs.length = n) (hz : HoldsI (mask S w) (.slice za nz zc) zs) :
    RefV (mask (fun k => S k ∨ k = w.heap.size) W) ⟨a0, n, d0⟩ ⟨a1, n, d1⟩ ⟨none, 0, 0⟩ ⟨a3, n, d3⟩ ⟨a4, n, d4⟩ ⟨za, nz, zc⟩ (newS fs room zs power) := by
  have hlt2 : ∀ k, (S k ∨ k = w.heap.size) → k < w.heap.size + 2 := fun k e => e.elim (fun e => by have := hS k e; omega) (fun e => by omega)
  have hs : Sub (mask (fun x => x < w.heap.size + 2) W) (mask (fun k => S k ∨ k = w.heap.size) W) := mask_mono (fun k e => hlt2 k e)
  have e1 : (numbered fs).take n = numbered fs := List.take_of_length_le (by rw [num_len]; omega)
  have r0 := held_maskR h.r0
  have r1 := held_maskR h.r1
  have r4 := held_maskR h.r4
  rw [e1] at r0 r1
  rw [List.take_of_length_le (by omega)] at r4
  have hl : (numbered fs).length = n := by rw [num_len]; exact hn
  obtain ⟨vs, hvs, h2⟩ := h.r3
  have r3 := held_maskR hvs
  have hvl : vs.length = n := by have := hvs.1; omega
  refine ⟨?_, ?_, heldL_nil _ _, ?_, ?_, ?_⟩
  · show Held _ (.slice a0 n d0) 2 (numbered fs).length _
    rw [hl]; exact held_sub hs r0
  · show Held _ (.slice a1 n d1) 2 (numbered fs).length _
    rw [hl]; exact held_sub hs r1
  · refine ⟨vs, by rw [hvl]; exact held_sub hs r3, by show vs.length = (fs.map _).length; rw [List.length_map]; omega, fun i u x e1 e2 => ?_⟩
    have e3 : ∃ y, fs[i]? = some y ∧ y.2 = x := by
      have : (fs.map (fun f => f.2))[i]? = some x := e2
      rw [List.getElem?_map] at this
      exact Option.map_eq_some_iff.1 this
    obtain ⟨y, e4, e5⟩ := e3
    obtain ⟨g1, g2⟩ := h2 i u y e1 e4
    rw [e5] at g1
    exact ⟨holdsB_sub (mask_mono (fun k e => by show nwS _ _ _ _ _ k; left; exact hlt2 k e)) g1, g2⟩
  · have e : (fs.map (fun f => f.2.length)).map (fun n : Nat => (n : Int)) = fs.map (fun f => (f.2.length : Int)) := by rw [List.map_map]; rfl
    show HoldsI _ (.slice a4 n d4) ((fs.map (fun f => f.2.length)).map (fun n : Nat => (n : Int)))
    rw [e]
    refine held_to_I (held_sub hs ?_)
    rw [List.map_map]
    exact r4
  · refine holdsI_sub ?_ hz
    refine ⟨by rw [mask_size, mask_size]; exact h.bel.size, fun a v e => ?_⟩
    have hno := mask_not e
    rw [mask_cell w hno] at e
    have hlt := cell_lt e
    rw [mask_cell W (show ¬ (S a.block ∨ a.block = w.heap.size) from fun g => g.elim hno (fun g => by omega)), h.bel.cell hlt]
    exact e
theorem nw_refS {S : Nat → Prop} (hS : ∀ k, S k → k < w.heap.size) {n nz : Nat} {a0 a1 a3 a4 za : Option Addr} {d0 d1 d3 d4 zc : Nat} {zs : List Int} (h : NwR w fs room power (.slice za nz zc) n n n n (.slice a0 n d0) (.slice a1 n d1) (.slice a3 n d3) (.slice a4 n d4) W) (hn : fs.length = n) (hz : HoldsI (mask S w) (.slice za nz zc) zs) (xs : List Value) :
    RefS (mask S (putFrom w.heap.size 0 W xs)) (.agg #[.slice a0 n d0, .slice a1 n d1, .slice none 0 0, .slice a3 n d3, .slice a4 n d4, .int .i64 room, .slice za nz zc, .int .i64 power, .int .i64 0]) (newS fs room zs power) := by
  refine ⟨⟨a0, n, d0⟩, ⟨a1, n, d1⟩, ⟨none, 0, 0⟩, ⟨a3, n, d3⟩, ⟨a4, n, d4⟩, ⟨za, nz, zc⟩, rfl, refV_sub (nw_ref hS h hn hz) ?_⟩
  exact off_mask (S := fun k => S k ∨ k = w.heap.size) (S' := S) (off_put (S := fun k => S k ∨ k = w.heap.size) (b := w.heap.size) (.inr rfl) xs 0 W) (fun _ e => .inl (.inl e))
end
end Go.Proofs.YtijnjgnckipghaaGreat
namespace Go.Proofs.YtijnjgnckipghaaGreat
open Go.RowKit
set_option maxRecDepth 20000 in
set_option maxHeartbeats 16000000 in
theorem newRC {Sx : Nat → Prop} {w : World} (hS : ∀ k, Sx k → k < w.heap.size) (fv : Value) (fs : FilL) (room : Int) (zv : Value) (zs : List Int) (power : Int) (hv : HoldsFi w fv fs) (hz : HoldsI (mask Sx w) zv zs) (hl : ∀ f ∈ fs, f.1.length ≤ 140737488351232 ∧ f.2.length ≤ 1000000000) (hn : fs.length ≤ 1000000000) :
    Calls Tryz.prog 6 #[fv, .int .i64 room, zv, .int .i64 power] w fun e w' => ∃ x0 x1 x2 x3 x4 x5 x6 x7 x8, e = .returned (.tuple #[.agg #[x0, x1, x2, x3, x4, x5, x6, x7, x8], .int .i64 (newE fs room)]) ∧ Below w.heap.size w w' ∧ (newE fs room = 0 → RefS (mask Sx w') (.agg #[x0, x1, x2, x3, x4, x5, x6, x7, x8]) (newS fs room zs power)) ∧ (newE fs room ≠ 0 → [x0, x1, x2, x3, x4, x5, x6, x7, x8] = [.slice none 0 0, .slice none 0 0, .slice none 0 0, .slice none 0 0, .slice none 0 0, .int .i64 0, .slice none 0 0, .int .i64 0, .int .i64 0]) := by
  obtain ⟨ao, ca, rfl, h0, hcp, hca⟩ := hv
  obtain ⟨za, zc, hzv, _⟩ := id hz
  subst hzv
  obtain ⟨n, hnn⟩ : ∃ n, n = fs.length := ⟨_, rfl⟩
  have N1 : Hid (fs.length = n) := hnn.symm
  obtain ⟨nz, hnz⟩ : ∃ n, n = zs.length := ⟨_, rfl⟩
  have NZ : Hid (zs.length = nz) := hnz.symm
  have HZ := hide' hz
  have HSS := hide' hS
  rw [NZ.out] at HZ ⊢
  rw [N1.out] at hcp ⊢
  have hn1 : n ≤ 1000000000 := by omega
  have HC := hide' hca
  have HL := hide' hl
  clear hca hl hz hnz hnn hn hS
  have X1 := hide' (cells_lit w #[.slice none 0 0, .slice none 0 0, .slice none 0 0, .slice none 0 0, .slice none 0 0, .int .i64 0, .slice none 0 0, .int .i64 0, .int .i64 0] 38)
  have BE := hide' (below_alloc' w (.cells #[.slice none 0 0, .slice none 0 0, .slice none 0 0, .slice none 0 0, .slice none 0 0, .int .i64 0, .slice none 0 0, .int .i64 0, .int .i64 0] 38))
  by_cases hroom : room < 0 ∨ 1073741824 < room
  · have eE : Hid (newE fs room = 131) := by unfold Hid newE; rw [if_pos hroom]
    rcases hroom with hr | hr
    · have d1 : decide (room < 0) = true := by simpa using hr
      clear hr
      go_enter Tryz.func6, Tryz.ntmps6
      go_wp2_with fail
      exact bodyPost_ret (v := .tuple #[.agg #[.slice none 0 0, .slice none 0 0, .slice none 0 0, .slice none 0 0, .slice none 0 0, .int .i64 0, .slice none 0 0, .int .i64 0, .int .i64 0], .int .i64 131]) (by simp [results, Tryz.results6, go_sem]) rfl ⟨.slice none 0 0, .slice none 0 0, .slice none 0 0, .slice none 0 0, .slice none 0 0, .int .i64 0, .slice none 0 0, .int .i64 0, .int .i64 0, by rw [eE.out], BE.out, (fun h => by rw [eE.out] at h; cases h), fun _ => by first | rfl | exact ⟨rfl, rfl, rfl, rfl, rfl, rfl, rfl, rfl, rfl⟩⟩
    · have d1 : decide (room < 0) = false := by simp; omega
      have d2 : decide (1073741824 < room) = true := by simpa using hr
      clear hr
      go_enter Tryz.func6, Tryz.ntmps6
      go_wp2_with fail
      exact bodyPost_ret (v := .tuple #[.agg #[.slice none 0 0, .slice none 0 0, .slice none 0 0, .slice none 0 0, .slice none 0 0, .int .i64 0, .slice none 0 0, .int .i64 0, .int .i64 0], .int .i64 131]) (by simp [results, Tryz.results6, go_sem]) rfl ⟨.slice none 0 0, .slice none 0 0, .slice none 0 0, .slice none 0 0, .slice none 0 0, .int .i64 0, .slice none 0 0, .int .i64 0, .int .i64 0, by rw [eE.out], BE.out, (fun h => by rw [eE.out] at h; cases h), fun _ => by first | rfl | exact ⟨rfl, rfl, rfl, rfl, rfl, rfl, rfl, rfl, rfl⟩⟩
  · have eE : Hid (newE fs room = if filesOk fs = true then 0 else 95) := by unfold Hid newE; rw [if_neg hroom]
    have d1 : decide (room < 0) = false := by simp; omega
    have d2 : decide (1073741824 < room) = false := by simp; omega
    clear hroom
    go_enter Tryz.func6, Tryz.ntmps6
    go_wp2_with fail
    have NW := hide' (nw_start w fs room power (.slice za nz zc))
    have HBw : Hid (Below w.heap.size w w) := Below.refl _ _
    go_loopw [11] (fun i wr => ∃ (j : Nat) (v0 v1 v3 v4 : Value), j ≤ n ∧ i = .int .i64 j ∧ Hid (filesOk (fs.take j) = true) ∧ Hid (NwR w fs room power (.slice za nz zc) j j j j v0 v1 v3 v4 wr)) (fun i _ => n - (intOf i).toNat)
    case atStart => exact ⟨0, _, _, _, _, by omega, rfl, rfl, NW⟩
    case round =>
      clear NW
      obtain ⟨j, v0, v1, v3, v4, hj, rfl, hE, NW⟩ := hrel
      have HB := hide' NW.out.bel
      by_cases hlt : j < n
      · have G : Hid (j < fs.length) := by unfold Hid; rw [N1.out]; exact hlt
        obtain ⟨b1, o1, rfl, hlt1, hcell⟩ := HC.out (fun e => by have := G.out; rw [e] at this; exact absurd this (Nat.not_lt_zero _))
        obtain ⟨x1, u, x2, x3⟩ := hcell j G.out
        obtain ⟨ua, uc, hu, _⟩ := x3
        subst hu
        rw [← HB.out.cell (p := ⟨b1, o1 + j * 2, none⟩) hlt1] at x1
        rw [← HB.out.cell (p := ⟨b1, o1 + j * 2 + 1, none⟩) hlt1] at x2
        have hb1 : b1 < wr.heap.size := Nat.lt_of_lt_of_le hlt1 HB.out.size
        unfold S at x1
        go_wp2_with fail
        go_cut [53] (fun bv wx => bv = .bool (!filesOk (fs.take (j + 1))) ∧ ∃ m, Hid (wx = wr.drewN m))
        case first =>
          have cg : ∀ wx, Calls Tryz.prog 22 #[.string ⟨((fs[j]'G.out).1).toArray⟩] wx fun e w' => e = .returned (.bool (goodN (fs[j]'G.out).1)) ∧ w' = wx := fun wx => by
            have h := goodRC ⟨((fs[j]'G.out).1).toArray⟩ wx (by rw [size_l]; exact (HL.out _ (List.getElem_mem _)).1)
            simpa using h
          cases hg : goodN (fs[j]'G.out).1 with
          | false =>
            have A : Hid (filesOk (fs.take (j + 1)) = false) := by
              unfold Hid
              cases j with
              | zero => rw [ok_first fs G.out]; exact hg
              | succ i => rw [ok_next fs i G.out, hg]; simp
            rw [hg] at cg
            generalize (⟨((fs[j]'G.out).1).toArray⟩ : ByteArray) = y at x1 cg
            have CG := hide' cg
            clear cg hg
            go_quiet (first | (go_at_call 22; refine Calls.quiet_of_same (CG.out _)))
            go_wp2_with fail
            go_meet
            exact ⟨by rw [A.out]; rfl, _, rfl⟩
          | true =>
            rcases Nat.eq_zero_or_pos j with hj0 | hj0
            · have A : Hid (filesOk (fs.take (j + 1)) = true) := by
                unfold Hid
                have G' := G.out
                subst hj0
                rw [ok_first fs G']; exact hg
              have q0 : decide (0 < j) = false := by rw [hj0]; rfl
              rw [hg] at cg
              generalize (⟨((fs[j]'G.out).1).toArray⟩ : ByteArray) = y at x1 cg
              have CG := hide' cg
              clear cg hg hj0
              go_quiet (first | (go_at_call 22; refine Calls.quiet_of_same (CG.out _)))
              go_wp2_with fail
              go_meet
              exact ⟨by rw [A.out]; rfl, _, rfl⟩
            · obtain ⟨i, hij⟩ : ∃ i, j = i + 1 := ⟨j - 1, by omega⟩
              have hi : i < fs.length := by have := G.out; omega
              have x0 := (hcell i hi).1
              rw [← HB.out.cell (p := ⟨b1, o1 + i * 2, none⟩) hlt1] at x0
              unfold S at x0
              have hle : (Op.bytesLess (⟨((fs[j]'G.out).1).toArray⟩ : ByteArray).toList (⟨((fs[i]'hi).1).toArray⟩ : ByteArray).toList || (⟨((fs[j]'G.out).1).toArray⟩ : ByteArray).toList == (⟨((fs[i]'hi).1).toArray⟩ : ByteArray).toList) = !(lessN (fs[i]'hi).1 (fs[j]'G.out).1) := by
                rw [Lib.toList_data, Lib.toList_data]
                exact le_less (fs[i]'hi).1 (fs[j]'G.out).1
              have ON : filesOk (fs.take (j + 1)) = (filesOk (fs.take j) && (goodN (fs[j]'G.out).1 && lessN (fs[i]'hi).1 (fs[j]'G.out).1)) := by
                have G' := G.out
                subst hij
                exact ok_next fs i G'
              rw [hE.out, hg, Bool.true_and, Bool.true_and] at ON
              have qj : (0 : Int) < (j : Int) := by omega
              have qw : IntKind.i64.wrap ((j : Int) - 1) = (i : Int) := by rw [wrap_small _ (by omega) (by omega)]; omega
              have qi0 : (0 : Int) ≤ (i : Int) := by omega
              have qin : (i : Int) < (n : Int) := by have := N1.out; omega
              rw [hg] at cg
              generalize (⟨((fs[j]'G.out).1).toArray⟩ : ByteArray) = y at x1 cg hle
              generalize (⟨((fs[i]'hi).1).toArray⟩ : ByteArray) = y0 at x0 hle
              cases hc : lessN (fs[i]'hi).1 (fs[j]'G.out).1 with
              | true =>
                rw [hc] at ON hle
                have A := hide' ON
                have hr : ∀ W, Sem.run Tryz.prog (binOp .leq 9 (.string y) (.string y0)) W = .ok (.bool false) W := fun W => by
                  show Result.ok (Value.bool (Op.bytesLess y.toList y0.toList || y.toList == y0.toList)) W = _
                  rw [hle]; rfl
                have CG := hide' cg
                clear hle cg hg hij ON hc hi
                go_quiet (first | (go_at_call 22; refine Calls.quiet_of_same (CG.out _)))
                go_wp2_with fail
                go_meet
                exact ⟨by rw [A.out]; rfl, _, rfl⟩
              | false =>
                rw [hc] at ON hle
                have A := hide' ON
                have hr : ∀ W, Sem.run Tryz.prog (binOp .leq 9 (.string y) (.string y0)) W = .ok (.bool true) W := fun W => by
                  show Result.ok (Value.bool (Op.bytesLess y.toList y0.toList || y.toList == y0.toList)) W = _
                  rw [hle]; rfl
                have CG := hide' cg
                clear hle cg hg hij ON hc hi
                go_quiet (first | (go_at_call 22; refine Calls.quiet_of_same (CG.out _)))
                go_wp2_with fail
                go_meet
                exact ⟨by rw [A.out]; rfl, _, rfl⟩
        case rest =>
          obtain ⟨rfl, m, hwc⟩ := hcut
          have NW2 := hide' (nw_below NW.out (by rw [hwc.out]; exact below_drewN wr m : Below wr.heap.size wr wc))
          clear NW HB x1 x2 hwc
          cases hok : filesOk (fs.take (j + 1)) with
          | false =>
            have eE2 : Hid (newE fs room = 95) := by unfold Hid; rw [eE.out, ok_bad fs (j + 1) hok]; rfl
            clear hok eE
            have HO := hide' NW2.out.out
            obtain ⟨p0, p1, p2, p3, p4, p5, p6, p7, p8⟩ := cells_9 (b := w.heap.size) NW2.out.out
            obtain ⟨f0, f1, f2, f3, f4, f5, f6, f7, f8⟩ := cells_9f (b := w.heap.size) NW2.out.out
            go_wp2_with fail
            obtain ⟨hbk, qb⟩ := nw_end NW2.out (.slice none 0 0) (.slice none 0 0) (.slice none 0 0) (.slice none 0 0) (.slice none 0 0) (.int .i64 0) (.slice none 0 0) (.int .i64 0) (.int .i64 0)
            obtain ⟨q0, q1, q2, q3, q4, q5, q6, q7, q8⟩ := cells_9 hbk
            simp only [putFrom] at q0 q1 q2 q3 q4 q5 q6 q7 q8 qb
            exact bodyPost_ret (v := .tuple #[.agg #[.slice none 0 0, .slice none 0 0, .slice none 0 0, .slice none 0 0, .slice none 0 0, .int .i64 0, .slice none 0 0, .int .i64 0, .int .i64 0], .int .i64 95]) (by simp [results, Tryz.results6, go_sem, q0, q1, q2, q3, q4, q5, q6, q7, q8]) rfl ⟨_, _, _, _, _, _, _, _, _, by rw [eE2.out], qb, (fun h => by rw [eE2.out] at h; cases h), fun _ => rfl⟩
          | true =>
            have A := hide' hok
            clear hok
            have G1 : Hid (fs[j]'G.out = fs[j]'G.out) := rfl
            obtain ⟨x1, u2, x2, x3⟩ := hcell j G.out
            have x3' := x3
            obtain ⟨ua2, uc2, hu2, _⟩ := x3
            obtain ⟨y, hy⟩ : ∃ y, S (fs[j]'G.out).1 = .string y := ⟨_, rfl⟩
            have HY := hide' hy
            rw [hy] at x1
            have X1 := hide' (fun W (hb : Below w.heap.size w W) => (hb.cell (p := ⟨b1, o1 + j * 2, none⟩) hlt1).trans x1)
            have X2 := hide' (fun W (hb : Below w.heap.size w W) => (hb.cell (p := ⟨b1, o1 + j * 2 + 1, none⟩) hlt1).trans x2)
            clear x1 x2 hy
            have y1 := X1.out wc NW2.out.bel
            obtain ⟨c0, c1, c2, c3, c4, c5, c6, c7, c8⟩ := cells_9 NW2.out.blk
            obtain ⟨e0, e1, e2, e3, e4, e5, e6, e7, e8⟩ := cells_9f NW2.out.blk
            obtain ⟨sa, sc, hsv⟩ := row_slQ NW2.out.r0
            subst hsv
            go_wp2_with fail
            go_cut [11] (fun iv wx => iv = .int .i64 j ∧ ∃ u0, Hid (NwR w fs room power (.slice za nz zc) (j + 1) j j j u0 v1 v3 v4 wx))
            case first =>
              have qa : (wc.alloc (.cells #[.string y, .int .i64 (j : Int)] 71)).cell? ⟨w.heap.size + 1, 0, none⟩ = some (.slice sa j sc) := by rw [(below_alloc' wc _).cell (p := ⟨w.heap.size + 1, 0, none⟩) NW2.out.blk.2]; exact c0
              go_region_law
                ((refine step_appG wc [.string y, .int .i64 (j : Int)] (by first | exact lit1_drew _ _ _ | exact lit1_alloc _ _ _) (by rfl) (.tmp 56) (.tmp 64) 34 71 (.agg #[.string ⟨#[]⟩, .int .i64 0]) 2 24 Tryz.underlying34 Tryz.info71 rfl (by decide) (by rfl) (w.heap.size + 2) (.slice sa j sc) j _ (by first | rfl | simp [Act.eval, Act.put]) NW2.out.r0 (by first | rfl | simp [Act.eval, Act.put]) rfl (by intro u hu; simp at hu; rcases hu with rfl | rfl <;> rfl) (by omega) (by decide) NW2.out.big ?_; intro gb gc w6 r6 g6 a6;
                  have FF := hide' (fin0 NW2.out G.out HY.out (Below.refl _ _) (by first | exact lit1_drew _ _ 71 | exact lit1_alloc _ _ 71) r6 g6 a6);
                  obtain ⟨k0, k1, k2, k3, k4, k5, k6, k7, k8⟩ := cells_9 FF.out.2;
                  obtain ⟨l0, l1, l2, l3, l4, l5, l6, l7, l8⟩ := cells_9f FF.out.2; clear r6 g6 a6))
              all_goals
                go_wp2_with fail
                go_meet
                exact ⟨rfl, _, FF.out.1⟩
            case rest =>
              obtain ⟨rfl, u0, NW3⟩ := hcut
              clear c0 c1 c2 c3 c4 c5 c6 c7 c8 e0 e1 e2 e3 e4 e5 e6 e7 e8 y1 NW2
              have y1 := X1.out wc NW3.out.bel
              obtain ⟨c0, c1, c2, c3, c4, c5, c6, c7, c8⟩ := cells_9 NW3.out.blk
              obtain ⟨e0, e1, e2, e3, e4, e5, e6, e7, e8⟩ := cells_9f NW3.out.blk
              obtain ⟨sa1, sc1, hsv1⟩ := row_slQ NW3.out.r1
              subst hsv1
              go_wp2_with fail
              go_cut [11] (fun iv wx => iv = .int .i64 j ∧ ∃ u1, Hid (NwR w fs room power (.slice za nz zc) (j + 1) (j + 1) j j u0 u1 v3 v4 wx))
              case first =>
                have qa : (wc.alloc (.cells #[.string y, .int .i64 (j : Int)] 71)).cell? ⟨w.heap.size + 1, 1, none⟩ = some (.slice sa1 j sc1) := by rw [(below_alloc' wc _).cell (p := ⟨w.heap.size + 1, 1, none⟩) NW3.out.blk.2]; exact c1
                go_region_law
                  ((refine step_appG wc [.string y, .int .i64 (j : Int)] (by first | exact lit1_drew _ _ _ | exact lit1_alloc _ _ _) (by rfl) (.tmp 68) (.tmp 76) 34 71 (.agg #[.string ⟨#[]⟩, .int .i64 0]) 2 24 Tryz.underlying34 Tryz.info71 rfl (by decide) (by rfl) (w.heap.size + 2) (.slice sa1 j sc1) j _ (by first | rfl | simp [Act.eval, Act.put]) NW3.out.r1 (by first | rfl | simp [Act.eval, Act.put]) rfl (by intro u hu; simp at hu; rcases hu with rfl | rfl <;> rfl) (by omega) (by decide) NW3.out.big ?_; intro gb gc w6 r6 g6 a6;
                    have FF := hide' (fin1 NW3.out G.out HY.out (Below.refl _ _) (by first | exact lit1_drew _ _ 71 | exact lit1_alloc _ _ 71) r6 g6 a6);
                    obtain ⟨k0, k1, k2, k3, k4, k5, k6, k7, k8⟩ := cells_9 FF.out.2;
                    obtain ⟨l0, l1, l2, l3, l4, l5, l6, l7, l8⟩ := cells_9f FF.out.2; clear r6 g6 a6))
                all_goals
                  go_wp2_with fail
                  go_meet
                  exact ⟨rfl, _, FF.out.1⟩
              case rest =>
                obtain ⟨rfl, u1, NW4⟩ := hcut
                clear c0 c1 c2 c3 c4 c5 c6 c7 c8 e0 e1 e2 e3 e4 e5 e6 e7 e8 y1 NW3
                have y2 := X2.out wc NW4.out.bel
                obtain ⟨c0, c1, c2, c3, c4, c5, c6, c7, c8⟩ := cells_9 NW4.out.blk
                obtain ⟨e0, e1, e2, e3, e4, e5, e6, e7, e8⟩ := cells_9f NW4.out.blk
                obtain ⟨sa3, sc3, hsv3⟩ : ∃ a c, v3 = .slice a j c := by obtain ⟨vs, h, _⟩ := NW4.out.r3; exact row_slQ h
                subst hsv3
                obtain ⟨vs, hvs, hv2⟩ := NW4.out.r3
                have HVS := hide' hvs
                have HV2 := hide' hv2
                obtain ⟨dl0, hdl0⟩ : ∃ d, d = (fs[j]'G.out).2.length := ⟨_, rfl⟩
                have HDL := hide' hdl0
                have HU : Hid (∀ W, Below w.heap.size w W → HoldsB W u2 (fs[j]'G.out).2) := fun W hb => holdsB_mono x3' hb
                have CC : Hid (∀ Wx, Below wc.heap.size wc Wx → Calls Tryz.prog 23 #[u2] Wx fun e w' => ∃ da dl dc, e = .returned (.slice da dl dc) ∧ Hid (Below wc.heap.size wc w' ∧ HoldsB (mask (fun x => x < wc.heap.size) w') (.slice da dl dc) (fs[j]'G.out).2) ∧ w'.cell? ⟨w.heap.size + 1, 3, none⟩ = some (.slice sa3 j sc3) ∧ (∀ o, (w'.alloc o).cell? ⟨w.heap.size + 1, 3, none⟩ = some (.slice sa3 j sc3)) ∧ w'.cell? ⟨b1, o1 + j * 2 + 1, none⟩ = some u2) := fun Wx hb => by
                  have hbw : Below w.heap.size w Wx := NW4.out.bel.trans (hb.mono NW4.out.bel.size)
                  refine (copyB u2 _ Wx (HU.out Wx hbw) (by have := (HL.out _ (List.getElem_mem G.out)).2; omega)).mono ?_
                  rintro e w' ⟨u, rfl, ho⟩
                  have hb2 : Below wc.heap.size wc w' := hb.trans (ho.2.mono hb.size)
                  obtain ⟨da, dc, hdv, _⟩ := holdsB_own ho
                  have hm := own_mask ho hb.size
                  subst hdv
                  have hc3 : w'.cell? ⟨w.heap.size + 1, 3, none⟩ = some (.slice sa3 j sc3) := by rw [hb2.cell (p := ⟨w.heap.size + 1, 3, none⟩) NW4.out.blk.2]; exact c3
                  exact ⟨da, _, dc, rfl, ⟨hb2, hm⟩, hc3, fun o => by rw [(below_alloc' w' o).cell (p := ⟨w.heap.size + 1, 3, none⟩) (Nat.lt_of_lt_of_le NW4.out.blk.2 hb2.size)]; exact hc3, X2.out w' (NW4.out.bel.trans (hb2.mono NW4.out.bel.size))⟩
                obtain ⟨ua3, un3, uc3, hu3⟩ : ∃ a n c, u2 = .slice a n c := ⟨_, _, _, hu2⟩
                have HU3 := hide' hu3
                rw [hu3] at y2 CC
                clear hvs hv2 hdl0 hu3
                go_wp2_with fail
                go_cut [11] (fun iv wx => iv = .int .i64 j ∧ ∃ u5, Hid (NwR w fs room power (.slice za nz zc) (j + 1) (j + 1) (j + 1) j u0 u1 u5 v4 wx))
                case first =>
                  go_region_law
                    (first
                      | (refine step_copyG (by rfl) (.tmp 85) 67 (by rfl) (.slice ua3 un3 uc3) (by first | rfl | simp [Act.eval, Act.put]) (CC.out _ (by first | exact (Below.refl _ _).drew | exact Below.refl _ _)) ?_; rintro e w5 ⟨da, dl, dc, rfl, B5, m5, n5, o5⟩; refine ⟨_, rfl, ?_⟩)
                      | (refine step_appG w5 [.slice da dl dc] (by first | exact lit1_alloc _ _ _ | exact lit1_drew _ _ _) (by rfl) (.tmp 80) (.tmp 87) 36 67 (.slice none 0 0) 1 24 Tryz.underlying36 Tryz.info67 rfl (by decide) (by rfl) (w.heap.size + 2) (.slice sa3 j sc3) j vs (by first | rfl | simp [Act.eval, Act.put]) (row_below HVS.out B5.out.1) (by first | rfl | simp [Act.eval, Act.put]) rfl (by intro u hu; simp at hu; subst hu; rfl) (by omega) (by decide) (Nat.le_trans NW4.out.big B5.out.1.size) ?_; intro gb gc w6 r6 g6 a6; have FF := hide' (fin3 NW4.out HVS.out HV2.out G.out B5.out.2 B5.out.1 (by first | exact lit1_alloc _ _ 67 | exact lit1_drew _ _ 67) r6 g6 a6); obtain ⟨k0, k1, k2, k3, k4, k5, k6, k7, k8⟩ := cells_9 FF.out.2; obtain ⟨l0, l1, l2, l3, l4, l5, l6, l7, l8⟩ := cells_9f FF.out.2; clear r6 g6 a6))
                  all_goals
                    go_wp2_with fail
                    go_meet
                    exact ⟨rfl, _, FF.out.1⟩
                case rest =>
                  obtain ⟨rfl, u5, NW5⟩ := hcut
                  clear c0 c1 c2 c3 c4 c5 c6 c7 c8 e0 e1 e2 e3 e4 e5 e6 e7 e8 y2 NW4 CC
                  have y2 := X2.out wc NW5.out.bel
                  obtain ⟨c0, c1, c2, c3, c4, c5, c6, c7, c8⟩ := cells_9 NW5.out.blk
                  obtain ⟨e0, e1, e2, e3, e4, e5, e6, e7, e8⟩ := cells_9f NW5.out.blk
                  obtain ⟨sa4, sc4, hsv4⟩ := row_slQ NW5.out.r4
                  subst hsv4
                  have hun : un3 = (fs[j]'G.out).2.length := by
                    have h := HU3.out.symm.trans hu2
                    simp only [Value.slice.injEq] at h
                    exact h.2.1
                  have HUN := hide' hun.symm
                  rw [HU3.out] at y2
                  have hunl : un3 ≤ 1000000000 := by rw [hun]; exact (HL.out _ (List.getElem_mem G.out)).2
                  clear hun
                  go_wp2_with fail
                  have qa : (wc.alloc (.cells #[.int .i64 (un3 : Int)] 3)).cell? ⟨w.heap.size + 1, 4, none⟩ = some (.slice sa4 j sc4) := by rw [(below_alloc' wc _).cell (p := ⟨w.heap.size + 1, 4, none⟩) NW5.out.blk.2]; exact c4
                  go_region_law
                    ((refine step_appG wc [.int .i64 (un3 : Int)] (by first | exact lit1_drew _ _ _ | exact lit1_alloc _ _ _) (by rfl) (.tmp 91) (.tmp 98) 23 3 (.int .i64 0) 1 8 Tryz.underlying23 Tryz.info3 rfl (by decide) (by rfl) (w.heap.size + 2) (.slice sa4 j sc4) j _ (by first | rfl | simp [Act.eval, Act.put]) NW5.out.r4 (by first | rfl | simp [Act.eval, Act.put]) rfl (by intro u hu; simp at hu; subst hu; rfl) (by omega) (by decide) NW5.out.big ?_; intro gb gc w6 r6 g6 a6;
                      have FF := hide' (fin4 NW5.out G.out HUN.out (Below.refl _ _) (by first | exact lit1_drew _ _ 3 | exact lit1_alloc _ _ 3) r6 g6 a6);
                      obtain ⟨k0, k1, k2, k3, k4, k5, k6, k7, k8⟩ := cells_9 FF.out.2;
                      obtain ⟨l0, l1, l2, l3, l4, l5, l6, l7, l8⟩ := cells_9f FF.out.2; clear r6 g6 a6))
                  all_goals
                    go_wp2_with fail
                    go_roundw
                    case rel => exact ⟨j + 1, _, _, _, _, by omega, by go_num, A, FF.out.1⟩
                    case measure => simp [intOf]; omega
      · obtain rfl : j = n := by omega
        have eE2 : Hid (newE fs room = 0) := by
          unfold Hid
          have h := hE.out
          rw [List.take_of_length_le (by rw [N1.out]; omega)] at h
          rw [eE.out, if_pos h]
        obtain ⟨a0, d0, hs0⟩ := row_slQ NW.out.r0
        obtain ⟨a1, d1', hs1⟩ := row_slQ NW.out.r1
        obtain ⟨a3, d3, hs3⟩ : ∃ a c, v3 = .slice a j c := by obtain ⟨vs, h, _⟩ := NW.out.r3; exact row_slQ h
        obtain ⟨a4, d4, hs4⟩ := row_slQ NW.out.r4
        subst hs0 hs1 hs3 hs4
        obtain ⟨c0, c1, c2, c3, c4, c5, c6, c7, c8⟩ := cells_9 NW.out.blk
        obtain ⟨p0, p1, p2, p3, p4, p5, p6, p7, p8⟩ := cells_9 (b := w.heap.size) NW.out.out
        obtain ⟨f0, f1, f2, f3, f4, f5, f6, f7, f8⟩ := cells_9f (b := w.heap.size) NW.out.out
        go_wp2_with fail
        have REF := nw_refS HSS.out NW.out N1.out HZ.out [.slice a0 j d0, .slice a1 j d1', .slice none 0 0, .slice a3 j d3, .slice a4 j d4, .int .i64 room, .slice za nz zc, .int .i64 power, .int .i64 0]
        obtain ⟨hbk, qb⟩ := nw_end NW.out (.slice a0 j d0) (.slice a1 j d1') (.slice none 0 0) (.slice a3 j d3) (.slice a4 j d4) (.int .i64 room) (.slice za nz zc) (.int .i64 power) (.int .i64 0)
        obtain ⟨q0, q1, q2, q3, q4, q5, q6, q7, q8⟩ := cells_9 hbk
        simp only [putFrom] at q0 q1 q2 q3 q4 q5 q6 q7 q8 qb REF
        exact bodyPost_ret (v := .tuple #[.agg #[.slice a0 j d0, .slice a1 j d1', .slice none 0 0, .slice a3 j d3, .slice a4 j d4, .int .i64 room, .slice za nz zc, .int .i64 power, .int .i64 0], .int .i64 0]) (by simp [results, Tryz.results6, go_sem, q0, q1, q2, q3, q4, q5, q6, q7, q8]) rfl ⟨_, _, _, _, _, _, _, _, _, by rw [eE2.out], qb, (fun _ => REF), fun h => absurd eE2.out h⟩
end Go.Proofs.YtijnjgnckipghaaGreat
