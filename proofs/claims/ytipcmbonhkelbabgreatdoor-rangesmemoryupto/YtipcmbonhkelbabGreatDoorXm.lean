/- Plain: what Apply answers; what its walks share. The blocks of the document's Apply behind its tests: the box, the result's, the part's own. What the document's Apply puts together: a converted text appended, a part of the body appended in a drawn region; lengths. -/
import Derived.Test.YtipcmbonhkelbabGreatDoorXa
import Derived.Test.YtipcmbonhkelbabGreatDoorXk
import Derived.Test.YtipcmbonhkelbabGreatDoorXr
import Derived.Test.YtipcmbonhkelbabGreatDoorXc
import Derived.Test.YtipcmbonhkelbabGreatDoorBm
import Derived.Test.YtipcmbonhkelbabGreatDoorXb
import Derived.Deep.RegionHeldLaw
import Derived.Deep.DrawnRows
namespace Go.Proofs.YtipcmbonhkelbabGreatDoor
open Go.RowKit
def raN : List UInt8 := [114, 97, 110, 103, 101]
def ctN : List UInt8 := [99, 111, 110, 116, 101, 110, 116, 45, 116, 121, 112, 101]
def crU : List UInt8 := [67, 111, 110, 116, 101, 110, 116, 45, 82, 97, 110, 103, 101]
def ctU : List UInt8 := [67, 111, 110, 116, 101, 110, 116, 45, 84, 121, 112, 101]
def unsR : List UInt8 := [82, 97, 110, 103, 101, 32, 78, 111, 116, 32, 83, 97, 116, 105, 115, 102, 105, 97, 98, 108, 101]
def parR : List UInt8 := [80, 97, 114, 116, 105, 97, 108, 32, 67, 111, 110, 116, 101, 110, 116]
def starL : List UInt8 := [98, 121, 116, 101, 115, 32, 42, 47]
def condL : List UInt8 := [99, 111, 110, 100, 117, 105, 116, 45]
def mulL : List UInt8 := [109, 117, 108, 116, 105, 112, 97, 114, 116, 47, 98, 121, 116, 101, 114, 97, 110, 103, 101, 115, 59, 32, 98, 111, 117, 110, 100, 97, 114, 121, 61]
def hasA (fs : FL) (n : List UInt8) : Bool := decide (0 < (valsOf fs n).length)
/-- the bytes of a span -/
def spanB (body : List UInt8) (p : Int × Int) : List UInt8 := (body.drop p.1.toNat).take (p.2 + 1 - p.1).toNat
/-- the boundary of a body -/
def markOf (body : List UInt8) : List UInt8 := condL ++ Lib.decDigits (markN body)
def partB (fs : FL) (body : List UInt8) (p : Int × Int) : List UInt8 :=
  [13, 10, 45, 45] ++ markOf body ++ [13, 10] ++ (if hasA fs ctN = true then [67, 111, 110, 116, 101, 110, 116, 45, 84, 121, 112, 101, 58, 32] ++ getJ fs ctN ++ [13, 10] else [])
    ++ ([67, 111, 110, 116, 101, 110, 116, 45, 82, 97, 110, 103, 101, 58, 32] ++ placeL p.1 p.2 body.length ++ [13, 10, 13, 10]) ++ spanB body p
def manyB (fs : FL) (body : List UInt8) (ps : List (Int × Int)) : List UInt8 := ps.flatMap (partB fs body) ++ ([13, 10, 45, 45] ++ markOf body ++ [45, 45, 13, 10])
/-- a response: Status, Reason, Minor, Fields; and its body -/
abbrev RgR := Int × List UInt8 × Int × FL × List UInt8
def appR (D : List UInt8 → Int) (ask : FL) (s : Int) (zr : List UInt8) (k : Int) (fs : FL) (body : List UInt8) : RgR :=
  if ¬ s = 200 ∨ hasA ask raN = false ∨ (rngP (getJ ask raN) body.length).1 = 190 ∨ rgHeld D ask fs = false then (s, zr, k, fs, body)
  else if (rngP (getJ ask raN) body.length).1 = 191 then (416, unsR, k, putOf (withoutOf fs [clH, ctN]) crU (starL ++ Lib.itoa body.length), [])
  else match (rngP (getJ ask raN) body.length).2 with
    | [p] => (206, parR, k, putOf (withoutOf fs [clH]) crU (placeL p.1 p.2 body.length), spanB body p)
    | ps => (206, parR, k, withoutOf fs [clH, crH, ctN] ++ [(ctU, mulL ++ markOf body)], manyB fs body ps)
theorem holdsB_row {w : World} {base : Nat} {v : Value} {bs : List UInt8} (h : w.ownsRow base 5 1 v bs.length (bs.map B)) : HoldsB w v bs := by
  have hb : Below (0 : Nat) { w with heap := #[] } w := ⟨rfl, rfl, rfl, Nat.zero_le _, fun k hk => absurd hk (Nat.not_lt_zero k)⟩
  refine holdsB_own (w0 := { w with heap := #[] }) ⟨?_, hb⟩
  obtain ⟨hl, h1 | ⟨g, cap, cur, e, _, hr⟩⟩ := h
  · exact ⟨hl, .inl h1⟩
  · exact ⟨hl, .inr ⟨g, cap, cur, e, Nat.zero_le _, hr⟩⟩
/-- the blocks of Apply: the response's box, the result's, the copy's -/
structure RSt (w : World) (z : Nat) (s : Int) (R : ByteArray) (k : Int) (lv u : Value) (fs : FL) (t0 t1 t2 t3 : Value) (W : World) : Prop where
  bel : Below w.heap.size w W
  q0 : Quad w.heap.size W (.int .i64 s) (.string R) (.int .i64 k) lv
  q1 : Quad (w.heap.size + 1) W t0 t1 t2 t3
  far : w.heap.size + 1 < z
  qz : Quad z W (.int .i64 s) (.string R) (.int .i64 k) u
  own : W.ownsRow (w.heap.size + 2) 42 2 u fs.length (cellsF fs)
theorem rowF_belowR {base : Nat} {v : Value} {ps : FL} {w w' : World} (h : w.ownsRow base 42 2 v ps.length (cellsF ps)) (hb : Below w.heap.size w w') : w'.ownsRow base 42 2 v ps.length (cellsF ps) := by
  have hlt := World.ownsRow.lt h
  obtain ⟨hl, h1 | ⟨g, cap, cur, rfl, hg, hh, hr⟩⟩ := h
  · exact ⟨hl, .inl h1⟩
  · exact ⟨hl, .inr ⟨g, cap, cur, rfl, hg, by rw [hb.block g (hlt g rfl).2]; exact hh, hr⟩⟩
theorem rst_below {w : World} {z : Nat} {s k : Int} {R : ByteArray} {lv u : Value} {fs : FL} {t0 t1 t2 t3 : Value} {W W' : World} (h : RSt w z s R k lv u fs t0 t1 t2 t3 W) (hb : Below W.heap.size W W') : RSt w z s R k lv u fs t0 t1 t2 t3 W' :=
  ⟨bt' h.bel hb, quad_below h.q0 hb, quad_below h.q1 hb, h.far, quad_below h.qz hb, rowF_belowR h.own hb⟩
theorem quad_blk {b : Nat} {W : World} {x0 x1 x2 x3 : Value} (h : Quad b W x0 x1 x2 x3) : W.cell? ⟨b, 0, none⟩ = some x0 ∧ W.cell? ⟨b, 1, none⟩ = some x1 ∧ W.cell? ⟨b, 2, none⟩ = some x2 ∧ W.cell? ⟨b, 3, none⟩ = some x3 :=
  ⟨h.1, h.2.1, h.2.2.1, h.2.2.2.1⟩
/-- behind the first three calls -/
theorem rst_make {w w2 : World} {s k : Int} {R : ByteArray} {lv u : Value} {fs : FL} (t : TypeId)
    (h : OwnF ((w.alloc (.cells #[.int .i64 s, .string R, .int .i64 k, lv] t)).alloc (.cells #[.int .i64 0, .string ⟨#[]⟩, .int .i64 0, .slice none 0 0] t)) u fs w2) :
    RSt w w2.heap.size s R k lv u fs (.int .i64 0) (.string ⟨#[]⟩) (.int .i64 0) (.slice none 0 0) (w2.alloc (.cells #[.int .i64 s, .string R, .int .i64 k, u] t)) := by
  obtain ⟨W1, eW⟩ : ∃ W1, W1 = w.alloc (.cells #[.int .i64 s, .string R, .int .i64 k, lv] t) := ⟨_, rfl⟩
  rw [← eW] at h
  have z1 : W1.heap.size = w.heap.size + 1 := by rw [eW]; simp
  have k0 : Quad w.heap.size W1 (.int .i64 s) (.string R) (.int .i64 k) lv := by rw [eW]; exact quad_lit _ _ _ _ _ _
  have b0 : Below w.heap.size w W1 := by rw [eW]; exact below_alloc' _ _
  have k1 := quad_lit W1 (.int .i64 0) (.string ⟨#[]⟩) (.int .i64 0) (.slice none 0 0) t
  have b1 := below_alloc' W1 (.cells #[.int .i64 0, .string ⟨#[]⟩, .int .i64 0, .slice none 0 0] t)
  have z2 : (W1.alloc (.cells #[.int .i64 0, .string ⟨#[]⟩, .int .i64 0, .slice none 0 0] t)).heap.size = w.heap.size + 2 := by simp [z1]
  rw [z1] at k1
  have b3 := below_alloc' w2 (.cells #[.int .i64 s, .string R, .int .i64 k, u] t)
  have own := h.1
  rw [z2] at own
  exact ⟨bt' (bt' (bt' b0 b1) h.2) b3, quad_below (quad_below (quad_below k0 b1) h.2) b3, quad_below (quad_below k1 h.2) b3, by have := h.2.size; omega, quad_lit _ _ _ _ _ _, rowF_belowR own b3⟩
theorem rst_drew {w : World} {z : Nat} {s k : Int} {R : ByteArray} {lv u : Value} {fs : FL} {t0 t1 t2 t3 : Value} {W : World} (h : RSt w z s R k lv u fs t0 t1 t2 t3 W) : RSt w z s R k lv u fs t0 t1 t2 t3 W.drew := rst_below h (Below.refl _ _).drew
theorem rst_put {w : World} {z : Nat} {s k : Int} {R : ByteArray} {lv u : Value} {fs : FL} {t0 t1 t2 t3 : Value} {W : World} (h : RSt w z s R k lv u fs t0 t1 t2 t3 W) (x0 x1 x2 x3 : Value) : RSt w z s R k lv u fs x0 x1 x2 x3 ((((W.setCell ⟨w.heap.size + 1, 0, none⟩ x0).setCell ⟨w.heap.size + 1, 1, none⟩ x1).setCell ⟨w.heap.size + 1, 2, none⟩ x2).setCell ⟨w.heap.size + 1, 3, none⟩ x3) := by
  have hz := h.far
  refine ⟨put4_below h.bel (Nat.le_succ _) x0 x1 x2 x3, ?_, quad_put h.q1 x0 x1 x2 x3, h.far, ?_, row_put h.own (by omega)⟩
  · exact quad_other (quad_other (quad_other (quad_other h.q0 (by omega) x0) (by omega) x1) (by omega) x2) (by omega) x3
  · exact quad_other (quad_other (quad_other (quad_other h.qz (by omega) x0) (by omega) x1) (by omega) x2) (by omega) x3
theorem rowB_baseR {b c : Nat} {v : Value} {bs : List UInt8} {w : World} (h : w.ownsRow b 5 1 v bs.length (bs.map B)) (hc : c ≤ b) : w.ownsRow c 5 1 v bs.length (bs.map B) := by
  obtain ⟨hl, h1 | ⟨g, cap, cur, e, hg, hr⟩⟩ := h
  · exact ⟨hl, .inl h1⟩
  · exact ⟨hl, .inr ⟨g, cap, cur, e, Nat.le_trans hc hg, hr⟩⟩
theorem rowF_baseR {b c : Nat} {v : Value} {fs : FL} {w : World} (h : w.ownsRow b 42 2 v fs.length (cellsF fs)) (hc : c ≤ b) : w.ownsRow c 42 2 v fs.length (cellsF fs) := by
  obtain ⟨hl, h1 | ⟨g, cap, cur, e, hg, hr⟩⟩ := h
  · exact ⟨hl, .inl h1⟩
  · exact ⟨hl, .inr ⟨g, cap, cur, e, Nat.le_trans hc hg, hr⟩⟩
/-- a call that makes bytes, over the blocks -/
theorem rst_bytes {f : FuncId} {args : Array Value} {w : World} {z : Nat} {s k : Int} {R : ByteArray} {lv u : Value} {fs : FL} {bs : List UInt8} {t0 t1 t2 t3 : Value} {W : World} (h : RSt w z s R k lv u fs t0 t1 t2 t3 W)
    (c : Calls Tryz.prog f args W fun e w' => ∃ b2, e = .returned b2 ∧ Own W b2 bs w') :
    Calls Tryz.prog f args W fun e w' => ∃ b2, e = .returned b2 ∧ Hid (RSt w z s R k lv u fs t0 t1 t2 t3 w') ∧ Hid (w'.ownsRow (w.heap.size + 2) 5 1 b2 bs.length (bs.map B))
      ∧ (w'.cell? ⟨z, 0, none⟩ = some (.int .i64 s) ∧ w'.cell? ⟨z, 1, none⟩ = some (.string R) ∧ w'.cell? ⟨z, 2, none⟩ = some (.int .i64 k) ∧ w'.cell? ⟨z, 3, none⟩ = some u)
      ∧ (w'.cell? ⟨w.heap.size + 1, 0, none⟩ = some t0 ∧ w'.cell? ⟨w.heap.size + 1, 1, none⟩ = some t1 ∧ w'.cell? ⟨w.heap.size + 1, 2, none⟩ = some t2 ∧ w'.cell? ⟨w.heap.size + 1, 3, none⟩ = some t3)
      ∧ (w'.frozen? ⟨w.heap.size + 1, 0, none⟩ = false ∧ w'.frozen? ⟨w.heap.size + 1, 1, none⟩ = false ∧ w'.frozen? ⟨w.heap.size + 1, 2, none⟩ = false ∧ w'.frozen? ⟨w.heap.size + 1, 3, none⟩ = false) := by
  refine c.mono ?_
  rintro e w' ⟨b2, rfl, ho⟩
  have r := rst_below h ho.2
  have hz := h.q1.2.2.2.2.2.2.2.2
  obtain ⟨c0, c1, c2, c3, f0, f1, f2, f3, _⟩ := r.q1
  exact ⟨b2, rfl, r, rowB_baseR ho.1 (by omega), quad_blk r.qz, ⟨c0, c1, c2, c3⟩, ⟨f0, f1, f2, f3⟩⟩
end Go.Proofs.YtipcmbonhkelbabGreatDoor
namespace Go.Proofs.YtipcmbonhkelbabGreatDoor
open Go.RowKit
structure RS4 (w : World) (y : Nat) (x0 x1 x2 x3 t0 t1 t2 t3 c0 c1 c2 c3 : Value) (W : World) : Prop where
  bel : Below w.heap.size w W
  q0 : Quad w.heap.size W x0 x1 x2 x3
  q1 : Quad (w.heap.size + 1) W t0 t1 t2 t3
  far : w.heap.size + 1 < y
  qy : Quad y W c0 c1 c2 c3
section
variable {w W W' : World} {y z : Nat} {x0 x1 x2 x3 t0 t1 t2 t3 c0 c1 c2 c3 : Value}
theorem rs4_below (h : RS4 w y x0 x1 x2 x3 t0 t1 t2 t3 c0 c1 c2 c3 W) (hb : Below W.heap.size W W') : RS4 w y x0 x1 x2 x3 t0 t1 t2 t3 c0 c1 c2 c3 W' :=
  ⟨bt' h.bel hb, quad_below h.q0 hb, quad_below h.q1 hb, h.far, quad_below h.qy hb⟩
theorem rs4_drew (h : RS4 w y x0 x1 x2 x3 t0 t1 t2 t3 c0 c1 c2 c3 W) : RS4 w y x0 x1 x2 x3 t0 t1 t2 t3 c0 c1 c2 c3 W.drew := rs4_below h (Below.refl _ _).drew
theorem rs4_put (h : RS4 w y x0 x1 x2 x3 t0 t1 t2 t3 c0 c1 c2 c3 W) (d0 d1 d2 d3 : Value) : RS4 w y x0 x1 x2 x3 d0 d1 d2 d3 c0 c1 c2 c3 ((((W.setCell ⟨w.heap.size + 1, 0, none⟩ d0).setCell ⟨w.heap.size + 1, 1, none⟩ d1).setCell ⟨w.heap.size + 1, 2, none⟩ d2).setCell ⟨w.heap.size + 1, 3, none⟩ d3) := by
  have hz := h.far
  refine ⟨put4_below h.bel (Nat.le_succ _) d0 d1 d2 d3, ?_, quad_put h.q1 d0 d1 d2 d3, h.far, ?_⟩
  · exact quad_other (quad_other (quad_other (quad_other h.q0 (by omega) d0) (by omega) d1) (by omega) d2) (by omega) d3
  · exact quad_other (quad_other (quad_other (quad_other h.qy (by omega) d0) (by omega) d1) (by omega) d2) (by omega) d3
theorem rs4_set3 (h : RS4 w y x0 x1 x2 x3 t0 t1 t2 t3 c0 c1 c2 c3 W) (d : Value) : RS4 w y x0 x1 x2 x3 t0 t1 t2 t3 c0 c1 c2 d (W.setCell ⟨y, 3, none⟩ d) := by
  have hz := h.far
  exact ⟨h.bel.setCell (p := ⟨y, 3, none⟩) (by show w.heap.size ≤ y; omega) d, quad_other h.q0 (by omega) d, quad_other h.q1 (by omega) d, h.far, quad_set3 h.qy d⟩
/-- a new block of four cells -/
theorem rs4_new (h : RS4 w z x0 x1 x2 x3 t0 t1 t2 t3 c0 c1 c2 c3 W) (d0 d1 d2 d3 : Value) (t : TypeId) : RS4 w W.heap.size x0 x1 x2 x3 t0 t1 t2 t3 d0 d1 d2 d3 (W.alloc (.cells #[d0, d1, d2, d3] t)) := by
  have b := below_alloc' W (.cells #[d0, d1, d2, d3] t)
  have hz := h.q1.2.2.2.2.2.2.2.2
  exact ⟨bt' h.bel b, quad_below h.q0 b, quad_below h.q1 b, by omega, quad_lit _ _ _ _ _ _⟩
end
theorem rs4_of {w : World} {z : Nat} {s k : Int} {R : ByteArray} {lv u : Value} {fs : FL} {t0 t1 t2 t3 : Value} {W : World} (h : RSt w z s R k lv u fs t0 t1 t2 t3 W) : RS4 w z (.int .i64 s) (.string R) (.int .i64 k) lv t0 t1 t2 t3 (.int .i64 s) (.string R) (.int .i64 k) u W :=
  ⟨h.bel, h.q0, h.q1, h.far, h.qz⟩
/-- the spans' cells -/
def XAt (W : World) (b off : Nat) (ps : XL) : Prop := b < W.heap.size ∧ ∀ j (h : j < ps.length), W.cell? ⟨b, off + j * 2, none⟩ = some (.int .i64 ps[j].1) ∧ W.cell? ⟨b, off + j * 2 + 1, none⟩ = some (.int .i64 ps[j].2)
theorem xat_below {W W' : World} {b off : Nat} {ps : XL} (h : XAt W b off ps) (hb : Below W.heap.size W W') : XAt W' b off ps :=
  ⟨Nat.lt_of_lt_of_le h.1 hb.size, fun j hj => ⟨by rw [hb.cell (p := ⟨b, off + j * 2, none⟩) h.1]; exact (h.2 j hj).1, by rw [hb.cell (p := ⟨b, off + j * 2 + 1, none⟩) h.1]; exact (h.2 j hj).2⟩⟩
theorem cell_set_ne {W : World} {y o b i : Nat} {v : Value} (h : b ≠ y) : (W.setCell ⟨y, o, none⟩ v).cell? ⟨b, i, none⟩ = W.cell? ⟨b, i, none⟩ := by
  simp [World.cell?, heap_setCell_other W ⟨y, o, none⟩ b v h]
theorem xat_set {W : World} {b off y o : Nat} {v : Value} {ps : XL} (h : XAt W b off ps) (hy : b ≠ y) : XAt (W.setCell ⟨y, o, none⟩ v) b off ps :=
  ⟨by have := h.1; simpa [World.setCell] using this, fun j hj => ⟨by rw [cell_set_ne hy]; exact (h.2 j hj).1, by rw [cell_set_ne hy]; exact (h.2 j hj).2⟩⟩
theorem xat_of {W : World} {v : Value} {ps : XL} (h : HoldsX W v ps) (hne : ps ≠ []) : ∃ b off c, v = .slice (some ⟨b, off, none⟩) ps.length c ∧ ps.length ≤ c ∧ XAt W b off ps := by
  obtain ⟨ao, cap, e, _, hcp, hc⟩ := h
  obtain ⟨b, off, rfl, hlt, hcell⟩ := hc hne
  exact ⟨b, off, cap, e, hcp, hlt, hcell⟩
theorem xat_own {w0 W : World} {v : Value} {ps : XL} (h : OwnX w0 v ps W) (hne : ps ≠ []) : ∃ b c, v = .slice (some ⟨b, 0, none⟩) ps.length c ∧ ps.length ≤ c ∧ w0.heap.size ≤ b ∧ XAt W b 0 ps := by
  obtain ⟨hl, h1 | ⟨g, cap, cur, rfl, hg, hh, hr⟩⟩ := id h.1
  · exact absurd (List.eq_nil_of_length_eq_zero h1.2) hne
  · obtain ⟨b, off, c, e, hc, hx⟩ := xat_of (holdsX_own h) hne
    injection e with e1 e2 e3
    injection e1 with e1
    injection e1 with e4 e5 e6
    subst e4 e5 e3
    exact ⟨g, cap, rfl, hc, hg, hx⟩
theorem xat_ownL {w0 W : World} {v : Value} {ps : XL} (h : OwnX w0 v ps W) (hne : ps ≠ []) : ∃ b off c, v = .slice (some ⟨b, off, none⟩) ps.length c ∧ ps.length ≤ c ∧ w0.heap.size ≤ b ∧ XAt W b off ps := by
  obtain ⟨b, c, h⟩ := xat_own h hne
  exact ⟨b, 0, c, h⟩
theorem holdsB_nilR (w : World) : HoldsB w (.slice none 0 0) [] := ⟨none, 0, rfl, fun _ => rfl, Nat.le_refl _, fun h => absurd rfl h⟩
theorem addL {a b : ByteArray} (h : a.size + b.size ≤ 1073741824) (W : World) : (Op.stringOp .add a b).run Tryz.prog W = .ok (.string (a ++ b)) W := run_string_add_sum W _ _ (by omega)
/-- a list of two texts, of one, of three, laid by the call itself -/
theorem holds_litA (w : World) (x y : List UInt8) : Holds (w.alloc (.cells #[S x, S y] 9)) (.slice (some ⟨w.heap.size, 0, none⟩) 2 2) [x, y] := by
  refine ⟨some ⟨w.heap.size, 0, none⟩, 2, rfl, fun _ => ⟨w.heap.size, 0, rfl, by simp, fun j hj => ?_⟩⟩
  match j, hj with
  | 0, _ => simp
  | 1, _ => simp
theorem holds_litC (w : World) (x y z : List UInt8) : Holds (w.alloc (.cells #[S x, S y, S z] 9)) (.slice (some ⟨w.heap.size, 0, none⟩) 3 3) [x, y, z] := by
  refine ⟨some ⟨w.heap.size, 0, none⟩, 3, rfl, fun _ => ⟨w.heap.size, 0, rfl, by simp, fun j hj => ?_⟩⟩
  match j, hj with
  | 0, _ => simp
  | 1, _ => simp
  | 2, _ => simp
end Go.Proofs.YtipcmbonhkelbabGreatDoor
namespace Go.Proofs.YtipcmbonhkelbabGreatDoor
open Go.RowKit
theorem mixed_nowR (s : ByteArray) (j : Nat) (h : j < s.size) : (Value.int .u8 ((mixed s 0 j).toNat : Int)) = B (s.data.toList[j]'(by simpa using h)) := by
  unfold mixed B; rw [dif_pos h, if_neg (by omega)]; rfl
/-- a text as new bytes -/
theorem convR (s : ByteArray) (l : List UInt8) (w : World) (e : s.data.toList = l) : ∃ (cap : Nat) (w1 : World), Sem.run Tryz.prog (convert 9 25 (.string s)) w = .ok (.slice (some ⟨w.heap.size, 0, none⟩) l.length cap) w1 ∧
    (∀ j (h : j < l.length), w1.cell? ⟨w.heap.size, j, none⟩ = some (B l[j])) ∧ Below w.heap.size w w1 := by
  obtain ⟨cap, w1, h1, h2, _, h4, _⟩ := conv_bytes s w
  subst e
  have hs : s.data.toList.length = s.size := by simp
  refine ⟨cap, w1, by rw [h1, hs], ?_, h4⟩
  intro j hj
  have hj' : j < s.size := by rw [← hs]; exact hj
  have := h2 j hj'
  rw [mixed_nowR s j hj'] at this
  exact this
theorem appCv {ops : Array Oper} {rest : List Oper} {o : Oper} {a : Act} {Q : Exit → Act → World → Prop} {wr : World} (hgd : o.guard = none) (s z : Operand)
    (ho : o.op = .call { callee := .builtin .append, args := #[s, z], argTypes := #[25, 25] }) (w0 : World) (v : Value) (ps : List UInt8) (hs : a.eval s = v) (hown : Own w0 v ps wr)
    (l : List UInt8) (b cap : Nat) (hz : a.eval z = .slice (some ⟨b, 0, none⟩) l.length cap) (hnews : ∀ j (h : j < l.length), wr.cell? ⟨b, j, none⟩ = some (B l[j])) (hlen : ps.length + l.length ≤ 140737488355328)
    (h : ∀ v' w', Own w0 v' (ps ++ l) w' → wpList Tryz.prog ops Q rest (a.put o.dst v') w') : wpList Tryz.prog ops Q (o :: rest) a wr := by
  obtain ⟨i0, hi, hz0, hz1, hz2⟩ := info_parts Tryz.info5
  refine wpList_append_own _ hgd s z 25 ho w0.heap.size 5 i0 (.int .u8 0) 1 1 Tryz.underlying25 hi hz0 hz1 hz2 rfl (by decide) v ps.length (ps.map B) hs hown.1 ⟨b, 0, none⟩ l.length cap (l.map B) hz (by simp) ?_ ?_ ?_ ?_ ?_ ?_
  · intro j u hj
    obtain ⟨hj1, hj2⟩ := List.getElem?_eq_some_iff.1 hj
    rw [List.length_map] at hj1
    have e : (⟨b, 0, none⟩ : Addr).add j = ⟨b, 0 + j, none⟩ := Go.WideShapes.add_plain _ _ _
    rw [e, Nat.zero_add, hnews j hj1, ← hj2]
    simp
  · intro u hu; obtain ⟨x, _, rfl⟩ := List.mem_map.1 hu; rfl
  · unfold maxLen; omega
  · omega
  · exact hown.2.size
  · intro v' w' h1 h2 _
    refine h v' w' ⟨by rw [List.map_append, List.length_append]; exact h1, ?_⟩
    refine Below.grown hown.2 h2 hown.2.size ?_
    intro k hk
    exact (hown.1.lt k hk).1
theorem step_appR {ops : Array Oper} {o : Oper} {a : Act} {K : Act → World → Prop} {Q : Exit → Act → World → Prop} {E : Prop} {W : World} (hgd : o.guard = none) (s x : Operand)
    (ho : o.op = .call { callee := .builtin .append, args := #[s, x], argTypes := #[25, 25] }) (w0 : World) (v : Value) (bs : List UInt8) (hs : a.eval s = v) (hown : Own w0 v bs W)
    (l : List UInt8) (b off cap : Nat) (hx : a.eval x = .slice (some ⟨b, off, none⟩) l.length cap) (hnews : ∀ j (h : j < l.length), W.cell? ⟨b, off + j, none⟩ = some (B l[j])) (hlen : bs.length + l.length ≤ 140737488355328)
    (h : ∀ v' w', Own w0 v' (bs ++ l) w' → K (a.put o.dst v') w') : if Region.wanted o (yielded ops a.tmps) = true then Oper.wp Tryz.prog o a W K Q else E := by
  obtain ⟨i0, hi, hz0, hz1, hz2⟩ := info_parts Tryz.info5
  have hw : Region.wanted o (yielded ops a.tmps) = true := by simp [Region.wanted, hgd]
  rw [if_pos hw]
  refine wp_append_own W s x 25 ho w0.heap.size 5 i0 (.int .u8 0) 1 1 Tryz.underlying25 hi hz0 hz1 hz2 rfl (by decide) v bs.length (bs.map B) hs hown.1 ⟨b, off, none⟩ l.length cap (l.map B) hx (by simp) ?_ ?_ ?_ ?_ ?_ ?_
  · intro j u hj
    obtain ⟨hj1, hj2⟩ := List.getElem?_eq_some_iff.1 hj
    rw [List.length_map] at hj1
    have e : (⟨b, off, none⟩ : Addr).add j = ⟨b, off + j, none⟩ := Go.WideShapes.add_plain _ _ _
    rw [e, hnews j hj1, ← hj2]
    simp
  · intro u hu; obtain ⟨x, _, rfl⟩ := List.mem_map.1 hu; rfl
  · unfold maxLen; omega
  · omega
  · exact hown.2.size
  · intro v' w' h1 h2 _
    refine h v' w' ⟨by rw [List.map_append, List.length_append]; exact h1, ?_⟩
    refine Below.grown hown.2 h2 hown.2.size ?_
    intro k hk
    exact (hown.1.lt k hk).1
theorem flat_len8 {α : Type} (f : α → List UInt8) (m : Nat) : ∀ l : List α, (∀ x ∈ l, (f x).length ≤ m) → (l.flatMap f).length ≤ l.length * m := by
  intro l
  induction l with
  | nil => intro _; simp
  | cons x r ih =>
    intro h
    have h1 := h x List.mem_cons_self
    have h2 := ih (fun z hz => h z (List.mem_cons_of_mem _ hz))
    simp only [List.flatMap_cons, List.length_append, List.length_cons]
    rw [Nat.succ_mul]
    omega
theorem dec_itoa (n : Nat) : Lib.itoa (n : Int) = Lib.decDigits n := by unfold Lib.itoa; rw [if_neg (by omega), Int.toNat_natCast]
theorem dec20 (n : Nat) (h : n ≤ 9223372036854775807) : (Lib.decDigits n).length ≤ 20 := by rw [← dec_itoa]; exact itoa_le _ (by omega) (by omega)
theorem mark_len (body : List UInt8) (h : body.length ≤ 1048576) : (markOf body).length ≤ 28 := by
  have h1 := (markN_spec body (by omega)).1
  have h2 := dec20 (markN body) (by omega)
  unfold markOf
  rw [List.length_append]
  have : condL.length = 8 := rfl
  omega
theorem place_len (a c z : Int) (a0 : -9223372036854775808 ≤ a) (a1 : a ≤ 9223372036854775807) (b0 : -9223372036854775808 ≤ c) (b1 : c ≤ 9223372036854775807) (z0 : -9223372036854775808 ≤ z) (z1 : z ≤ 9223372036854775807) : (placeL a c z).length ≤ 68 := by
  have h1 := itoa_le a a0 a1
  have h2 := itoa_le c b0 b1
  have h3 := itoa_le z z0 z1
  unfold placeL
  simp only [List.length_append, List.length_cons, List.length_nil]
  omega
theorem part_len (fs : FL) (body : List UInt8) (p : Int × Int) (hb : bulkF fs + body.length ≤ 1048576) (h0 : 0 ≤ p.1) (h1 : p.1 ≤ p.2) (h2 : p.2 < body.length) : (partB fs body p).length ≤ 5000000 := by
  have m := mark_len body (by omega)
  have g := getJ_len fs ctN
  have pl := place_len p.1 p.2 body.length (by omega) (by omega) (by omega) (by omega) (by omega) (by omega)
  unfold partB spanB
  simp only [List.length_append, List.length_take, List.length_drop]
  split <;> simp only [List.length_append, List.length_cons, List.length_nil] <;> omega
theorem part_next (fs : FL) (body : List UInt8) (ps : List (Int × Int)) (k : Nat) (h : k < ps.length) : (ps.take (k + 1)).flatMap (partB fs body) = (ps.take k).flatMap (partB fs body) ++ partB fs body ps[k] := by
  rw [List.take_succ_eq_append_getElem h, List.flatMap_append]
  simp
theorem own_drewR {w0 w : World} {v : Value} {bs : List UInt8} (h : Own w0 v bs w) : Own w0 v bs w.drew := own_mono h (Below.refl _ _).drew
end Go.Proofs.YtipcmbonhkelbabGreatDoor
