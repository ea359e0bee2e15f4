/- The contracts of partial and unsatisfied (ranges). What moreParts puts together: texts behind one another, a text appended beside a span's box; lengths. The contract of boundaryFor (ranges): the boundary of a body. -/
import Derived.Test.YtipcmbonhkelbabGreatDoorXm
import Derived.Test.YtipcmbonhkelbabGreatDoorXc
import Derived.Test.YtipcmbonhkelbabGreatDoorXj
import Derived.Lib.AppendStr
import Derived.Test.YtipcmbonhkelbabGreatDoorXl
namespace Go.Proofs.YtipcmbonhkelbabGreatDoor
open Go.RowKit
theorem setq0 {b : Nat} {W : World} {v0 v1 v2 v3 : Value} (h : Quad b W v0 v1 v2 v3) (x : Value) : Quad b (W.setCell ⟨b, 0, none⟩ x) x v1 v2 v3 := by
  obtain ⟨h0, h1, h2, h3, f0, f1, f2, f3, hz⟩ := h
  exact ⟨World.cell?_setCell_same (u := v0) _ _ _ h0, by rw [oth4 (by decide)]; exact h1, by rw [oth4 (by decide)]; exact h2, by rw [oth4 (by decide)]; exact h3, by rw [frozen_set4]; exact f0, by rw [frozen_set4]; exact f1, by rw [frozen_set4]; exact f2, by rw [frozen_set4]; exact f3, by simpa using hz⟩
theorem setq1 {b : Nat} {W : World} {v0 v1 v2 v3 : Value} (h : Quad b W v0 v1 v2 v3) (x : Value) : Quad b (W.setCell ⟨b, 1, none⟩ x) v0 x v2 v3 := by
  obtain ⟨h0, h1, h2, h3, f0, f1, f2, f3, hz⟩ := h
  exact ⟨by rw [oth4 (by decide)]; exact h0, World.cell?_setCell_same (u := v1) _ _ _ h1, by rw [oth4 (by decide)]; exact h2, by rw [oth4 (by decide)]; exact h3, by rw [frozen_set4]; exact f0, by rw [frozen_set4]; exact f1, by rw [frozen_set4]; exact f2, by rw [frozen_set4]; exact f3, by simpa using hz⟩
/-- a function's two blocks of four cells: the response's box, and the result's, d behind it -/
structure PB (w : World) (d : Nat) (x0 x1 x2 x3 t0 t1 t2 t3 : Value) (W : World) : Prop where
  bel : Below w.heap.size w W
  q0 : Quad w.heap.size W x0 x1 x2 x3
  q1 : Quad (w.heap.size + d) W t0 t1 t2 t3
section
variable {w W W' : World} {d : Nat} {x0 x1 x2 x3 t0 t1 t2 t3 : Value}
theorem pb_below (h : PB w d x0 x1 x2 x3 t0 t1 t2 t3 W) (hb : Below W.heap.size W W') : PB w d x0 x1 x2 x3 t0 t1 t2 t3 W' :=
  ⟨bt' h.bel hb, quad_below h.q0 hb, quad_below h.q1 hb⟩
theorem pb_drew (h : PB w d x0 x1 x2 x3 t0 t1 t2 t3 W) : PB w d x0 x1 x2 x3 t0 t1 t2 t3 W.drew := pb_below h (Below.refl _ _).drew
theorem pb_set0 (h : PB w d x0 x1 x2 x3 t0 t1 t2 t3 W) (hd : 0 < d) (x : Value) : PB w d x x1 x2 x3 t0 t1 t2 t3 (W.setCell ⟨w.heap.size, 0, none⟩ x) :=
  ⟨h.bel.setCell (p := ⟨w.heap.size, 0, none⟩) (Nat.le_refl _) x, setq0 h.q0 x, quad_other h.q1 (by omega) x⟩
theorem pb_set1 (h : PB w d x0 x1 x2 x3 t0 t1 t2 t3 W) (hd : 0 < d) (x : Value) : PB w d x0 x x2 x3 t0 t1 t2 t3 (W.setCell ⟨w.heap.size, 1, none⟩ x) :=
  ⟨h.bel.setCell (p := ⟨w.heap.size, 1, none⟩) (Nat.le_refl _) x, setq1 h.q0 x, quad_other h.q1 (by omega) x⟩
theorem pb_set3 (h : PB w d x0 x1 x2 x3 t0 t1 t2 t3 W) (hd : 0 < d) (x : Value) : PB w d x0 x1 x2 x t0 t1 t2 t3 (W.setCell ⟨w.heap.size, 3, none⟩ x) :=
  ⟨h.bel.setCell (p := ⟨w.heap.size, 3, none⟩) (Nat.le_refl _) x, quad_set3 h.q0 x, quad_other h.q1 (by omega) x⟩
theorem pb_box (h : PB w d x0 x1 x2 x3 t0 t1 t2 t3 W) (hd : 0 < d) (a b c e : Value) : PB w d a b c e t0 t1 t2 t3 ((((W.setCell ⟨w.heap.size, 0, none⟩ a).setCell ⟨w.heap.size, 1, none⟩ b).setCell ⟨w.heap.size, 2, none⟩ c).setCell ⟨w.heap.size, 3, none⟩ e) :=
  ⟨put4_below h.bel (Nat.le_refl _) a b c e, quad_put h.q0 a b c e, quad_other (quad_other (quad_other (quad_other h.q1 (by omega) a) (by omega) b) (by omega) c) (by omega) e⟩
theorem pb_put (h : PB w d x0 x1 x2 x3 t0 t1 t2 t3 W) (hd : 0 < d) (a b c e : Value) : PB w d x0 x1 x2 x3 a b c e ((((W.setCell ⟨w.heap.size + d, 0, none⟩ a).setCell ⟨w.heap.size + d, 1, none⟩ b).setCell ⟨w.heap.size + d, 2, none⟩ c).setCell ⟨w.heap.size + d, 3, none⟩ e) :=
  ⟨put4_below h.bel (Nat.le_add_right _ _) a b c e, quad_other (quad_other (quad_other (quad_other h.q0 (by omega) a) (by omega) b) (by omega) c) (by omega) e, quad_put h.q1 a b c e⟩
end
theorem pb_lit (w : World) (x0 x1 x2 x3 : Value) (t : TypeId) : PB w 1 x0 x1 x2 x3 (.int .i64 0) (.string ⟨#[]⟩) (.int .i64 0) (.slice none 0 0) ((w.alloc (.cells #[x0, x1, x2, x3] t)).alloc (.cells #[.int .i64 0, .string ⟨#[]⟩, .int .i64 0, .slice none 0 0] t)) := by
  have b1 := below_alloc' (w.alloc (.cells #[x0, x1, x2, x3] t)) (.cells #[.int .i64 0, .string ⟨#[]⟩, .int .i64 0, .slice none 0 0] t)
  have k1 := quad_lit (w.alloc (.cells #[x0, x1, x2, x3] t)) (.int .i64 0) (.string ⟨#[]⟩) (.int .i64 0) (.slice none 0 0) t
  rw [show (w.alloc (.cells #[x0, x1, x2, x3] t)).heap.size = w.heap.size + 1 by simp] at k1
  exact ⟨bt' (below_alloc' w _) b1, quad_below (quad_lit w x0 x1 x2 x3 t) b1, k1⟩
set_option maxRecDepth 20000 in
set_option maxHeartbeats 4000000 in
theorem partialG (s k : Int) (R : ByteArray) (la : Option Addr) (n lc : Nat) (w : World) :
    Calls Tryz.prog 43 #[.agg #[.int .i64 s, .string R, .int .i64 k, .slice la n lc]] w fun e w' => e = .returned (.agg #[.int .i64 206, .string ⟨parR.toArray⟩, .int .i64 k, .slice la n lc]) ∧ Below w.heap.size w w' := by
  unfold parR
  have P0 := quad_lit (w.alloc (.cells #[.int .i64 206, .string ⟨#[80, 97, 114, 116, 105, 97, 108, 32, 67, 111, 110, 116, 101, 110, 116]⟩, .int .i64 k, .slice la n lc] 24)) (.int .i64 206) (.string ⟨#[80, 97, 114, 116, 105, 97, 108, 32, 67, 111, 110, 116, 101, 110, 116]⟩) (.int .i64 k) (.slice la n lc) 24
  obtain ⟨q0, q1, q2, q3, -⟩ := P0
  rw [show (w.alloc (.cells #[.int .i64 206, .string ⟨#[80, 97, 114, 116, 105, 97, 108, 32, 67, 111, 110, 116, 101, 110, 116]⟩, .int .i64 k, .slice la n lc] 24)).heap.size = w.heap.size + 1 by simp] at q0 q1 q2 q3
  have BB := bt' (below_alloc' w (.cells #[.int .i64 206, .string ⟨#[80, 97, 114, 116, 105, 97, 108, 32, 67, 111, 110, 116, 101, 110, 116]⟩, .int .i64 k, .slice la n lc] 24)) (below_alloc' _ (.cells #[.int .i64 206, .string ⟨#[80, 97, 114, 116, 105, 97, 108, 32, 67, 111, 110, 116, 101, 110, 116]⟩, .int .i64 k, .slice la n lc] 24))
  replace BB := hide' BB
  go_enter Tryz.func43, Tryz.ntmps43
  go_wp2_with fail
  exact bodyPost_ret (v := .agg #[.int .i64 206, .string ⟨#[80, 97, 114, 116, 105, 97, 108, 32, 67, 111, 110, 116, 101, 110, 116]⟩, .int .i64 k, .slice la n lc]) (by simp [results, Tryz.results43, go_sem, q0, q1, q2, q3]) rfl ⟨rfl, BB.out⟩
def ctV : List UInt8 := [67, 111, 110, 116, 101, 110, 116, 45, 84, 121, 112, 101]
theorem ownF_of {w W : World} {b n : Nat} {v : Value} {fs : FL} (hn : fs.length = n) (h : W.ownsRow b 42 2 v n (cellsF fs)) (hb : w.heap.size ≤ b) (hB : Below w.heap.size w W) : OwnF w v fs W := by
  subst hn
  exact ⟨rowF_baseR h hb, hB⟩
set_option maxRecDepth 20000 in
set_option maxHeartbeats 4000000 in
theorem unsatG (s k bl : Int) (R : ByteArray) (lv : Value) (fs : FL) (w : World) (hv : HoldsF w lv fs) (hb : bulkF fs ≤ 9000000) (b0 : 0 ≤ bl) (b1 : bl ≤ 9000000) (T : Tab w) :
    Calls Tryz.prog 20 #[.agg #[.int .i64 s, .string R, .int .i64 k, lv], .int .i64 bl] w fun e w' => ∃ u, e = .returned (.agg #[.int .i64 416, .string ⟨unsR.toArray⟩, .int .i64 k, u]) ∧ OwnF w u (putOf (withoutOf fs [clH, ctN]) crU (starL ++ Lib.itoa bl)) w' := by
  have fl := bulkF_len fs
  have FT := hide' (show Fit fs from fun f hf => by have := bulkF_mem fs f hf; omega)
  have e1 := without_low fs (show [CLb, ctV].map lows = [clH, ctN].map lows by decide)
  have cW := hide' (fun W (h : Below w.heap.size w W) => withoutTok lv _ fs [CLb, ctV] _ (holdsF_mono hv (bt' h (below_alloc' W (.cells #[S CLb, S ctV] 9)))) (holds_litA W CLb ctV) FT.out (by decide) (by omega) (by decide))
  rw [e1] at cW
  have wl := without_len fs [clH, ctN]
  have FW := hide' (fit_without FT.out [clH, ctN])
  have TT := hide' T
  have cS := hide' (fun W (h : Below w.heap.size w W) => itoaTab bl (by omega) (by omega) W (tab_below TT.out h))
  have ll := itoa_le bl (by omega) (by omega)
  have cU := hide' (fun v W (h : HoldsF W v (withoutOf fs [clH, ctN])) => putTok v _ crU (starL ++ Lib.itoa bl) W h FW.out (by decide) (by rw [List.length_append, show starL.length = 8 from rfl]; omega) (by omega))
  obtain ⟨la, lc, _, _, el, -⟩ := holdsF_parts hv
  subst el
  clear hv hb T e1 fl
  generalize withoutOf fs [clH, ctN] = fw at cW cU FW wl ⊢
  obtain ⟨A, eA⟩ : ∃ A : ByteArray, A = ⟨(Lib.itoa bl).toArray⟩ := ⟨_, rfl⟩
  have lA : A.size ≤ 20 := by rw [eA, size_l]; exact ll
  obtain ⟨X, eX⟩ : ∃ X : ByteArray, X = ⟨(starL ++ Lib.itoa bl).toArray⟩ := ⟨_, rfl⟩
  have p1 : ∀ W, (Op.stringOp .add ⟨#[98, 121, 116, 101, 115, 32, 42, 47]⟩ A).run Tryz.prog W = .ok (.string X) W := fun W => by
    rw [addL (by have : (⟨#[98, 121, 116, 101, 115, 32, 42, 47]⟩ : ByteArray).size = 8 := rfl; omega), eX, eA, ← baA]
    rfl
  rw [← eA] at cS
  rw [← eX] at cU
  generalize putOf fw crU (starL ++ Lib.itoa bl) = fp at cU ⊢
  clear eA eX ll lA wl
  unfold unsR
  have P0 := pb_lit w (.int .i64 416) (.string ⟨#[82, 97, 110, 103, 101, 32, 78, 111, 116, 32, 83, 97, 116, 105, 115, 102, 105, 97, 98, 108, 101]⟩) (.int .i64 k) (.slice la fs.length lc) 24
  obtain ⟨n, hn⟩ : ∃ n, n = fs.length := ⟨_, rfl⟩
  have N := hide' hn.symm
  rw [N.out] at cW P0 ⊢
  obtain ⟨W2, hW2⟩ : ∃ W2, W2 = (w.alloc (.cells #[.int .i64 416, .string ⟨#[82, 97, 110, 103, 101, 32, 78, 111, 116, 32, 83, 97, 116, 105, 115, 102, 105, 97, 98, 108, 101]⟩, .int .i64 k, .slice la n lc] 24)).alloc (.cells #[.int .i64 0, .string ⟨#[]⟩, .int .i64 0, .slice none 0 0] 24) := ⟨_, rfl⟩
  rw [← hW2] at P0
  have HW := hide' hW2
  have PB0 := hide' P0
  clear hn hW2 P0
  go_enter Tryz.func20, Tryz.ntmps20
  go_upto_region 2 with fail
  rw [← HW.out]
  obtain ⟨-, ⟨i0, i1, i2, i3, f0, f1, f2, f3, -⟩, -⟩ := id PB0.out
  unfold S CLb ctV at cW
  unfold crU at cU
  go_wp2_with fail
  refine (cW.out W2 PB0.out.bel).mono ?_
  rintro e w6 ⟨u6, rfl, ho⟩
  have P6 := hide' (pb_below PB0.out (bt' (below_alloc' W2 _) ho.2))
  obtain ⟨fa, fc, _, _, ef, -⟩ := holdsF_parts (holdsF_own ho)
  have H6 := hide' (holdsF_own ho)
  rw [ef] at H6 ⊢
  clear ho ef PB0 i0 i1 i2 i3 f0 f1 f2 f3 cW
  go_wp2_with fail
  refine (cS.out _ P6.out.bel).mono ?_
  rintro e w7 ⟨rfl, b7⟩
  have P7 := hide' (pb_below P6.out b7)
  have H7 := hide' (holdsF_mono H6.out b7)
  clear b7 P6 H6 cS
  go_wp2_with fail
  refine (cU.out _ _ H7.out).mono ?_
  rintro e w8 ⟨u8, rfl, ho⟩
  have hz := P7.out.q1.2.2.2.2.2.2.2.2
  have P8 := pb_below P7.out ho.2
  have O8 := rowF_baseR ho.1 (c := w.heap.size + 2) (by omega)
  obtain ⟨pa, pc, _, _, ef, -⟩ := holdsF_parts (holdsF_own ho)
  rw [ef] at O8 ⊢
  obtain ⟨fl, hfl⟩ : ∃ fl, fl = fp.length := ⟨_, rfl⟩
  have FL := hide' hfl.symm
  rw [FL.out] at O8 ⊢
  have P9 := pb_set3 P8 (by decide) (.slice pa fl pc)
  have PZ := pb_put P9 (by decide) (.int .i64 416) (.string ⟨#[82, 97, 110, 103, 101, 32, 78, 111, 116, 32, 83, 97, 116, 105, 115, 102, 105, 97, 98, 108, 101]⟩) (.int .i64 k) (.slice pa fl pc)
  have qF := row_put (b := w.heap.size + 1) (v0 := .int .i64 416) (v1 := .string ⟨#[82, 97, 110, 103, 101, 32, 78, 111, 116, 32, 83, 97, 116, 105, 115, 102, 105, 97, 98, 108, 101]⟩) (v2 := .int .i64 k) (v3 := .slice pa fl pc) (row_poke (o := 3) (x := .slice pa fl pc) O8 (show w.heap.size < w.heap.size + 2 by omega)) (by omega)
  unfold put4 at qF
  have OZ := hide' (ownF_of FL.out qF (by omega) PZ.bel)
  have QZ := hide' PZ.q1
  obtain ⟨-, ⟨i0, i1, i2, i3, f0, f1, f2, f3, -⟩, ⟨j0, j1, j2, j3, g0, g1, g2, g3, -⟩⟩ := P8
  clear ho ef hfl PZ qF P7 H7 cU hz O8 P9
  go_wp2_with fail
  obtain ⟨q0, q1, q2, q3, -⟩ := QZ.out
  exact bodyPost_ret (v := .agg #[.int .i64 416, .string ⟨#[82, 97, 110, 103, 101, 32, 78, 111, 116, 32, 83, 97, 116, 105, 115, 102, 105, 97, 98, 108, 101]⟩, .int .i64 k, .slice pa fl pc]) (by simp [results, Tryz.results20, go_sem, q0, q1, q2, q3]) rfl ⟨_, rfl, OZ.out⟩
end Go.Proofs.YtipcmbonhkelbabGreatDoor
namespace Go.Proofs.YtipcmbonhkelbabGreatDoor
open Go.RowKit
/-- a span's box -/
def TwoX (w : World) (b : Nat) (x y : Int) : Prop := w.heap[b]? = some (.cells #[.int .i64 x, .int .i64 y] 44)
theorem twoX_cell {w : World} {b : Nat} {x y : Int} (h : TwoX w b x y) : w.cell? ⟨b, 0, none⟩ = some (.int .i64 x) ∧ w.cell? ⟨b, 1, none⟩ = some (.int .i64 y) := by
  unfold TwoX at h
  constructor <;> simp [World.cell?, h]
theorem twoX_new (w : World) (x y : Int) : TwoX (w.alloc (.cells #[.int .i64 x, .int .i64 y] 44)) w.heap.size x y := by
  unfold TwoX; rw [heap_alloc_new]
theorem twoX_below {w w' : World} {b : Nat} {x y : Int} (h : TwoX w b x y) (hb : Below w.heap.size w w') : TwoX w' b x y := by
  unfold TwoX at *
  rw [hb.block b (Array.getElem?_eq_some_iff.1 h).1]
  exact h
/-- a text's bytes appended -/
theorem appTx {ops : Array Oper} {rest : List Oper} {o : Oper} {a : Act} {Q : Exit → Act → World → Prop} {wr : World} (hgd : o.guard = none) (s z : Operand)
    (ho : o.op = .call { callee := .builtin .append, args := #[s, z], argTypes := #[25, 9] }) (w0 : World) (v : Value) (ps : List UInt8) (hs : a.eval s = v) (hown : Own w0 v ps wr)
    (q : List UInt8) (t : ByteArray) (ht : t = ⟨q.toArray⟩) (hz : a.eval z = .string t) (hlen : ps.length + q.length ≤ 140737488355328)
    (h : ∀ v' w', Own w0 v' (ps ++ q) w' → (∀ b x y, TwoX wr b x y → TwoX w' b x y) → wpList Tryz.prog ops Q rest (a.put o.dst v') w') : wpList Tryz.prog ops Q (o :: rest) a wr := by
  subst ht
  obtain ⟨i0, hi, hz0, hz1, hz2⟩ := info_parts Tryz.info5
  have hsz := hown.2.size
  have hq : (⟨q.toArray⟩ : ByteArray).size = q.length := size_l q
  have hc : Lib.strCells ⟨q.toArray⟩ = q.map B := by unfold Lib.strCells B; simp
  refine Lib.wpList_append_own_string _ hgd s z 25 9 ho w0.heap.size 5 i0 Tryz.underlying25 Tryz.underlying9 hi hz0 hz1 hz2 v ps.length (ps.map B) hs hown.1 ⟨q.toArray⟩ hz (by rw [hq]; unfold maxLen; omega) (by rw [hq]; exact hlen) hsz ?_
  intro v' w' h1 h2 _
  rw [hq, hc] at h1
  refine h v' w' ⟨by rw [List.map_append, List.length_append]; exact h1, ?_⟩ ?_
  · refine Below.grown hown.2 h2 (by omega) ?_
    intro k hk
    exact (hown.1.lt k hk).1
  · intro b x y hb
    unfold TwoX at hb ⊢
    have hlt : b < wr.heap.size := (Array.getElem?_eq_some_iff.1 hb).1
    rw [h2.block b hlt ?_]
    · exact hb
    · intro e
      obtain ⟨_, h3 | ⟨g, cap, cur, hv, _, hh, _⟩⟩ := hown.1
      · rw [h3.1] at e; simp [Value.ownBlock] at e
      · rw [hv] at e
        simp only [Value.ownBlock, Option.some.injEq] at e
        subst e
        rw [hh] at hb
        simp at hb
theorem addLL (a b : List UInt8) (W : World) (h : a.length + b.length ≤ 1073741824) : (Op.stringOp .add ⟨a.toArray⟩ ⟨b.toArray⟩).run Tryz.prog W = .ok (.string ⟨(a ++ b).toArray⟩) W := by
  rw [addL (by rw [size_l, size_l]; exact h), baA]
/-- what is told of the type, in each part -/
def tyL (fs : FL) : List UInt8 := if hasA fs ctN = true then [67, 111, 110, 116, 101, 110, 116, 45, 84, 121, 112, 101, 58, 32] ++ getJ fs ctN ++ [13, 10] else []
def h1L (fs : FL) (body : List UInt8) : List UInt8 := [13, 10, 45, 45] ++ markOf body ++ [13, 10] ++ tyL fs
def h2L (body : List UInt8) (p : Int × Int) : List UInt8 := [67, 111, 110, 116, 101, 110, 116, 45, 82, 97, 110, 103, 101, 58, 32] ++ placeL p.1 p.2 body.length ++ [13, 10] ++ [13, 10]
def h3L (body : List UInt8) : List UInt8 := [13, 10, 45, 45] ++ markOf body ++ [45, 45] ++ [13, 10]
theorem partB_is (fs : FL) (body : List UInt8) (p : Int × Int) : partB fs body p = h1L fs body ++ h2L body p ++ spanB body p := by
  unfold partB h1L h2L tyL
  simp only [List.append_assoc]
  rfl
theorem manyB_is (fs : FL) (body : List UInt8) (ps : List (Int × Int)) : manyB fs body ps = ps.flatMap (partB fs body) ++ h3L body := by
  unfold manyB h3L
  simp only [List.append_assoc]
  rfl
theorem mark_len2 (body : List UInt8) (h : body.length ≤ 8000000) : (markOf body).length ≤ 28 := by
  have h1 := (markN_spec body (by omega)).1
  have h2 := dec20 (markN body) (by omega)
  unfold markOf
  rw [List.length_append]
  have : condL.length = 8 := rfl
  omega
theorem tyL_len (fs : FL) : (tyL fs).length ≤ 2 * bulkF fs + 16 := by
  have g := getJ_len fs ctN
  unfold tyL
  split
  · simp only [List.length_append, List.length_cons, List.length_nil]; omega
  · simp
theorem h1L_len (fs : FL) (body : List UInt8) (h : body.length ≤ 8000000) : (h1L fs body).length ≤ 2 * bulkF fs + 100 := by
  have := mark_len2 body h
  have := tyL_len fs
  unfold h1L
  simp only [List.length_append, List.length_cons, List.length_nil]
  omega
theorem h2L_len (body : List UInt8) (p : Int × Int) (h : body.length ≤ 8000000) (h0 : 0 ≤ p.1 ∧ p.1 ≤ p.2 ∧ p.2 < body.length) : (h2L body p).length ≤ 100 := by
  have := place_len p.1 p.2 body.length (by omega) (by omega) (by omega) (by omega) (by omega) (by omega)
  unfold h2L
  simp only [List.length_append, List.length_cons, List.length_nil]
  omega
theorem h3L_len (body : List UInt8) (h : body.length ≤ 8000000) : (h3L body).length ≤ 40 := by
  have := mark_len2 body h
  unfold h3L
  simp only [List.length_append, List.length_cons, List.length_nil]
  omega
theorem partB_len2 (fs : FL) (body : List UInt8) (p : Int × Int) (h : body.length ≤ 8000000) (hf : bulkF fs ≤ 8000000) (h0 : 0 ≤ p.1 ∧ p.1 ≤ p.2 ∧ p.2 < body.length) : (partB fs body p).length ≤ 30000000 := by
  have := h1L_len fs body h
  have := h2L_len body p h h0
  rw [partB_is, List.length_append, List.length_append]
  unfold spanB
  rw [List.length_take, List.length_drop]
  omega
theorem put_ct (fs : FL) (x : List UInt8) : putOf (withoutOf fs [clH, crH]) ctU x = withoutOf fs [clH, crH, ctN] ++ [(ctU, x)] := by
  unfold putOf
  have e : withoutOf (withoutOf fs [clH, crH]) [ctU] = withoutOf fs [clH, crH, ctN] := by
    unfold withoutOf
    rw [List.filter_filter]
    congr 1
    funext f
    have e1 : lows ctU = lows ctN := by decide
    simp only [List.map_cons, List.map_nil, List.mem_cons, List.not_mem_nil, or_false, e1]
    rw [Bool.eq_iff_iff]
    simp only [Bool.and_eq_true, decide_eq_true_eq, not_or]
    constructor
    · rintro ⟨h1, h2, h3⟩; exact ⟨h2, h3, h1⟩
    · rintro ⟨h1, h2, h3⟩; exact ⟨h3, h1, h2⟩
  rw [e]
end Go.Proofs.YtipcmbonhkelbabGreatDoor
namespace Go.Proofs.YtipcmbonhkelbabGreatDoor
open Go.RowKit Go.Maps Go.WideMaps
theorem itoa_nat (n : Nat) : Lib.itoa (n : Int) = Lib.decDigits n := by
  unfold Lib.itoa
  rw [if_neg (by omega), Int.toNat_natCast]
set_option maxRecDepth 20000 in
set_option maxHeartbeats 4000000 in
theorem boundaryG (v : Value) (b : List UInt8) (w : World) (hv : HoldsB w v b) (hb : b.length ≤ 8000000) (M : MaxVD w) (T : Tab w) :
    Calls Tryz.prog 45 #[v] w fun e w' => e = .returned (.string ⟨(markOf b).toArray⟩) ∧ Below w.heap.size w w' := by
  have cT := hide' (takenG v b w hv hb M)
  obtain ⟨ao, cap, rfl, -⟩ := hv
  have h1 := markN_spec b (by omega)
  have h2 := markN_le b (by omega)
  obtain ⟨F, hF⟩ : ∃ F : Int → Prop, F = fun m : Int => ∃ k : Nat, m = k ∧ k ≤ b.length ∧ stIn (markB k) b = true := ⟨_, rfl⟩
  have yes : ∀ k : Nat, k < markN b → F (k : Int) := fun k h => by
    rw [hF]
    exact ⟨k, rfl, by omega, h1.2.2 k h⟩
  have no : ¬ F ((markN b : Nat) : Int) := by
    rw [hF]
    rintro ⟨n, e, _, h⟩
    have e2 : markN b = n := by omega
    rw [← e2, h1.2.1] at h
    cases h
  rw [← hF] at cT
  have YES := hide' yes
  have NO := hide' no
  clear yes no hF
  have FE := hide' (show markOf b = condL ++ Lib.itoa (markN b : Int) from by rw [itoa_nat]; rfl)
  have TT := hide' T
  have LI := itoa_le (markN b : Int) (by omega) (by omega)
  have hm8 : markN b ≤ 8000000 := by omega
  generalize markOf b = out at FE ⊢
  generalize markN b = mn at YES NO FE LI hm8
  have cI := hide' (fun W (h : Tab W) => itoaTab (mn : Int) (by omega) (by omega) W h)
  obtain ⟨A, eA⟩ : ∃ A : ByteArray, A = ⟨(Lib.itoa (mn : Int)).toArray⟩ := ⟨_, rfl⟩
  obtain ⟨X, eX⟩ : ∃ X : ByteArray, X = ⟨out.toArray⟩ := ⟨_, rfl⟩
  have lA : A.size ≤ 20 := by rw [eA, size_l]; exact LI
  have p1 : ∀ W, (Op.stringOp .add ⟨#[99, 111, 110, 100, 117, 105, 116, 45]⟩ A).run Tryz.prog W = .ok (.string X) W := fun W => by
    rw [run_string_add_sum W _ _ (by have : (⟨#[99, 111, 110, 100, 117, 105, 116, 45]⟩ : ByteArray).size = 8 := rfl; omega), eX, eA, FE.out, ← baA]
    rfl
  rw [← eA] at cI
  rw [← eX]
  clear h1 h2 T LI eA eX FE M
  generalize b.length = L at cT hb ⊢
  go_enter Tryz.func45, Tryz.ntmps45
  go_wp2_with fail
  refine cT.out.mono ?_
  rintro e w1 ⟨g, n, rfl, s1, b1⟩
  have S1 := hide' s1
  have B1 := hide' b1
  clear cT s1 b1
  go_wp2_with fail
  go_loopw [4] (fun iv wr => ∃ k : Nat, k ≤ mn ∧ iv = .int .i64 k ∧ Hid (SetI wr g n F) ∧ Hid (Below w.heap.size w wr)) (fun iv _ => mn - (intOf iv).toNat)
  case atStart => exact ⟨0, Nat.zero_le _, rfl, S1, B1⟩
  case round =>
    clear S1 B1
    obtain ⟨k, hk, rfl, S, BW⟩ := hrel
    have bz := below_alloc' wr (.cells #[] 70)
    have S2 := hide' (setI_block S.out (bz.block g (setI_lt S.out)))
    have B2 := hide' (bt' BW.out bz)
    clear bz
    by_cases hlt : k < mn
    · have hlk := setI_look S.out (i := (k : Int)) (by omega) true ⟨fun _ => YES.out k hlt, fun _ => rfl⟩
      clear S BW
      go_wp2_with fail
      go_roundw
      case rel => exact ⟨k + 1, by omega, by go_num, S2, B2⟩
      case measure => simp [intOf]; omega
    · obtain rfl : k = mn := by omega
      have hlk := setI_look S.out (i := (k : Int)) (by omega) false ⟨fun h => (by cases h), fun h => absurd h NO.out⟩
      have CI := hide' (cI.out _ (tab_below TT.out B2.out))
      clear S BW
      go_wp2_with fail
      refine CI.out.mono ?_
      rintro e w3 ⟨rfl, b3⟩
      have B3 := hide' (bt' B2.out b3)
      clear b3 CI
      go_wp2_with fail
      go_ret
      exact ⟨rfl, B3.out⟩
end Go.Proofs.YtipcmbonhkelbabGreatDoor
