/- The contract of onePart (ranges). -/
import Derived.Test.YtipcmbonhkelbabGreatDoorXn
import Derived.Test.YtipcmbonhkelbabGreatDoorXl
import Derived.Test.YtipcmbonhkelbabGreatDoorXc
import Derived.Test.YtipcmbonhkelbabGreatDoorXb
import Derived.Deep.RegionHeld3
import Derived.Deep.RegionWith
import Derived.Deep.DeepCutAuto
namespace Go.Proofs.YtipcmbonhkelbabGreatDoor
open Go.RowKit
/-- .. with a span's box between them -/
structure PO (w : World) (a c x0 x1 x2 x3 t0 t1 t2 t3 : Value) (W : World) : Prop where
  pb : PB w 2 x0 x1 x2 x3 t0 t1 t2 t3 W
  du : DuoR (w.heap.size + 1) W a c
section
variable {w W W' : World} {a c x0 x1 x2 x3 t0 t1 t2 t3 : Value}
theorem duoR_other {b e o : Nat} {W : World} {v0 v1 : Value} (h : DuoR b W v0 v1) (hne : b ≠ e) (x : Value) : DuoR b (W.setCell ⟨e, o, none⟩ x) v0 v1 := by
  obtain ⟨h0, h1, f0, f1, hz⟩ := h
  have k : ∀ i, (W.setCell ⟨e, o, none⟩ x).cell? ⟨b, i, none⟩ = W.cell? ⟨b, i, none⟩ := fun i => by simp [World.cell?, heap_setCell_other W ⟨e, o, none⟩ b x hne]
  exact ⟨by rw [k]; exact h0, by rw [k]; exact h1, by simpa using f0, by simpa using f1, by simpa using hz⟩
theorem po_below (h : PO w a c x0 x1 x2 x3 t0 t1 t2 t3 W) (hb : Below W.heap.size W W') : PO w a c x0 x1 x2 x3 t0 t1 t2 t3 W' := ⟨pb_below h.pb hb, duoR_below h.du hb⟩
theorem po_drew (h : PO w a c x0 x1 x2 x3 t0 t1 t2 t3 W) : PO w a c x0 x1 x2 x3 t0 t1 t2 t3 W.drew := po_below h (Below.refl _ _).drew
theorem po_box (h : PO w a c x0 x1 x2 x3 t0 t1 t2 t3 W) (p q r s : Value) : PO w a c p q r s t0 t1 t2 t3 ((((W.setCell ⟨w.heap.size, 0, none⟩ p).setCell ⟨w.heap.size, 1, none⟩ q).setCell ⟨w.heap.size, 2, none⟩ r).setCell ⟨w.heap.size, 3, none⟩ s) :=
  ⟨pb_box h.pb (by decide) p q r s, duoR_other (duoR_other (duoR_other (duoR_other h.du (by omega) p) (by omega) q) (by omega) r) (by omega) s⟩
theorem po_set3 (h : PO w a c x0 x1 x2 x3 t0 t1 t2 t3 W) (x : Value) : PO w a c x0 x1 x2 x t0 t1 t2 t3 (W.setCell ⟨w.heap.size, 3, none⟩ x) := ⟨pb_set3 h.pb (by decide) x, duoR_other h.du (by omega) x⟩
theorem po_put (h : PO w a c x0 x1 x2 x3 t0 t1 t2 t3 W) (p q r s : Value) : PO w a c x0 x1 x2 x3 p q r s ((((W.setCell ⟨w.heap.size + 2, 0, none⟩ p).setCell ⟨w.heap.size + 2, 1, none⟩ q).setCell ⟨w.heap.size + 2, 2, none⟩ r).setCell ⟨w.heap.size + 2, 3, none⟩ s) :=
  ⟨pb_put h.pb (by decide) p q r s, duoR_other (duoR_other (duoR_other (duoR_other h.du (by omega) p) (by omega) q) (by omega) r) (by omega) s⟩
end
theorem po_lit (w : World) (a c x0 x1 x2 x3 : Value) (t t2 : TypeId) : PO w a c x0 x1 x2 x3 (.int .i64 0) (.string ⟨#[]⟩) (.int .i64 0) (.slice none 0 0) (((w.alloc (.cells #[x0, x1, x2, x3] t)).alloc (.cells #[a, c] t2)).alloc (.cells #[.int .i64 0, .string ⟨#[]⟩, .int .i64 0, .slice none 0 0] t)) := by
  have b1 := below_alloc' (w.alloc (.cells #[x0, x1, x2, x3] t)) (.cells #[a, c] t2)
  have b2 := below_alloc' ((w.alloc (.cells #[x0, x1, x2, x3] t)).alloc (.cells #[a, c] t2)) (.cells #[.int .i64 0, .string ⟨#[]⟩, .int .i64 0, .slice none 0 0] t)
  have k1 := quad_lit ((w.alloc (.cells #[x0, x1, x2, x3] t)).alloc (.cells #[a, c] t2)) (.int .i64 0) (.string ⟨#[]⟩) (.int .i64 0) (.slice none 0 0) t
  have d1 := duoR_lit (w.alloc (.cells #[x0, x1, x2, x3] t)) a c t2
  rw [show ((w.alloc (.cells #[x0, x1, x2, x3] t)).alloc (.cells #[a, c] t2)).heap.size = w.heap.size + 2 by simp] at k1
  rw [show (w.alloc (.cells #[x0, x1, x2, x3] t)).heap.size = w.heap.size + 1 by simp] at d1
  exact ⟨⟨bt' (bt' (below_alloc' w _) b1) b2, quad_below (quad_below (quad_lit w x0 x1 x2 x3 t) b1) b2, k1⟩, duoR_below d1 b2⟩
theorem ownB_of {w W : World} {b : Nat} {v : Value} {bs : List UInt8} (h : W.ownsRow b 5 1 v bs.length (bs.map B)) (hb : w.heap.size ≤ b) (hB : Below w.heap.size w W) : Own w v bs W := ⟨rowB_baseR h hb, hB⟩
def parB : ByteArray := ⟨#[80, 97, 114, 116, 105, 97, 108, 32, 67, 111, 110, 116, 101, 110, 116]⟩
set_option maxRecDepth 20000 in
set_option maxHeartbeats 4000000 in
theorem oneG (s k : Int) (R : ByteArray) (lv v : Value) (fs : FL) (body : List UInt8) (a c : Nat) (w : World) (hv : HoldsF w lv fs) (hB : HoldsB w v body) (hb : bulkF fs ≤ 9000000) (hbl : body.length ≤ 8000000) (hac : a ≤ c) (hcb : c < body.length) (T : Tab w) :
    Calls Tryz.prog 21 #[.agg #[.int .i64 s, .string R, .int .i64 k, lv], v, .agg #[.int .i64 a, .int .i64 c]] w fun e w' => ∃ u bv, e = .returned (.tuple #[.agg #[.int .i64 206, .string parB, .int .i64 k, u], bv]) ∧ OwnF w u (putOf (withoutOf fs [clH]) crU (placeL a c body.length)) w' ∧ Own w bv ((body.drop a).take (c + 1 - a)) w' := by
  have fl := bulkF_len fs
  have FT := hide' (show Fit fs from fun f hf => by have := bulkF_mem fs f hf; omega)
  have e1 := without_low fs (show [CLb].map lows = [clH].map lows by decide)
  have cW := hide' (fun vn W (h : Below w.heap.size w W) (hn : Holds W vn [CLb]) => withoutTok lv vn fs [CLb] W (holdsF_mono hv h) hn FT.out (by decide) (by omega) (by decide))
  rw [e1] at cW
  have wl := without_len fs [clH]
  have FW := hide' (fit_without FT.out [clH])
  have TT := hide' T
  have cL := hide' (fun W (h : Below w.heap.size w W) => placeG (a : Int) (c : Int) (body.length : Int) (by omega) (by omega) (by omega) (by omega) (by omega) (by omega) W (tab_below TT.out h))
  have pl : (placeL a c (body.length : Int)).length ≤ 140737488351232 := by
    have h1 := itoa_le (a : Int) (by omega) (by omega)
    have h2 := itoa_le (c : Int) (by omega) (by omega)
    have h3 := itoa_le (body.length : Int) (by omega) (by omega)
    unfold placeL
    simp only [List.length_append, List.length_cons, List.length_nil]
    omega
  have cU := hide' (fun v W (h : HoldsF W v (withoutOf fs [clH])) => putTok v _ crU (placeL a c body.length) W h FW.out (by decide) pl (by omega))
  obtain ⟨la, lc, _, _, el, -⟩ := holdsF_parts hv
  subst el
  have HB := hide' hB
  obtain ⟨ba, bc, eb, -⟩ := hB
  subst eb
  clear hv hb T e1 fl pl
  generalize withoutOf fs [clH] = fw at cW cU FW wl ⊢
  obtain ⟨X, eX⟩ : ∃ X : ByteArray, X = ⟨(placeL a c (body.length : Int)).toArray⟩ := ⟨_, rfl⟩
  rw [← eX] at cU cL
  generalize putOf fw crU (placeL a c (body.length : Int)) = fp at cU ⊢
  clear eX wl
  have cP := hide' (fun n W => partialG s k R la n lc W)
  unfold parR at cP
  unfold parB
  obtain ⟨n, hn⟩ : ∃ n, n = fs.length := ⟨_, rfl⟩
  have N := hide' hn.symm
  obtain ⟨bl, hbln⟩ : ∃ bl, bl = body.length := ⟨_, rfl⟩
  have BL := hide' hbln.symm
  obtain ⟨nw, hnw⟩ : ∃ nw, nw = fw.length := ⟨_, rfl⟩
  have NW := hide' hnw.symm
  obtain ⟨np, hnp⟩ : ∃ np, np = fp.length := ⟨_, rfl⟩
  have NP := hide' hnp.symm
  rw [N.out] at cW ⊢
  rw [BL.out] at cL hbl hcb HB ⊢
  clear hn hbln hnw hnp FW FT
  have P0 := po_lit w (.int .i64 a) (.int .i64 c) (.int .i64 s) (.string R) (.int .i64 k) (.slice la n lc) 24 44
  obtain ⟨W2, hW2⟩ : ∃ W2, W2 = ((w.alloc (.cells #[.int .i64 s, .string R, .int .i64 k, .slice la n lc] 24)).alloc (.cells #[.int .i64 a, .int .i64 c] 44)).alloc (.cells #[.int .i64 0, .string ⟨#[]⟩, .int .i64 0, .slice none 0 0] 24) := ⟨_, rfl⟩
  rw [← hW2] at P0
  have HW := hide' hW2
  have PO0 := hide' P0
  clear hW2 P0
  go_enter Tryz.func21, Tryz.ntmps21
  go_upto_region 1 with fail
  rw [← HW.out]
  obtain ⟨⟨-, ⟨i0, i1, i2, i3, f0, f1, f2, f3, -⟩, -⟩, -⟩ := id PO0.out
  go_wp2_with fail
  refine (cP.out n W2).mono ?_
  rintro e w3 ⟨rfl, b3⟩
  have P3 := po_below PO0.out b3
  have P4 := hide' (po_box P3 (.int .i64 206) (.string ⟨#[80, 97, 114, 116, 105, 97, 108, 32, 67, 111, 110, 116, 101, 110, 116]⟩) (.int .i64 k) (.slice la n lc))
  clear i0 i1 i2 i3 f0 f1 f2 f3 PO0 cP b3
  obtain ⟨⟨-, ⟨i0, i1, i2, i3, f0, f1, f2, f3, -⟩, -⟩, -⟩ := P3
  go_upto_region 2 with fail
  clear i0 i1 i2 i3 f0 f1 f2 f3
  obtain ⟨W4, hW4⟩ : ∃ W4, W4 = (((w3.setCell ⟨w.heap.size, 0, none⟩ (.int .i64 206)).setCell ⟨w.heap.size, 1, none⟩ (.string ⟨#[80, 97, 114, 116, 105, 97, 108, 32, 67, 111, 110, 116, 101, 110, 116]⟩)).setCell ⟨w.heap.size, 2, none⟩ (.int .i64 k)).setCell ⟨w.heap.size, 3, none⟩ (.slice la n lc) := ⟨_, rfl⟩
  rw [← hW4] at P4 ⊢
  clear hW4
  obtain ⟨U, hU⟩ : ∃ U, U = (⟨#[80, 97, 114, 116, 105, 97, 108, 32, 67, 111, 110, 116, 101, 110, 116]⟩ : ByteArray) := ⟨_, rfl⟩
  rw [← hU] at P4 ⊢
  have HU := hide' hU
  clear hU
  have F2 : ∀ {W : World}, PO w (.int .i64 a) (.int .i64 c) (.int .i64 206) (.string U) (.int .i64 k) (.slice la n lc) (.int .i64 0) (.string ⟨#[]⟩) (.int .i64 0) (.slice none 0 0) W → W.cell? ⟨w.heap.size + 1, 0, none⟩ = some (.int .i64 a) ∧ W.cell? ⟨w.heap.size + 1, 1, none⟩ = some (.int .i64 c) := fun h => ⟨h.du.1, h.du.2.1⟩
  have kW : Hid (∀ W g W', W.heap.size = g → PO w (.int .i64 a) (.int .i64 c) (.int .i64 206) (.string U) (.int .i64 k) (.slice la n lc) (.int .i64 0) (.string ⟨#[]⟩) (.int .i64 0) (.slice none 0 0) W → (W' = W.alloc (.cells #[S CLb] 9) ∨ W' = (W.alloc (.cells #[S CLb] 9)).drew) → Calls Tryz.prog 18 #[.slice la n lc, .slice (some ⟨g, 0, none⟩) 1 1] W' fun e w' => ∃ fa fc, e = .returned (.slice fa nw fc) ∧ Hid (PO w (.int .i64 a) (.int .i64 c) (.int .i64 206) (.string U) (.int .i64 k) (.slice la n lc) (.int .i64 0) (.string ⟨#[]⟩) (.int .i64 0) (.slice none 0 0) w') ∧ Hid (HoldsF w' (.slice fa nw fc) fw) ∧ (w'.cell? ⟨w.heap.size + 1, 0, none⟩ = some (.int .i64 a) ∧ w'.cell? ⟨w.heap.size + 1, 1, none⟩ = some (.int .i64 c))) := fun W g W' hg h hw => by
    subst hg
    have hb : Below W.heap.size W W' := by
      rcases hw with rfl | rfl
      · exact below_alloc' W _
      · exact (below_alloc' W _).drew
    have hn : Holds W' (.slice (some ⟨W.heap.size, 0, none⟩) 1 1) [CLb] := by
      rcases hw with rfl | rfl
      · exact holds_lit1 W CLb
      · exact holds_mono (holds_lit1 W CLb) (Below.refl _ _).drew
    refine (cW.out _ W' (bt' h.pb.bel hb) hn).mono ?_
    rintro e w' ⟨u, rfl, ho⟩
    have r := po_below h (bt' hb ho.2)
    obtain ⟨fa, fc, _, _, ef, -⟩ := holdsF_parts (holdsF_own ho)
    have hh := holdsF_own ho
    rw [ef, NW.out] at hh
    rw [ef, NW.out]
    exact ⟨fa, fc, rfl, r, hh, F2 r⟩
  have kL : Hid (∀ W, PO w (.int .i64 a) (.int .i64 c) (.int .i64 206) (.string U) (.int .i64 k) (.slice la n lc) (.int .i64 0) (.string ⟨#[]⟩) (.int .i64 0) (.slice none 0 0) W → Calls Tryz.prog 44 #[.agg #[.int .i64 a, .int .i64 c], .int .i64 bl] W fun e w' => e = .returned (.string X) ∧ Hid (PO w (.int .i64 a) (.int .i64 c) (.int .i64 206) (.string U) (.int .i64 k) (.slice la n lc) (.int .i64 0) (.string ⟨#[]⟩) (.int .i64 0) (.slice none 0 0) w') ∧ Hid (Below W.heap.size W w') ∧ (w'.cell? ⟨w.heap.size + 1, 0, none⟩ = some (.int .i64 a) ∧ w'.cell? ⟨w.heap.size + 1, 1, none⟩ = some (.int .i64 c))) := fun W h => by
    refine (cL.out W h.pb.bel).mono ?_
    rintro e w' ⟨rfl, b⟩
    have r := po_below h b
    exact ⟨rfl, r, b, F2 r⟩
  have kU : Hid (∀ W fa fc, PO w (.int .i64 a) (.int .i64 c) (.int .i64 206) (.string U) (.int .i64 k) (.slice la n lc) (.int .i64 0) (.string ⟨#[]⟩) (.int .i64 0) (.slice none 0 0) W → HoldsF W (.slice fa nw fc) fw → Calls Tryz.prog 41 #[.slice fa nw fc, .string ⟨crU.toArray⟩, .string X] W fun e w' => ∃ pa pc, e = .returned (.slice pa np pc) ∧ Hid (PO w (.int .i64 a) (.int .i64 c) (.int .i64 206) (.string U) (.int .i64 k) (.slice la n lc) (.int .i64 0) (.string ⟨#[]⟩) (.int .i64 0) (.slice none 0 0) w') ∧ Hid (w'.ownsRow (w.heap.size + 3) 42 2 (.slice pa np pc) np (cellsF fp)) ∧ (w'.cell? ⟨w.heap.size + 1, 0, none⟩ = some (.int .i64 a) ∧ w'.cell? ⟨w.heap.size + 1, 1, none⟩ = some (.int .i64 c)) ∧ w'.frozen? ⟨w.heap.size, 3, none⟩ = false ∧ w'.cell? ⟨w.heap.size, 3, none⟩ = some (.slice la n lc)) := fun W fa fc h hf => by
    refine (cU.out _ W hf).mono ?_
    rintro e w' ⟨u, rfl, ho⟩
    have r := po_below h ho.2
    have hz := h.pb.q1.2.2.2.2.2.2.2.2
    have ow := rowF_baseR ho.1 (c := w.heap.size + 3) (by omega)
    obtain ⟨pa, pc, _, _, ef, -⟩ := holdsF_parts (holdsF_own ho)
    rw [ef, NP.out] at ow
    rw [ef, NP.out]
    exact ⟨pa, pc, rfl, r, ow, F2 r, r.pb.q0.2.2.2.2.2.2.2.1, r.pb.q0.2.2.2.1⟩
  obtain ⟨c4, c5⟩ := F2 P4.out
  have c3 := P4.out.pb.q0.2.2.2.1
  have PA := po_below P4.out (below_alloc' W4 (.cells #[S CLb] 9))
  obtain ⟨c4a, c5a⟩ := F2 PA
  have c3a := PA.pb.q0.2.2.2.1
  unfold S CLb at c4a c5a c3a
  clear PA
  unfold S CLb at kW
  unfold crU at kU
  clear cW cL cU F2
  go_cut [18] (fun uv wx => ∃ pa pc, uv = .slice pa np pc ∧ Hid (PO w (.int .i64 a) (.int .i64 c) (.int .i64 206) (.string U) (.int .i64 k) (.slice pa np pc) (.int .i64 0) (.string ⟨#[]⟩) (.int .i64 0) (.slice none 0 0) wx) ∧ Hid (wx.ownsRow (w.heap.size + 3) 42 2 (.slice pa np pc) np (cellsF fp)))
  case first =>
    go_region_with
      (first
        | (go_at_call 18; refine (kW.out W4 _ _ rfl P4.out (by first | exact .inl rfl | exact .inr rfl)).mono ?_; rintro e w5 ⟨fa, fc, rfl, P5, H5, d1, d2⟩)
        | (go_at_call 44; refine (kL.out _ P5.out).mono ?_; rintro e w6 ⟨rfl, P6, B6, d4, d5⟩)
        | (go_at_call 41; refine (kU.out _ _ _ P6.out (holdsF_mono H5.out B6.out)).mono ?_; rintro e w7 ⟨pa, pc, rfl, P7, O7, ⟨d7, d8⟩, d9, d6⟩))
    all_goals
      have PF := hide' (po_set3 P7.out (.slice pa np pc))
      have OF := hide' (row_poke (o := 3) (x := .slice pa np pc) O7.out (show w.heap.size < w.heap.size + 3 by omega))
      clear kW kL kU P4 P5 P6 P7 O7 H5 B6
      go_wp2_with fail
      go_meet
      exact ⟨_, _, rfl, PF.out, OF.out⟩
  case rest =>
    obtain ⟨pa, pc, rfl, PF, OF⟩ := hcut
    clear kW kL kU P4 c3 c4 c5 c3a c4a c5a
    go_wp2_with fail
    obtain ⟨G, hG⟩ : ∃ G, G = w.heap.size + 2 := ⟨_, rfl⟩
    rw [show w.heap.size + 1 + 1 = G by omega]
    have ne1 : ¬ G = w.heap.size := by omega
    have ne2 : ¬ G = w.heap.size + 1 := by omega
    have ne3 : ¬ w.heap.size = G := by omega
    have ne4 : ¬ w.heap.size + 1 = G := by omega
    have HG := hide' hG
    obtain ⟨pv, hsl, hpv⟩ := midB HB.out a (c + 1) (by omega) (by rw [BL.out]; omega)
    rw [show ((c + 1 : Nat) : Int) = (c : Int) + 1 by omega] at hsl
    obtain ⟨va, vn, vc, ev⟩ : ∃ va vn vc, pv = .slice va vn vc := by
      obtain ⟨q1, q2, e, _⟩ := hpv
      exact ⟨q1, _, q2, e⟩
    have PV := hide' hpv
    have hlq : ((body.drop a).take (c + 1 - a)).length ≤ 140737488355328 := by rw [List.length_take, List.length_drop]; omega
    obtain ⟨part, hpart⟩ : ∃ part, part = (body.drop a).take (c + 1 - a) := ⟨_, rfl⟩
    rw [← hpart] at PV hlq
    have PT := hide' hpart
    clear hpart
    have kB : Hid (∀ W, Below wc.heap.size wc W → Calls Tryz.prog 19 #[pv] W fun e w' => ∃ b2, e = .returned b2 ∧ Hid (PO w (.int .i64 a) (.int .i64 c) (.int .i64 206) (.string U) (.int .i64 k) (.slice pa np pc) (.int .i64 0) (.string ⟨#[]⟩) (.int .i64 0) (.slice none 0 0) w') ∧ Hid (w'.ownsRow (w.heap.size + 3) 42 2 (.slice pa np pc) np (cellsF fp)) ∧ Hid (w'.ownsRow (w.heap.size + 3) 5 1 b2 part.length (part.map B))
      ∧ ((w'.cell? ⟨w.heap.size, 0, none⟩ = some (.int .i64 206) ∧ w'.cell? ⟨w.heap.size, 1, none⟩ = some (.string U) ∧ w'.cell? ⟨w.heap.size, 2, none⟩ = some (.int .i64 k) ∧ w'.cell? ⟨w.heap.size, 3, none⟩ = some (.slice pa np pc)) ∧ w'.cell? ⟨w.heap.size + 1, 0, none⟩ = some (.int .i64 a) ∧ w'.cell? ⟨w.heap.size + 1, 1, none⟩ = some (.int .i64 c))
      ∧ (w'.cell? ⟨G, 0, none⟩ = some (.int .i64 0) ∧ w'.cell? ⟨G, 1, none⟩ = some (.string ⟨#[]⟩) ∧ w'.cell? ⟨G, 2, none⟩ = some (.int .i64 0) ∧ w'.cell? ⟨G, 3, none⟩ = some (.slice none 0 0))
      ∧ (w'.frozen? ⟨G, 0, none⟩ = false ∧ w'.frozen? ⟨G, 1, none⟩ = false ∧ w'.frozen? ⟨G, 2, none⟩ = false ∧ w'.frozen? ⟨G, 3, none⟩ = false)) := fun W h => (bcloneC pv part W (holdsB_mono PV.out (bt' PF.out.pb.bel h)) hlq).mono (fun e w' ⟨u, h1, h2⟩ => by
      have r := po_below PF.out (bt' h h2.2)
      have o := row_below OF.out (bt' h h2.2)
      have hz := PF.out.pb.q1.2.2.2.2.2.2.2.2
      have hs := h.size
      have q := r.pb.q1
      rw [← HG.out] at q
      obtain ⟨c0, c1, c2, c3, f0, f1, f2, f3, _⟩ := q
      exact ⟨u, h1, r, o, rowB_baseR h2.1 (by omega), ⟨quad_blk r.pb.q0, r.du.1, r.du.2.1⟩, ⟨c0, c1, c2, c3⟩, ⟨f0, f1, f2, f3⟩⟩)
    obtain ⟨j0, j1, j2, j3⟩ := quad_blk PF.out.pb.q0
    obtain ⟨k0, k1, -⟩ := PF.out.du
    have pq := PF.out.pb.q1
    rw [← hG] at pq
    obtain ⟨p0, p1, p2, p3, g0, g1, g2, g3, -⟩ := pq
    clear hG
    have BA : Hid (Below wc.heap.size wc wc) := Below.refl _ _
    have hw1 : IntKind.i64.wrap ((c : Int) + 1) = (c : Int) + 1 := by rw [IntKind.wrap_i64]; omega
    clear hpv PV hlq ev HB PF OF
    go_region_held3 (fun w' => (w'.cell? ⟨w.heap.size, 0, none⟩ = some (.int .i64 206) ∧ w'.cell? ⟨w.heap.size, 1, none⟩ = some (.string U) ∧ w'.cell? ⟨w.heap.size, 2, none⟩ = some (.int .i64 k) ∧ w'.cell? ⟨w.heap.size, 3, none⟩ = some (.slice pa np pc)) ∧ w'.cell? ⟨w.heap.size + 1, 0, none⟩ = some (.int .i64 a) ∧ w'.cell? ⟨w.heap.size + 1, 1, none⟩ = some (.int .i64 c)) (go_keep)
      (first | (go_at_call 19; refine (kB.out _ (by first | with_reducible exact BA.out | with_reducible exact BA.out.drew)).mono ?_; rintro e w9 ⟨b2, rfl, R9, OF, O9, ⟨⟨l0, l1, l2, l3⟩, m0, m1⟩, ⟨t0, t1, t2, t3⟩, ⟨y0, y1, y2, y3⟩⟩))
    all_goals
      go_wp2_with fail
      have RZ := po_put R9.out (.int .i64 206) (.string U) (.int .i64 k) (.slice pa np pc)
      have qF := row_put (v0 := .int .i64 206) (v1 := .string U) (v2 := .int .i64 k) (v3 := .slice pa np pc) OF.out (b := w.heap.size + 2) (by omega)
      have qB := row_put (v0 := .int .i64 206) (v1 := .string U) (v2 := .int .i64 k) (v3 := .slice pa np pc) O9.out (b := w.heap.size + 2) (by omega)
      unfold put4 at qF qB
      have OZ := ownF_of NP.out qF (by omega) RZ.pb.bel
      have QB := ownB_of qB (by omega) RZ.pb.bel
      have qz := RZ.pb.q1
      rw [← HG.out] at OZ QB qz
      obtain ⟨q0', q1', q2', q3'⟩ := quad_blk qz
      exact bodyPost_ret (v := .tuple #[.agg #[.int .i64 206, .string U, .int .i64 k, .slice pa np pc], b2]) (by simp [results, Tryz.results21, go_sem, q0', q1', q2', q3']) rfl ⟨_, _, by rw [HU.out], OZ, by rw [← PT.out]; exact QB⟩
end Go.Proofs.YtipcmbonhkelbabGreatDoor
