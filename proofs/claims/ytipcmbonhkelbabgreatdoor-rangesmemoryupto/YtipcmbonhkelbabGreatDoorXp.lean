/- What the texts of Apply (ranges) share. The contract of Apply (ranges): where the range can't be had. The contract of Apply (ranges): where one span is had. The contract of Apply (ranges): where more spans are had. -/
import Derived.Test.YtipcmbonhkelbabGreatDoorRaE
import Derived.Test.YtipcmbonhkelbabGreatDoorXr
import Derived.Test.YtipcmbonhkelbabGreatDoorRaO
import Derived.Test.YtipcmbonhkelbabGreatDoorRaV
import Derived.Test.YtipcmbonhkelbabGreatDoorXb
import Derived.Test.YtipcmbonhkelbabGreatDoorBk
import Derived.Deep.RegionHeld3
import Derived.Deep.RegionWith
import Derived.Deep.DeepCutAuto
import Derived.Deep.Cut
namespace Go.Proofs.YtipcmbonhkelbabGreatDoor
def raU : List UInt8 := [82, 97, 110, 103, 101]
end Go.Proofs.YtipcmbonhkelbabGreatDoor
namespace Go.Proofs.YtipcmbonhkelbabGreatDoor
open Go.RowKit
set_option maxHeartbeats 8000000 in
set_option maxRecDepth 20000 in
theorem appGd (s k : Int) (R : ByteArray) (av lv v : Value) (ask fs : FL) (body : List UInt8) (D : List UInt8 → Int) (w : World) (ha : HoldsF w av ask) (hv : HoldsF w lv fs) (hB : HoldsB w v body) (hb : bulkF ask + bulkF fs + body.length ≤ 1500000) (E : EvD w) (T : Tab w) (hD : DtP (getJ fs lmN) (D (getJ fs lmN)))
    (er : Int) (ps : XL) (hp : rngP (getJ ask raN) body.length = (er, ps)) (hs : s = 200) (hd : rgHeld D ask fs = true) (he : er = 191) :
    Calls Tryz.prog 7 #[av, .agg #[.int .i64 s, .string R, .int .i64 k, lv], v] w fun e w' => ∃ u bv, e = .returned (.tuple #[.agg #[.int .i64 416, .string ⟨unsR.toArray⟩, .int .i64 k, u], bv]) ∧ OwnF w u (putOf (withoutOf fs [clH, ctN]) crU (starL ++ Lib.itoa body.length)) w' ∧ Own w bv ([]) w' := by
  have g0 := getJ_len ask raN
  have fl := bulkF_len fs
  have FT := hide' (show Fit fs from fun f hf => by have := bulkF_mem fs f hf; omega)
  have cG := fun W (h : Below w.heap.size w W) => getTokB av ask raU W (holdsF_mono ha h) (by omega) (by decide)
  have eg := vals_low2 ask (show lows raU = lows raN by decide)
  simp only [eg, getJ_eq] at cG
  generalize decide (0 < (valsOf ask raN).length) = hb0 at cG
  replace cG := hide' cG
  have cP := fun W (h : Below w.heap.size w W) => parseG ⟨(getJ ask raN).toArray⟩ (body.length : Int) W (by rw [size_l]; omega) (by omega) (by omega) (E.2.below h)
  rw [show (⟨(getJ ask raN).toArray⟩ : ByteArray).data.toList = getJ ask raN by simp, hp] at cP
  dsimp only at cP
  replace cP := hide' cP
  have cH := hide' (fun W (h : Below w.heap.size w W) => holdsG s k R av lv ask fs D W (holdsF_mono ha h) (holdsF_mono hv h) (by omega) (evD_below E h) hD)
  have HV := hide' hv
  have HB := hide' hB
  have HP := hide' (rngP_in (getJ ask raN) (body.length : Int))
  have HL := hide' (rngP_len (getJ ask raN) (body.length : Int))
  rw [hp] at HP HL
  dsimp only at HP HL
  have cU := hide' (fun W (h : Below w.heap.size w W) => unsatG s k (body.length : Int) R lv fs W (holdsF_mono hv h) (by omega) (by omega) (by omega) (tab_below T h))
  have hbl : body.length ≤ 1500000 := by omega
  obtain ⟨la, lc, _, _, el, -⟩ := holdsF_parts hv
  obtain ⟨aa, ac, _, _, ea, -⟩ := holdsF_parts ha
  obtain ⟨ba, bc, eb, _⟩ := id HB.out
  subst el ea eb
  clear hv ha hB hb hD g0 fl hp eg E T
  generalize getJ ask raN = je at cG cP
  generalize ask.length = m at cG cH ⊢
  obtain ⟨n, hn⟩ : ∃ n, n = fs.length := ⟨_, rfl⟩
  have N := hide' hn.symm
  rw [N.out] at cH HV ⊢
  obtain ⟨bl, hbln⟩ : ∃ bl, bl = body.length := ⟨_, rfl⟩
  have BL := hide' hbln.symm
  rw [BL.out] at cP HB HP hbl ⊢
  clear hn hbln
  rw [N.out, BL.out] at cU
  generalize putOf (withoutOf fs [clH, ctN]) crU (starL ++ Lib.itoa (bl : Int)) = fp at cU ⊢
  unfold unsR at cU ⊢
  subst hs he
  rw [hd] at cH
  clear hd
  have P0 := pb_lit w (.int .i64 200) (.string R) (.int .i64 k) (.slice la n lc) 24
  obtain ⟨W2, hW2⟩ : ∃ W2, W2 = (w.alloc (.cells #[.int .i64 200, .string R, .int .i64 k, .slice la n lc] 24)).alloc (.cells #[.int .i64 0, .string ⟨#[]⟩, .int .i64 0, .slice none 0 0] 24) := ⟨_, rfl⟩
  rw [← hW2] at P0
  have HW := hide' hW2
  have PB0 := hide' P0
  clear hW2 P0
  go_enter Tryz.func7, Tryz.ntmps7
  go_upto_region 1 with fail
  rw [← HW.out]
  go_wp2_with fail
  refine (cG.out W2 PB0.out.bel).mono ?_
  rintro e w3 ⟨rfl, b3⟩
  have P3 := hide' (pb_below PB0.out b3)
  clear b3 PB0 cG HW
  go_wp2_with fail
  refine (cP.out _ P3.out.bel).mono ?_
  rintro e w4 ⟨u4, rfl, ho⟩
  have P4 := hide' (pb_below P3.out ho.2)
  have X4 := hide' (holdsX_own ho)
  have XO := hide' (fun hne => xat_own ho hne)
  have z3 := P3.out.q1.2.2.2.2.2.2.2.2
  obtain ⟨xa, xc, ex⟩ := holdsX_slice (holdsX_own ho)
  rw [ex] at X4 XO ⊢
  clear ho cP P3 ex
  obtain ⟨i0, i1, i2, i3⟩ := quad_blk P4.out.q0
  go_wp2_with fail
  refine (cH.out _ P4.out.bel).mono ?_
  rintro e w5 ⟨rfl, b5⟩
  have P5 := hide' (pb_below P4.out b5)
  have X5 := hide' (holdsX_mono X4.out b5)
  clear b5 cH P4 X4 i0 i1 i2 i3
  obtain ⟨i0, i1, i2, i3⟩ := quad_blk P5.out.q0
  go_wp2_with fail
  refine (cU.out _ P5.out.bel).mono ?_
  rintro e w6 ⟨u, rfl, ho⟩
  have hz := P5.out.q1.2.2.2.2.2.2.2.2
  have P6 := pb_below P5.out ho.2
  obtain ⟨pa, pc, _, _, ef, -⟩ := holdsF_parts (holdsF_own ho)
  rw [ef] at ho ⊢
  obtain ⟨f9, hf9⟩ : ∃ f9, f9 = fp.length := ⟨_, rfl⟩
  have FL := hide' hf9.symm
  rw [FL.out] at ho ⊢
  have PZ := pb_put P6 (by decide) (.int .i64 416) (.string ⟨#[82, 97, 110, 103, 101, 32, 78, 111, 116, 32, 83, 97, 116, 105, 115, 102, 105, 97, 98, 108, 101]⟩) (.int .i64 k) (.slice pa f9 pc)
  have qF := row_put (b := w.heap.size + 1) (v0 := .int .i64 416) (v1 := .string ⟨#[82, 97, 110, 103, 101, 32, 78, 111, 116, 32, 83, 97, 116, 105, 115, 102, 105, 97, 98, 108, 101]⟩) (v2 := .int .i64 k) (v3 := .slice pa f9 pc) ho.1 (by omega)
  unfold put4 at qF
  have OZ := hide' (ownF_of rfl qF (by have := P5.out.bel.size; omega) PZ.bel)
  have NZ := hide' (own_nil w _ PZ.bel)
  have QZ := hide' PZ.q1
  obtain ⟨-, -, ⟨j0, j1, j2, j3, g0, g1, g2, g3, -⟩⟩ := P6
  clear ho ef hf9 PZ qF cU hz X5 P5 i0 i1 i2 i3
  go_wp2_with fail
  obtain ⟨q0, q1, q2, q3, -⟩ := QZ.out
  exact bodyPost_ret (v := .tuple #[.agg #[.int .i64 416, .string ⟨#[82, 97, 110, 103, 101, 32, 78, 111, 116, 32, 83, 97, 116, 105, 115, 102, 105, 97, 98, 108, 101]⟩, .int .i64 k, .slice pa f9 pc], .slice none 0 0]) (by simp [results, Tryz.results7, go_sem, q0, q1, q2, q3]) rfl ⟨_, _, rfl, OZ.out, NZ.out⟩
end Go.Proofs.YtipcmbonhkelbabGreatDoor
namespace Go.Proofs.YtipcmbonhkelbabGreatDoor
open Go.RowKit
set_option maxHeartbeats 8000000 in
set_option maxRecDepth 20000 in
theorem appGe (s k : Int) (R : ByteArray) (av lv v : Value) (ask fs : FL) (body : List UInt8) (D : List UInt8 → Int) (w : World) (ha : HoldsF w av ask) (hv : HoldsF w lv fs) (hB : HoldsB w v body) (hb : bulkF ask + bulkF fs + body.length ≤ 1500000) (E : EvD w) (T : Tab w) (hD : DtP (getJ fs lmN) (D (getJ fs lmN)))
    (er : Int) (ps : XL) (hp : rngP (getJ ask raN) body.length = (er, ps)) (hs : s = 200) (hd : rgHeld D ask fs = true) (he : er = 0) (a c : Nat) (hac : a ≤ c) (hcb : c < body.length) (hps : ps = [((a : Int), (c : Int))]) :
    Calls Tryz.prog 7 #[av, .agg #[.int .i64 s, .string R, .int .i64 k, lv], v] w fun e w' => ∃ u bv, e = .returned (.tuple #[.agg #[.int .i64 206, .string parB, .int .i64 k, u], bv]) ∧ OwnF w u (putOf (withoutOf fs [clH]) crU (placeL a c body.length)) w' ∧ Own w bv ((body.drop a).take (c + 1 - a)) w' := by
  have g0 := getJ_len ask raN
  have fl := bulkF_len fs
  have FT := hide' (show Fit fs from fun f hf => by have := bulkF_mem fs f hf; omega)
  have cG := fun W (h : Below w.heap.size w W) => getTokB av ask raU W (holdsF_mono ha h) (by omega) (by decide)
  have eg := vals_low2 ask (show lows raU = lows raN by decide)
  simp only [eg, getJ_eq] at cG
  generalize decide (0 < (valsOf ask raN).length) = hb0 at cG
  replace cG := hide' cG
  have cP := fun W (h : Below w.heap.size w W) => parseG ⟨(getJ ask raN).toArray⟩ (body.length : Int) W (by rw [size_l]; omega) (by omega) (by omega) (E.2.below h)
  rw [show (⟨(getJ ask raN).toArray⟩ : ByteArray).data.toList = getJ ask raN by simp, hp] at cP
  dsimp only at cP
  replace cP := hide' cP
  have cH := hide' (fun W (h : Below w.heap.size w W) => holdsG s k R av lv ask fs D W (holdsF_mono ha h) (holdsF_mono hv h) (by omega) (evD_below E h) hD)
  have HV := hide' hv
  have HB := hide' hB
  have HP := hide' (rngP_in (getJ ask raN) (body.length : Int))
  have HL := hide' (rngP_len (getJ ask raN) (body.length : Int))
  rw [hp] at HP HL
  dsimp only at HP HL
  have cO := hide' (fun W (h : Below w.heap.size w W) => oneG s k R lv v fs body a c W (holdsF_mono hv h) (holdsB_mono hB h) (by omega) (by omega) hac hcb (tab_below T h))
  have hbl : body.length ≤ 1500000 := by omega
  obtain ⟨la, lc, _, _, el, -⟩ := holdsF_parts hv
  obtain ⟨aa, ac, _, _, ea, -⟩ := holdsF_parts ha
  obtain ⟨ba, bc, eb, _⟩ := id HB.out
  subst el ea eb
  clear hv ha hB hb hD g0 fl hp eg E T
  generalize getJ ask raN = je at cG cP
  generalize ask.length = m at cG cH ⊢
  obtain ⟨n, hn⟩ : ∃ n, n = fs.length := ⟨_, rfl⟩
  have N := hide' hn.symm
  rw [N.out] at cH HV ⊢
  obtain ⟨bl, hbln⟩ : ∃ bl, bl = body.length := ⟨_, rfl⟩
  have BL := hide' hbln.symm
  rw [BL.out] at cP HB HP hbl ⊢
  clear hn hbln
  rw [N.out, BL.out] at cO
  generalize putOf (withoutOf fs [clH]) crU (placeL a c (bl : Int)) = fp at cO ⊢
  generalize (body.drop a).take (c + 1 - a) = mb at cO ⊢
  unfold parB at cO ⊢
  subst hps
  clear hcb HP
  subst hs he
  rw [hd] at cH
  clear hd
  have P0 := pb_lit w (.int .i64 200) (.string R) (.int .i64 k) (.slice la n lc) 24
  obtain ⟨W2, hW2⟩ : ∃ W2, W2 = (w.alloc (.cells #[.int .i64 200, .string R, .int .i64 k, .slice la n lc] 24)).alloc (.cells #[.int .i64 0, .string ⟨#[]⟩, .int .i64 0, .slice none 0 0] 24) := ⟨_, rfl⟩
  rw [← hW2] at P0
  have HW := hide' hW2
  have PB0 := hide' P0
  clear hW2 P0
  go_enter Tryz.func7, Tryz.ntmps7
  go_upto_region 1 with fail
  rw [← HW.out]
  go_wp2_with fail
  refine (cG.out W2 PB0.out.bel).mono ?_
  rintro e w3 ⟨rfl, b3⟩
  have P3 := hide' (pb_below PB0.out b3)
  clear b3 PB0 cG HW
  go_wp2_with fail
  refine (cP.out _ P3.out.bel).mono ?_
  rintro e w4 ⟨u4, rfl, ho⟩
  have P4 := hide' (pb_below P3.out ho.2)
  have X4 := hide' (holdsX_own ho)
  have XO := hide' (fun hne => xat_own ho hne)
  have z3 := P3.out.q1.2.2.2.2.2.2.2.2
  obtain ⟨xa, xc, ex⟩ := holdsX_slice (holdsX_own ho)
  rw [ex] at X4 XO ⊢
  clear ho cP P3 ex
  obtain ⟨i0, i1, i2, i3⟩ := quad_blk P4.out.q0
  obtain ⟨xb, xc9, e9, _, hxb, hxat⟩ := XO.out (by simp)
  injection e9 with e91 e92 e93
  subst e91
  go_wp2_with fail
  refine (cH.out _ P4.out.bel).mono ?_
  rintro e w5 ⟨rfl, b5⟩
  have P5 := hide' (pb_below P4.out b5)
  have X5 := hide' (holdsX_mono X4.out b5)
  have x9 := (xat_below hxat b5).2 0 (by simp)
  simp only [List.getElem_cons_zero, Nat.zero_mul, Nat.zero_add] at x9
  have X9 := hide' x9
  have hxlt : xb < w5.heap.size := (xat_below hxat b5).1
  clear b5 cH P4 X4 i0 i1 i2 i3 x9 hxat XO
  obtain ⟨i0, i1, i2, i3⟩ := quad_blk P5.out.q0
  have x0 := X9.out.1
  have x1 := X9.out.2
  have kO : Hid (∀ W, Below w5.heap.size w5 W → Calls Tryz.prog 21 #[.agg #[.int .i64 200, .string R, .int .i64 k, .slice la n lc], .slice ba bl bc, .agg #[.int .i64 a, .int .i64 c]] W fun e w' => ∃ pa f9 pc bv, e = .returned (.tuple #[.agg #[.int .i64 206, .string ⟨#[80, 97, 114, 116, 105, 97, 108, 32, 67, 111, 110, 116, 101, 110, 116]⟩, .int .i64 k, .slice pa f9 pc], bv]) ∧ Hid (fp.length = f9) ∧ Hid (PB w 1 (.int .i64 200) (.string R) (.int .i64 k) (.slice la n lc) (.int .i64 0) (.string ⟨#[]⟩) (.int .i64 0) (.slice none 0 0) w') ∧ Hid (w'.ownsRow (w.heap.size + 2) 42 2 (.slice pa f9 pc) f9 (cellsF fp)) ∧ Hid (w'.ownsRow (w.heap.size + 2) 5 1 bv mb.length (mb.map B)) ∧ ((w'.cell? ⟨w.heap.size, 0, none⟩ = some (.int .i64 200) ∧ w'.cell? ⟨w.heap.size, 1, none⟩ = some (.string R) ∧ w'.cell? ⟨w.heap.size, 2, none⟩ = some (.int .i64 k) ∧ w'.cell? ⟨w.heap.size, 3, none⟩ = some (.slice la n lc)) ∧ w'.cell? ⟨xb, 0, none⟩ = some (.int .i64 a) ∧ w'.cell? ⟨xb, 1, none⟩ = some (.int .i64 c)) ∧ (w'.cell? ⟨w.heap.size + 1, 0, none⟩ = some (.int .i64 0) ∧ w'.cell? ⟨w.heap.size + 1, 1, none⟩ = some (.string ⟨#[]⟩) ∧ w'.cell? ⟨w.heap.size + 1, 2, none⟩ = some (.int .i64 0) ∧ w'.cell? ⟨w.heap.size + 1, 3, none⟩ = some (.slice none 0 0)) ∧ (w'.frozen? ⟨w.heap.size + 1, 0, none⟩ = false ∧ w'.frozen? ⟨w.heap.size + 1, 1, none⟩ = false ∧ w'.frozen? ⟨w.heap.size + 1, 2, none⟩ = false ∧ w'.frozen? ⟨w.heap.size + 1, 3, none⟩ = false)) := fun W h => by
    refine (cO.out W (bt' P5.out.bel h)).mono ?_
    rintro e w' ⟨u, bv, rfl, ho, hob⟩
    have bb := bt' h ho.2
    have r := pb_below P5.out bb
    have hz := P5.out.q1.2.2.2.2.2.2.2.2
    have hs := h.size
    have ow := rowF_baseR ho.1 (c := w.heap.size + 2) (by omega)
    have ob := rowB_baseR hob.1 (c := w.heap.size + 2) (by omega)
    obtain ⟨pa, pc, _, _, ef, -⟩ := holdsF_parts (holdsF_own ho)
    rw [ef] at ow ⊢
    obtain ⟨c0, c1, c2, c3, f0, f1, f2, f3, _⟩ := r.q1
    exact ⟨pa, _, pc, bv, rfl, rfl, r, ow, ob, ⟨quad_blk r.q0, by rw [bb.cell (p := ⟨xb, 0, none⟩) hxlt]; exact x0, by rw [bb.cell (p := ⟨xb, 1, none⟩) hxlt]; exact x1⟩, ⟨c0, c1, c2, c3⟩, ⟨f0, f1, f2, f3⟩⟩
  have nx1 : xb ≠ w.heap.size + 1 := by omega
  have nx2 : w.heap.size + 1 ≠ xb := fun e => nx1 e.symm
  obtain ⟨p0, p1, p2, p3, g0, g1, g2, g3, -⟩ := P5.out.q1
  have BA : Hid (Below w5.heap.size w5 w5) := Below.refl _ _
  clear cO X5 P5 X9
  go_upto_region 11 with fail
  go_region_held3 (fun w' => (w'.cell? ⟨w.heap.size, 0, none⟩ = some (.int .i64 200) ∧ w'.cell? ⟨w.heap.size, 1, none⟩ = some (.string R) ∧ w'.cell? ⟨w.heap.size, 2, none⟩ = some (.int .i64 k) ∧ w'.cell? ⟨w.heap.size, 3, none⟩ = some (.slice la n lc)) ∧ w'.cell? ⟨xb, 0, none⟩ = some (.int .i64 a) ∧ w'.cell? ⟨xb, 1, none⟩ = some (.int .i64 c)) (go_keep)
    (first | (go_at_call 21; refine (kO.out _ (by first | with_reducible exact BA.out | with_reducible exact BA.out.drew)).mono ?_; rintro e w9 ⟨pa, f9, pc, bv, rfl, FL, R9, OF, O9, ⟨⟨l0, l1, l2, l3⟩, m0, m1⟩, ⟨t0, t1, t2, t3⟩, ⟨y0, y1, y2, y3⟩⟩))
  all_goals
    go_wp2_with fail
    have RZ := pb_put R9.out (by decide) (.int .i64 206) (.string ⟨#[80, 97, 114, 116, 105, 97, 108, 32, 67, 111, 110, 116, 101, 110, 116]⟩) (.int .i64 k) (.slice pa f9 pc)
    have qF := row_put (v0 := .int .i64 206) (v1 := .string ⟨#[80, 97, 114, 116, 105, 97, 108, 32, 67, 111, 110, 116, 101, 110, 116]⟩) (v2 := .int .i64 k) (v3 := .slice pa f9 pc) OF.out (b := w.heap.size + 1) (by omega)
    have qB := row_put (v0 := .int .i64 206) (v1 := .string ⟨#[80, 97, 114, 116, 105, 97, 108, 32, 67, 111, 110, 116, 101, 110, 116]⟩) (v2 := .int .i64 k) (v3 := .slice pa f9 pc) O9.out (b := w.heap.size + 1) (by omega)
    unfold put4 at qF qB
    have OZ := ownF_of FL.out qF (by omega) RZ.bel
    have QB := ownB_of qB (by omega) RZ.bel
    obtain ⟨q0', q1', q2', q3'⟩ := quad_blk RZ.q1
    exact bodyPost_ret (v := .tuple #[.agg #[.int .i64 206, .string ⟨#[80, 97, 114, 116, 105, 97, 108, 32, 67, 111, 110, 116, 101, 110, 116]⟩, .int .i64 k, .slice pa f9 pc], bv]) (by simp [results, Tryz.results7, go_sem, q0', q1', q2', q3']) rfl ⟨_, _, rfl, OZ, QB⟩
end Go.Proofs.YtipcmbonhkelbabGreatDoor
namespace Go.Proofs.YtipcmbonhkelbabGreatDoor
open Go.RowKit
set_option maxHeartbeats 8000000 in
set_option maxRecDepth 20000 in
theorem appGf (s k : Int) (R : ByteArray) (av lv v : Value) (ask fs : FL) (body : List UInt8) (D : List UInt8 → Int) (w : World) (ha : HoldsF w av ask) (hv : HoldsF w lv fs) (hB : HoldsB w v body) (hb : bulkF ask + bulkF fs + body.length ≤ 1500000) (E : EvD w) (T : Tab w) (hD : DtP (getJ fs lmN) (D (getJ fs lmN)))
    (er : Int) (ps : XL) (hp : rngP (getJ ask raN) body.length = (er, ps)) (hs : s = 200) (hd : rgHeld D ask fs = true) (he : er = 0) (hn1 : ¬ ps.length = 1) :
    Calls Tryz.prog 7 #[av, .agg #[.int .i64 s, .string R, .int .i64 k, lv], v] w fun e w' => ∃ u bv, e = .returned (.tuple #[.agg #[.int .i64 206, .string parB, .int .i64 k, u], bv]) ∧ OwnF w u (withoutOf fs [clH, crH, ctN] ++ [(ctU, mulL ++ markOf body)]) w' ∧ Own w bv (manyB fs body ps) w' := by
  have g0 := getJ_len ask raN
  have fl := bulkF_len fs
  have FT := hide' (show Fit fs from fun f hf => by have := bulkF_mem fs f hf; omega)
  have cG := fun W (h : Below w.heap.size w W) => getTokB av ask raU W (holdsF_mono ha h) (by omega) (by decide)
  have eg := vals_low2 ask (show lows raU = lows raN by decide)
  simp only [eg, getJ_eq] at cG
  generalize decide (0 < (valsOf ask raN).length) = hb0 at cG
  replace cG := hide' cG
  have cP := fun W (h : Below w.heap.size w W) => parseG ⟨(getJ ask raN).toArray⟩ (body.length : Int) W (by rw [size_l]; omega) (by omega) (by omega) (E.2.below h)
  rw [show (⟨(getJ ask raN).toArray⟩ : ByteArray).data.toList = getJ ask raN by simp, hp] at cP
  dsimp only at cP
  replace cP := hide' cP
  have cH := hide' (fun W (h : Below w.heap.size w W) => holdsG s k R av lv ask fs D W (holdsF_mono ha h) (holdsF_mono hv h) (by omega) (evD_below E h) hD)
  have HV := hide' hv
  have HB := hide' hB
  have HP := hide' (rngP_in (getJ ask raN) (body.length : Int))
  have HL := hide' (rngP_len (getJ ask raN) (body.length : Int))
  rw [hp] at HP HL
  dsimp only at HP HL
  have cM := hide' (fun xv W (h : Below w.heap.size w W) (hx : HoldsX W xv ps) => moreG s k R lv v xv fs body ps W (holdsF_mono hv h) (holdsB_mono hB h) hx HP.out HL.out (by omega) (by omega) (E.2.below h) (tab_below T h))
  have hbl : body.length ≤ 1500000 := by omega
  obtain ⟨la, lc, _, _, el, -⟩ := holdsF_parts hv
  obtain ⟨aa, ac, _, _, ea, -⟩ := holdsF_parts ha
  obtain ⟨ba, bc, eb, _⟩ := id HB.out
  subst el ea eb
  clear hv ha hB hb hD g0 fl hp eg E T
  generalize getJ ask raN = je at cG cP
  generalize ask.length = m at cG cH ⊢
  obtain ⟨n, hn⟩ : ∃ n, n = fs.length := ⟨_, rfl⟩
  have N := hide' hn.symm
  rw [N.out] at cH HV ⊢
  obtain ⟨bl, hbln⟩ : ∃ bl, bl = body.length := ⟨_, rfl⟩
  have BL := hide' hbln.symm
  rw [BL.out] at cP HB HP hbl ⊢
  clear hn hbln
  rw [N.out, BL.out] at cM
  generalize withoutOf fs [clH, crH, ctN] ++ [(ctU, mulL ++ markOf body)] = fp at cM ⊢
  generalize manyB fs body ps = mb at cM ⊢
  unfold parB at cM ⊢
  have tn : ((ps.length : Int) == 1) = false := by rw [beq_eq_false_iff_ne]; omega
  subst hs he
  rw [hd] at cH
  clear hd
  have P0 := pb_lit w (.int .i64 200) (.string R) (.int .i64 k) (.slice la n lc) 24
  obtain ⟨W2, hW2⟩ : ∃ W2, W2 = (w.alloc (.cells #[.int .i64 200, .string R, .int .i64 k, .slice la n lc] 24)).alloc (.cells #[.int .i64 0, .string ⟨#[]⟩, .int .i64 0, .slice none 0 0] 24) := ⟨_, rfl⟩
  rw [← hW2] at P0
  have HW := hide' hW2
  have PB0 := hide' P0
  clear hW2 P0
  go_enter Tryz.func7, Tryz.ntmps7
  go_upto_region 1 with fail
  rw [← HW.out]
  go_wp2_with fail
  refine (cG.out W2 PB0.out.bel).mono ?_
  rintro e w3 ⟨rfl, b3⟩
  have P3 := hide' (pb_below PB0.out b3)
  clear b3 PB0 cG HW
  go_wp2_with fail
  refine (cP.out _ P3.out.bel).mono ?_
  rintro e w4 ⟨u4, rfl, ho⟩
  have P4 := hide' (pb_below P3.out ho.2)
  have X4 := hide' (holdsX_own ho)
  have XO := hide' (fun hne => xat_own ho hne)
  have z3 := P3.out.q1.2.2.2.2.2.2.2.2
  obtain ⟨xa, xc, ex⟩ := holdsX_slice (holdsX_own ho)
  rw [ex] at X4 XO ⊢
  clear ho cP P3 ex
  obtain ⟨i0, i1, i2, i3⟩ := quad_blk P4.out.q0
  go_wp2_with fail
  refine (cH.out _ P4.out.bel).mono ?_
  rintro e w5 ⟨rfl, b5⟩
  have P5 := hide' (pb_below P4.out b5)
  have X5 := hide' (holdsX_mono X4.out b5)
  clear b5 cH P4 X4 i0 i1 i2 i3
  obtain ⟨i0, i1, i2, i3⟩ := quad_blk P5.out.q0
  go_wp2_with fail
  refine (cM.out _ _ P5.out.bel X5.out).mono ?_
  rintro e w6 ⟨u, bv, rfl, ho, hob⟩
  have hz := P5.out.q1.2.2.2.2.2.2.2.2
  have P6 := pb_below P5.out ho.2
  obtain ⟨pa, pc, _, _, ef, -⟩ := holdsF_parts (holdsF_own ho)
  rw [ef] at ho ⊢
  obtain ⟨f9, hf9⟩ : ∃ f9, f9 = fp.length := ⟨_, rfl⟩
  have FL := hide' hf9.symm
  rw [FL.out] at ho ⊢
  have PZ := pb_put P6 (by decide) (.int .i64 206) (.string ⟨#[80, 97, 114, 116, 105, 97, 108, 32, 67, 111, 110, 116, 101, 110, 116]⟩) (.int .i64 k) (.slice pa f9 pc)
  have qF := row_put (b := w.heap.size + 1) (v0 := .int .i64 206) (v1 := .string ⟨#[80, 97, 114, 116, 105, 97, 108, 32, 67, 111, 110, 116, 101, 110, 116]⟩) (v2 := .int .i64 k) (v3 := .slice pa f9 pc) ho.1 (by omega)
  have qB := row_put (b := w.heap.size + 1) (v0 := .int .i64 206) (v1 := .string ⟨#[80, 97, 114, 116, 105, 97, 108, 32, 67, 111, 110, 116, 101, 110, 116]⟩) (v2 := .int .i64 k) (v3 := .slice pa f9 pc) hob.1 (by omega)
  unfold put4 at qF qB
  have OZ := hide' (ownF_of rfl qF (by have := P5.out.bel.size; omega) PZ.bel)
  have QB := hide' (ownB_of qB (by have := P5.out.bel.size; omega) PZ.bel)
  have QZ := hide' PZ.q1
  obtain ⟨-, -, ⟨j0, j1, j2, j3, g0, g1, g2, g3, -⟩⟩ := P6
  clear ho hob ef hf9 PZ qF qB cM hz X5 P5 i0 i1 i2 i3
  go_wp2_with fail
  obtain ⟨q0, q1, q2, q3, -⟩ := QZ.out
  exact bodyPost_ret (v := .tuple #[.agg #[.int .i64 206, .string ⟨#[80, 97, 114, 116, 105, 97, 108, 32, 67, 111, 110, 116, 101, 110, 116]⟩, .int .i64 k, .slice pa f9 pc], bv]) (by simp [results, Tryz.results7, go_sem, q0, q1, q2, q3]) rfl ⟨_, _, rfl, OZ.out, QB.out⟩
end Go.Proofs.YtipcmbonhkelbabGreatDoor
