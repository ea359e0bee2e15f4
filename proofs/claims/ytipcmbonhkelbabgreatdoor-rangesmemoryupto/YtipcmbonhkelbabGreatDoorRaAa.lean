/- The contract of Apply (ranges): the whole, where the status is another. -/
import Derived.Test.YtipcmbonhkelbabGreatDoorXp
import Derived.Deep.RegionHeld3
import Derived.Deep.RegionWith
import Derived.Deep.DeepCutAuto
import Derived.Deep.Cut
namespace Go.Proofs.YtipcmbonhkelbabGreatDoor
open Go.RowKit
set_option maxHeartbeats 8000000 in
set_option maxRecDepth 20000 in
theorem appGa (s k : Int) (R : ByteArray) (av lv v : Value) (ask fs : FL) (body : List UInt8) (D : List UInt8 → Int) (w : World) (ha : HoldsF w av ask) (hv : HoldsF w lv fs) (hB : HoldsB w v body) (hb : bulkF ask + bulkF fs + body.length ≤ 1500000) (E : EvD w) (hD : DtP (getJ fs lmN) (D (getJ fs lmN)))
    (er : Int) (ps : XL) (hp : rngP (getJ ask raN) body.length = (er, ps)) (hRs : R.size ≤ 140737488351232) (hs : ¬ s = 200) :
    Calls Tryz.prog 7 #[av, .agg #[.int .i64 s, .string R, .int .i64 k, lv], v] w fun e w' => ∃ u bv, e = .returned (.tuple #[.agg #[.int .i64 s, .string R, .int .i64 k, u], bv]) ∧ OwnF w u (fs) w' ∧ Own w bv (body) w' := by
  have g0 := getJ_len ask raN
  have fl := bulkF_len fs
  have FT := hide' (show Fit fs from fun f hf => by have := bulkF_mem fs f hf; omega)
  have cG := fun W (h : Below w.heap.size w W) => getTokB av ask raU W (holdsF_mono ha h) (by omega) (by decide)
  have eg := vals_low2 ask (show lows raU = lows raN by decide)
  simp only [eg, getJ_eq] at cG
  generalize decide (0 < (valsOf ask raN).length) = hb0 at cG
  replace cG := hide' cG
  have cP := fun W (h : Below w.heap.size w W) => parseG ⟨(getJ ask raN).toArray⟩ (body.length : Int) W (by rw [size_l]; omega) (by omega) (by omega) (E.2.below h)
  rw [show (⟨(getJ ask raN).toArray⟩ : ByteArray).data.toList = getJ ask raN by simp, hp] at cP
  dsimp only at cP
  replace cP := hide' cP
  have cH := hide' (fun W (h : Below w.heap.size w W) => holdsG s k R av lv ask fs D W (holdsF_mono ha h) (holdsF_mono hv h) (by omega) (evD_below E h) hD)
  have HV := hide' hv
  have HB := hide' hB
  have HP := hide' (rngP_in (getJ ask raN) (body.length : Int))
  have HL := hide' (rngP_len (getJ ask raN) (body.length : Int))
  rw [hp] at HP HL
  dsimp only at HP HL
  have hR : R.size ≤ 140737488351232 := hRs
  have cC := hide' (fun W => clone R W hR)
  have cN := hide' (fun W (h : Below w.heap.size w W) => withoutTok lv (.slice none 0 0) fs [] W (holdsF_mono hv h) ⟨none, 0, rfl, fun h => absurd rfl h⟩ FT.out (by intro x hx; cases hx) (by omega) (by decide))
  rw [without_nil] at cN
  have cB := hide' (fun W (h : Below w.heap.size w W) => bcloneC v body W (holdsB_mono hB h) (by omega))
  have hbl : body.length ≤ 1500000 := by omega
  obtain ⟨la, lc, _, _, el, -⟩ := holdsF_parts hv
  obtain ⟨aa, ac, _, _, ea, -⟩ := holdsF_parts ha
  obtain ⟨ba, bc, eb, _⟩ := id HB.out
  subst el ea eb
  clear hv ha hB hb hD g0 fl hp eg E
  generalize getJ ask raN = je at cG cP
  generalize ask.length = m at cG cH ⊢
  obtain ⟨n, hn⟩ : ∃ n, n = fs.length := ⟨_, rfl⟩
  have N := hide' hn.symm
  rw [N.out] at cH HV ⊢
  obtain ⟨bl, hbln⟩ : ∃ bl, bl = body.length := ⟨_, rfl⟩
  have BL := hide' hbln.symm
  rw [BL.out] at cP HB HP hbl ⊢
  clear hn hbln
  rw [N.out] at cN
  rw [BL.out] at cB
  have P0 := pb_lit w (.int .i64 s) (.string R) (.int .i64 k) (.slice la n lc) 24
  obtain ⟨W2, hW2⟩ : ∃ W2, W2 = (w.alloc (.cells #[.int .i64 s, .string R, .int .i64 k, .slice la n lc] 24)).alloc (.cells #[.int .i64 0, .string ⟨#[]⟩, .int .i64 0, .slice none 0 0] 24) := ⟨_, rfl⟩
  rw [← hW2] at P0
  have HW := hide' hW2
  have PB0 := hide' P0
  clear hW2 P0
  go_enter Tryz.func7, Tryz.ntmps7
  go_upto_region 1 with fail
  rw [← HW.out]
  go_wp2_with fail
  refine (cG.out W2 PB0.out.bel).mono ?_
  rintro e w3 ⟨rfl, b3⟩
  have P3 := hide' (pb_below PB0.out b3)
  clear b3 PB0 cG HW
  go_wp2_with fail
  refine (cP.out _ P3.out.bel).mono ?_
  rintro e w4 ⟨u4, rfl, ho⟩
  have P4 := hide' (pb_below P3.out ho.2)
  have X4 := hide' (holdsX_own ho)
  have XO := hide' (fun hne => xat_own ho hne)
  have z3 := P3.out.q1.2.2.2.2.2.2.2.2
  obtain ⟨xa, xc, ex⟩ := holdsX_slice (holdsX_own ho)
  rw [ex] at X4 XO ⊢
  clear ho cP P3 ex
  obtain ⟨i0, i1, i2, i3⟩ := quad_blk P4.out.q0
  have t1 : (s != 200) = true := by simpa using hs
  go_upto_region 6 with fail
  clear i0 i1 i2 i3
  obtain ⟨WX, hWX⟩ : ∃ WX, WX = w4 := ⟨_, rfl⟩
  rw [← hWX] at P4 ⊢
  clear hWX
  have F1 : ∀ {w' : World}, PB w 1 (.int .i64 s) (.string R) (.int .i64 k) (.slice la n lc) (.int .i64 0) (.string ⟨#[]⟩) (.int .i64 0) (.slice none 0 0) w' → w'.cell? ⟨w.heap.size, 1, none⟩ = some (.string R) ∧ w'.cell? ⟨w.heap.size, 3, none⟩ = some (.slice la n lc) ∧ w'.frozen? ⟨w.heap.size, 1, none⟩ = false ∧ w'.frozen? ⟨w.heap.size, 3, none⟩ = false := fun h => ⟨h.q0.2.1, h.q0.2.2.2.1, h.q0.2.2.2.2.2.1, h.q0.2.2.2.2.2.2.2.1⟩
  have kC : Hid (∀ W, PB w 1 (.int .i64 s) (.string R) (.int .i64 k) (.slice la n lc) (.int .i64 0) (.string ⟨#[]⟩) (.int .i64 0) (.slice none 0 0) W → Calls Tryz.prog 17 #[.string R] W fun e w' => e = .returned (.string R) ∧ Hid (PB w 1 (.int .i64 s) (.string R) (.int .i64 k) (.slice la n lc) (.int .i64 0) (.string ⟨#[]⟩) (.int .i64 0) (.slice none 0 0) w') ∧ (w'.cell? ⟨w.heap.size, 1, none⟩ = some (.string R) ∧ w'.cell? ⟨w.heap.size, 3, none⟩ = some (.slice la n lc) ∧ w'.frozen? ⟨w.heap.size, 1, none⟩ = false ∧ w'.frozen? ⟨w.heap.size, 3, none⟩ = false)) := fun W h => by
    refine (cC.out W).mono ?_
    rintro e w' ⟨rfl, b⟩
    have r := pb_below h b
    exact ⟨rfl, r, F1 r⟩
  have kN : Hid (∀ W, PB w 1 (.int .i64 s) (.string R) (.int .i64 k) (.slice la n lc) (.int .i64 0) (.string ⟨#[]⟩) (.int .i64 0) (.slice none 0 0) W → Calls Tryz.prog 18 #[.slice la n lc, .slice none 0 0] W fun e w' => ∃ ua uc, e = .returned (.slice ua n uc) ∧ Hid (PB w 1 (.int .i64 s) (.string R) (.int .i64 k) (.slice la n lc) (.int .i64 0) (.string ⟨#[]⟩) (.int .i64 0) (.slice none 0 0) w') ∧ Hid (w'.ownsRow (w.heap.size + 2) 42 2 (.slice ua n uc) n (cellsF fs)) ∧ (w'.cell? ⟨w.heap.size, 1, none⟩ = some (.string R) ∧ w'.cell? ⟨w.heap.size, 3, none⟩ = some (.slice la n lc) ∧ w'.frozen? ⟨w.heap.size, 1, none⟩ = false ∧ w'.frozen? ⟨w.heap.size, 3, none⟩ = false)) := fun W h => by
    refine (cN.out W h.bel).mono ?_
    rintro e w' ⟨u, rfl, ho⟩
    have r := pb_below h ho.2
    have hz := h.q1.2.2.2.2.2.2.2.2
    have ow := rowF_baseR ho.1 (c := w.heap.size + 2) (by omega)
    obtain ⟨ua, uc, _, _, ef, -⟩ := holdsF_parts (holdsF_own ho)
    rw [ef, N.out] at ow
    rw [ef, N.out]
    exact ⟨ua, uc, rfl, r, ow, F1 r⟩
  obtain ⟨c1, c3, f1, f3⟩ := F1 P4.out
  clear cC cN F1
  go_cut [39] (fun uv wx => ∃ ua uc, uv = .slice ua n uc ∧ Hid (PB w 1 (.int .i64 s) (.string R) (.int .i64 k) (.slice ua n uc) (.int .i64 0) (.string ⟨#[]⟩) (.int .i64 0) (.slice none 0 0) wx) ∧ Hid (wx.ownsRow (w.heap.size + 2) 42 2 (.slice ua n uc) n (cellsF fs)))
  case first =>
    try clear HP
    try clear HL
    try clear cB
    try clear HB
    try clear HV
    try clear X4
    try clear XO
    try clear X5
    try clear cH
    go_region_with
      (first
        | (go_at_call 17; refine (kC.out _ (by first | with_reducible exact P4.out | with_reducible exact pb_drew P4.out)).mono ?_; rintro e w6 ⟨rfl, P6, d1, d3, e1, e3⟩)
        | (go_at_call 18; refine (kN.out _ (by first | with_reducible exact P6.out | with_reducible exact pb_drew P6.out)).mono ?_; rintro e w7 ⟨ua, uc, rfl, P7, O7, g1, g3, h1, h3⟩))
    all_goals
      have PF := hide' (pb_set3 (pb_set1 P7.out (by decide) (.string R)) (by decide) (.slice ua n uc))
      have OF := hide' (row_poke (b := w.heap.size) (o := 3) (x := .slice ua n uc) (row_poke (b := w.heap.size) (o := 1) (x := .string R) O7.out (by omega)) (by omega))
      clear kC kN P6 P7 O7
      go_wp2_with fail
      go_meet
      exact ⟨_, _, rfl, PF.out, OF.out⟩
  case rest =>
    obtain ⟨ua, uc, rfl, PF, OF⟩ := hcut
    clear kC kN c1 c3 f1 f3 P4
    go_wp2_with fail
    have kB : Hid (∀ W, Below wc.heap.size wc W → Calls Tryz.prog 19 #[.slice ba bl bc] W fun e w' => ∃ b2, e = .returned b2 ∧ Hid (PB w 1 (.int .i64 s) (.string R) (.int .i64 k) (.slice ua n uc) (.int .i64 0) (.string ⟨#[]⟩) (.int .i64 0) (.slice none 0 0) w') ∧ Hid (w'.ownsRow (w.heap.size + 2) 42 2 (.slice ua n uc) n (cellsF fs)) ∧ Hid (w'.ownsRow (w.heap.size + 2) 5 1 b2 body.length (body.map B))
      ∧ (w'.cell? ⟨w.heap.size, 0, none⟩ = some (.int .i64 s) ∧ w'.cell? ⟨w.heap.size, 1, none⟩ = some (.string R) ∧ w'.cell? ⟨w.heap.size, 2, none⟩ = some (.int .i64 k) ∧ w'.cell? ⟨w.heap.size, 3, none⟩ = some (.slice ua n uc)) ∧ (w'.cell? ⟨w.heap.size + 1, 0, none⟩ = some (.int .i64 0) ∧ w'.cell? ⟨w.heap.size + 1, 1, none⟩ = some (.string ⟨#[]⟩) ∧ w'.cell? ⟨w.heap.size + 1, 2, none⟩ = some (.int .i64 0) ∧ w'.cell? ⟨w.heap.size + 1, 3, none⟩ = some (.slice none 0 0)) ∧ (w'.frozen? ⟨w.heap.size + 1, 0, none⟩ = false ∧ w'.frozen? ⟨w.heap.size + 1, 1, none⟩ = false ∧ w'.frozen? ⟨w.heap.size + 1, 2, none⟩ = false ∧ w'.frozen? ⟨w.heap.size + 1, 3, none⟩ = false)) := fun W h => (cB.out W (bt' PF.out.bel h)).mono (fun e w' ⟨u, h1, h2⟩ => by
      have r := pb_below PF.out (bt' h h2.2)
      have o := row_below OF.out (bt' h h2.2)
      have hz := PF.out.q1.2.2.2.2.2.2.2.2
      have hs := h.size
      obtain ⟨c0, c1, c2, c3, f0, f1, f2, f3, _⟩ := r.q1
      exact ⟨u, h1, r, o, rowB_baseR h2.1 (by omega), quad_blk r.q0, ⟨c0, c1, c2, c3⟩, ⟨f0, f1, f2, f3⟩⟩)
    obtain ⟨j0, j1, j2, j3⟩ := quad_blk PF.out.q0
    obtain ⟨p0, p1, p2, p3, g0, g1, g2, g3, -⟩ := PF.out.q1
    have BA : Hid (Below wc.heap.size wc wc) := Below.refl _ _
    clear cB HB PF OF
    go_region_held3 (fun w' => w'.cell? ⟨w.heap.size, 0, none⟩ = some (.int .i64 s) ∧ w'.cell? ⟨w.heap.size, 1, none⟩ = some (.string R) ∧ w'.cell? ⟨w.heap.size, 2, none⟩ = some (.int .i64 k) ∧ w'.cell? ⟨w.heap.size, 3, none⟩ = some (.slice ua n uc)) (go_keep)
      (first | (go_at_call 19; refine (kB.out _ (by first | with_reducible exact BA.out | with_reducible exact BA.out.drew)).mono ?_; rintro e w9 ⟨b2, rfl, R9, OF, O9, ⟨l0, l1, l2, l3⟩, ⟨t0, t1, t2, t3⟩, ⟨y0, y1, y2, y3⟩⟩))
    all_goals
      go_wp2_with fail
      have RZ := pb_put R9.out (by decide) (.int .i64 s) (.string R) (.int .i64 k) (.slice ua n uc)
      have qF := row_put (v0 := .int .i64 s) (v1 := .string R) (v2 := .int .i64 k) (v3 := .slice ua n uc) OF.out (b := w.heap.size + 1) (by omega)
      have qB := row_put (v0 := .int .i64 s) (v1 := .string R) (v2 := .int .i64 k) (v3 := .slice ua n uc) O9.out (b := w.heap.size + 1) (by omega)
      unfold put4 at qF qB
      have OZ := ownF_of N.out qF (by omega) RZ.bel
      have QB := ownB_of qB (by omega) RZ.bel
      obtain ⟨q0', q1', q2', q3'⟩ := quad_blk RZ.q1
      exact bodyPost_ret (v := .tuple #[.agg #[.int .i64 s, .string R, .int .i64 k, .slice ua n uc], b2]) (by simp [results, Tryz.results7, go_sem, q0', q1', q2', q3']) rfl ⟨_, _, rfl, OZ, QB⟩
end Go.Proofs.YtipcmbonhkelbabGreatDoor
