/- The walk of RangesWhole. -/
import Derived.Test.YtipcmbonhkelbaaGreatDoorLawRgZ
import Derived.Deep.RegionHeld3
import Derived.Deep.DeepCutAuto
import Derived.Deep.Cut
namespace Go.Proofs.YtipcmbonhkelbaaGreatDoor
open Go.RowKit
theorem raU_low : lows [82, 97, 110, 103, 101] = lows raN := by decide
set_option maxHeartbeats 8000000 in
set_option maxRecDepth 20000 in
theorem wholeWa (av : Value) (ask : FL) (s k : Int) (zr : List UInt8) (lv : Value) (fs : FL) (v : Value) (body : List UInt8) (w : World) (ha : HoldsF w av ask) (hv : HoldsF w lv fs) (hB : HoldsB w v body) (hb : bulkF ask + bulkF fs + body.length ≤ 1048576) (hz : zr.length ≤ 1048576) (E : EvD w) (T : Tab w) (hs : s = 200) (hh : hasA ask raN = true) :
    Calls Tryz.prog 8 #[av, .agg #[.int .i64 s, .string ⟨zr.toArray⟩, .int .i64 k, lv], v] w fun e w' => e = .returned (.bool true) ∧ Below w.heap.size w w' := by
  subst hs
  have fl := bulkF_len fs
  have al := bulkF_len ask
  have c0 := hide' (fun W (h : Below w.heap.size w W) => aliveRg dtF W (parseIs W (evD_below E h)) (applyIs W (evD_below E h) (tab_below T h)))
  have AI := hide' (applyIs w E T)
  have FT := hide' (show Fit ask from fun f hf => by have := bulkF_mem ask f hf; omega)
  have bp := bulkF_putR ask irX tagX
  rw [show irX.length = 8 from rfl, show tagX.length = 13 from rfl] at bp
  have AR := hide' (app_tagX dtF dtF_tagX ask 200 k zr fs body)
  have kU := hide' (fun u W (h : HoldsF W u ask) => putTok u ask irX tagX W h FT.out (by decide) (by decide) (by omega))
  obtain ⟨la, lc, _, _, el, -⟩ := holdsF_parts hv
  obtain ⟨aa, ac, _, _, ea, -⟩ := holdsF_parts ha
  obtain ⟨ba, bc, eb, _⟩ := id hB
  subst el ea eb
  have S0 := gst_alloc (w := w) (W := w) (ps := []) (fl := [(.slice aa ask.length ac, ask), (.slice la fs.length lc, fs)]) (bl := [(.slice ba body.length bc, body)]) ⟨Below.refl _ _, fun p hp => (by cases hp), fun p hp => (by
    rcases List.mem_cons.1 hp with rfl | hp
    · exact ha
    · obtain rfl := List.mem_singleton.1 hp; exact hv), fun p hp => (by obtain rfl := List.mem_singleton.1 hp; exact hB)⟩ #[.int .i64 200, .string ⟨zr.toArray⟩, .int .i64 k, .slice la fs.length lc] 31
  obtain ⟨g0, hg0⟩ : ∃ g0, g0 = w.heap.size := ⟨_, rfl⟩
  obtain ⟨W1, hW1⟩ : ∃ W1, W1 = w.alloc (.cells #[.int .i64 200, .string ⟨zr.toArray⟩, .int .i64 k, .slice la fs.length lc] 31) := ⟨_, rfl⟩
  have S1 := hide' (show RgSt w W1 [(g0, [.int .i64 200, .string ⟨zr.toArray⟩, .int .i64 k, .slice la fs.length lc])] [(.slice aa ask.length ac, ask), (.slice la fs.length lc, fs)] [(.slice ba body.length bc, body)] from by rw [hW1, hg0]; exact S0)
  have HW := hide' hW1
  have HG := hide' hg0
  clear S0 hW1 hg0 ha hv hB E T
  go_enter Tryz.func8, Tryz.ntmps8
  go_upto_region 1 with fail
  rw [← HW.out, ← HG.out]
  go_wp2_with fail
  refine (c0.out _ S1.out.bel).mono ?_
  rintro e w2 ⟨rfl, b2⟩
  have S2 := hide' (gst_below S1.out b2)
  clear b2 S1 HW HG c0
  go_wp2_with fail
  refine (gst_copyF S2.out (u := .slice aa ask.length ac) (xs := ask) (by simp) (by omega)).mono ?_
  rintro e w3 ⟨qa, qc, rfl, S3⟩
  clear S2
  go_wp2_with fail
  have cG := gst_get S3.out (u := .slice qa ask.length qc) (xs := ask) (by simp) (by omega) [82, 97, 110, 103, 101] raN (by decide) raU_low
  rw [hh] at cG
  refine cG.mono ?_
  rintro e w4 ⟨rfl, S4⟩
  clear cG S3 FT
  obtain ⟨i0, i1, i2, i3, iz⟩ := blk4 (S4.out.blk _ List.mem_cons_self)
  go_wp2_with fail
  refine (gst_copyF S4.out (u := .slice aa ask.length ac) (xs := ask) (by simp) (by omega)).mono ?_
  rintro e w5 ⟨pa, pc, rfl, S5⟩
  clear S4 i0 i1 i2 i3 iz
  unfold irX tagX at kU
  go_wp2_with fail
  refine (kU.out _ _ (S5.out.fld (.slice pa ask.length pc, ask) (by simp))).mono ?_
  rintro e w6 ⟨u6, rfl, ho⟩
  have hx := holdsF_own ho
  obtain ⟨f6, hf6⟩ : ∃ f6, f6 = putOf ask irX tagX := ⟨_, rfl⟩
  unfold irX tagX at hf6
  rw [← hf6] at hx ho
  obtain ⟨ra, rc, _, _, er, -⟩ := holdsF_parts hx
  rw [er] at hx ⊢
  have S6 := hide' (gst_fld (gst_below S5.out ho.2) hx)
  have AR6 : Hid (appR dtF f6 200 zr k fs body = (200, zr, k, fs, body)) := by rw [hf6]; exact AR.out
  have hb6 : bulkF f6 ≤ bulkF ask + 24 := by rw [hf6]; exact bp
  clear ho hx er kU S5 AR bp hf6
  obtain ⟨i0, i1, i2, i3, iz⟩ := blk4 (S6.out.blk _ List.mem_cons_self)
  go_wp2_with fail
  refine (gst_copyR S6.out (u := .slice la fs.length lc) (xs := fs) (by simp) (by omega) 200 k zr).mono ?_
  rintro e w7 ⟨oa, oc, rfl, S7⟩
  clear S6 i0 i1 i2 i3 iz
  go_wp2_with fail
  refine (gst_copyB S7.out (v := .slice ba body.length bc) (bs := body) (by simp) (by omega)).mono ?_
  rintro e w8 ⟨da, dc, rfl, S8⟩
  clear S7
  go_wp2_with fail
  refine (gst_apply AI.out S8.out (a := .slice ra f6.length rc) (u := .slice oa fs.length oc) (v := .slice da body.length dc) (ask := f6) (fs := fs) (body := body) (by simp) (by simp) (by simp) 200 k zr (by omega) (by omega) _ AR6.out).mono ?_
  rintro e w9 ⟨p, q, x, y, rfl, S9⟩
  dsimp only at S9 ⊢
  have S10 := gst_alloc S9.out #[.int .i64 200, .string ⟨zr.toArray⟩, .int .i64 k, .slice p fs.length q] 31
  obtain ⟨g9, hg9⟩ : ∃ g9, g9 = w9.heap.size := ⟨_, rfl⟩
  obtain ⟨W10, hW10⟩ : ∃ W10, W10 = w9.alloc (.cells #[.int .i64 200, .string ⟨zr.toArray⟩, .int .i64 k, .slice p fs.length q] 31) := ⟨_, rfl⟩
  rw [← hW10, ← hg9] at S10
  have SX := hide' S10
  have HW := hide' hW10
  have HG := hide' hg9
  clear S8 S9 S10 hW10 hg9 AR6 AI
  go_upto_region 7 with fail
  rw [← HW.out, ← HG.out]
  clear HW HG
  obtain ⟨i0, i1, i2, i3, iz⟩ := blk4 (SX.out.blk _ (List.mem_cons_of_mem _ List.mem_cons_self))
  obtain ⟨j0, j1, j2, j3, jz⟩ := blk4 (SX.out.blk _ List.mem_cons_self)
  go_wp2_with fail
  refine (gst_sameR SX.out (u := .slice p fs.length q) (v := .slice la fs.length lc) (xs := fs) (by simp) (by simp) (by omega) 200 k zr).mono ?_
  rintro e w21 ⟨rfl, S21⟩
  clear SX i0 i1 i2 i3 iz j0 j1 j2 j3 jz
  go_wp2_with fail
  refine (gst_sameB S21.out (u := .slice x body.length y) (v := .slice ba body.length bc) (xs := body) (by simp) (by simp) (by omega)).mono ?_
  rintro e w22 ⟨rfl, S22⟩
  clear S21
  go_wp2_with fail
  go_ret
  exact ⟨rfl, S22.out.bel⟩
set_option maxHeartbeats 8000000 in
set_option maxRecDepth 20000 in
theorem wholeWb (av : Value) (ask : FL) (s k : Int) (zr : List UInt8) (lv : Value) (fs : FL) (v : Value) (body : List UInt8) (w : World) (ha : HoldsF w av ask) (hv : HoldsF w lv fs) (hB : HoldsB w v body) (hb : bulkF ask + bulkF fs + body.length ≤ 1048576) (hz : zr.length ≤ 1048576) (E : EvD w) (T : Tab w) (hs : ¬ s = 200) :
    Calls Tryz.prog 8 #[av, .agg #[.int .i64 s, .string ⟨zr.toArray⟩, .int .i64 k, lv], v] w fun e w' => e = .returned (.bool true) ∧ Below w.heap.size w w' := by
  have fl := bulkF_len fs
  have al := bulkF_len ask
  have c0 := hide' (fun W (h : Below w.heap.size w W) => aliveRg dtF W (parseIs W (evD_below E h)) (applyIs W (evD_below E h) (tab_below T h)))
  have AI := hide' (applyIs w E T)
  have AO := hide' (applyOwn w E T)
  have AR := hide' (app_not dtF ask s k zr fs body (fun h => hs h.1))
  obtain ⟨la, lc, _, _, el, -⟩ := holdsF_parts hv
  obtain ⟨aa, ac, _, _, ea, -⟩ := holdsF_parts ha
  obtain ⟨ba, bc, eb, _⟩ := id hB
  subst el ea eb
  have S0 := gst_alloc (w := w) (W := w) (ps := []) (fl := [(.slice aa ask.length ac, ask), (.slice la fs.length lc, fs)]) (bl := [(.slice ba body.length bc, body)]) ⟨Below.refl _ _, fun p hp => (by cases hp), fun p hp => (by
    rcases List.mem_cons.1 hp with rfl | hp
    · exact ha
    · obtain rfl := List.mem_singleton.1 hp; exact hv), fun p hp => (by obtain rfl := List.mem_singleton.1 hp; exact hB)⟩ #[.int .i64 s, .string ⟨zr.toArray⟩, .int .i64 k, .slice la fs.length lc] 31
  obtain ⟨g0, hg0⟩ : ∃ g0, g0 = w.heap.size := ⟨_, rfl⟩
  obtain ⟨W1, hW1⟩ : ∃ W1, W1 = w.alloc (.cells #[.int .i64 s, .string ⟨zr.toArray⟩, .int .i64 k, .slice la fs.length lc] 31) := ⟨_, rfl⟩
  have S1 := hide' (show RgSt w W1 [(g0, [.int .i64 s, .string ⟨zr.toArray⟩, .int .i64 k, .slice la fs.length lc])] [(.slice aa ask.length ac, ask), (.slice la fs.length lc, fs)] [(.slice ba body.length bc, body)] from by rw [hW1, hg0]; exact S0)
  have HW := hide' hW1
  have HG := hide' hg0
  clear S0 hW1 hg0 ha hv hB E T
  go_enter Tryz.func8, Tryz.ntmps8
  go_upto_region 1 with fail
  rw [← HW.out, ← HG.out]
  go_wp2_with fail
  refine (c0.out _ S1.out.bel).mono ?_
  rintro e w2 ⟨rfl, b2⟩
  have S2 := hide' (gst_below S1.out b2)
  clear b2 S1 HW HG c0
  go_wp2_with fail
  refine (gst_copyF S2.out (u := .slice aa ask.length ac) (xs := ask) (by simp) (by omega)).mono ?_
  rintro e w3 ⟨qa, qc, rfl, S3⟩
  clear S2
  go_wp2_with fail
  have cG := gst_get S3.out (u := .slice qa ask.length qc) (xs := ask) (by simp) (by omega) [82, 97, 110, 103, 101] raN (by decide) raU_low
  have t1 : (s == 200) = false := by simpa using hs
  refine cG.mono ?_
  rintro e w4 ⟨rfl, S4⟩
  clear cG S3
  obtain ⟨i0, i1, i2, i3, iz⟩ := blk4 (S4.out.blk _ List.mem_cons_self)
  go_upto_region 8 with fail
  clear iz
  have CE : ∀ {W : World} {f b}, RgSt w W [(g0, [.int .i64 s, .string ⟨zr.toArray⟩, .int .i64 k, .slice la fs.length lc])] f b → W.cell? ⟨g0, 0, none⟩ = some (.int .i64 s) ∧ W.cell? ⟨g0, 1, none⟩ = some (.string ⟨zr.toArray⟩) ∧ W.cell? ⟨g0, 2, none⟩ = some (.int .i64 k) ∧ W.cell? ⟨g0, 3, none⟩ = some (.slice la fs.length lc) := fun S => by
    obtain ⟨i0, i1, i2, i3, -⟩ := blk4 (S.blk _ List.mem_cons_self)
    exact ⟨i0, i1, i2, i3⟩
  have CZ : ∀ {gz : Nat} {w' : World} {f b}, RgZ w gz w' [(g0, [.int .i64 s, .string ⟨zr.toArray⟩, .int .i64 k, .slice la fs.length lc])] f b → (w'.cell? ⟨g0, 0, none⟩ = some (.int .i64 s) ∧ w'.cell? ⟨g0, 1, none⟩ = some (.string ⟨zr.toArray⟩) ∧ w'.cell? ⟨g0, 2, none⟩ = some (.int .i64 k) ∧ w'.cell? ⟨g0, 3, none⟩ = some (.slice la fs.length lc)) ∧ (¬ g0 = gz ∧ ¬ gz = g0) ∧ (w'.cell? ⟨gz, 0, none⟩ = some (.int .i64 0) ∧ w'.cell? ⟨gz, 1, none⟩ = some (.string ⟨#[]⟩) ∧ w'.cell? ⟨gz, 2, none⟩ = some (.int .i64 0) ∧ w'.cell? ⟨gz, 3, none⟩ = some (.slice none 0 0)) ∧ (w'.frozen? ⟨gz, 0, none⟩ = false ∧ w'.frozen? ⟨gz, 1, none⟩ = false ∧ w'.frozen? ⟨gz, 2, none⟩ = false ∧ w'.frozen? ⟨gz, 3, none⟩ = false) := fun Z => by
    obtain ⟨i0, i1, i2, i3, -⟩ := blk4 (Z.st.blk _ List.mem_cons_self)
    have ne := Z.ne _ List.mem_cons_self
    obtain ⟨t0, t1, t2, t3, y0, y1, y2, y3, -⟩ := Z.box
    exact ⟨⟨i0, i1, i2, i3⟩, ⟨ne, fun e => ne e.symm⟩, ⟨t0, t1, t2, t3⟩, ⟨y0, y1, y2, y3⟩⟩
  have k1 : Hid (∀ W, RgSt w W [(g0, [.int .i64 s, .string ⟨zr.toArray⟩, .int .i64 k, .slice la fs.length lc])] [(.slice qa ask.length qc, ask), (.slice aa ask.length ac, ask), (.slice la fs.length lc, fs)] [(.slice ba body.length bc, body)] → Calls Tryz.prog 13 #[.slice aa ask.length ac] W fun e w' => ∃ pa pc, e = .returned (.slice pa ask.length pc) ∧ Hid (RgSt w w' [(g0, [.int .i64 s, .string ⟨zr.toArray⟩, .int .i64 k, .slice la fs.length lc])] ((.slice pa ask.length pc, ask) :: [(.slice qa ask.length qc, ask), (.slice aa ask.length ac, ask), (.slice la fs.length lc, fs)]) [(.slice ba body.length bc, body)]) ∧ (w'.cell? ⟨g0, 0, none⟩ = some (.int .i64 s) ∧ w'.cell? ⟨g0, 1, none⟩ = some (.string ⟨zr.toArray⟩) ∧ w'.cell? ⟨g0, 2, none⟩ = some (.int .i64 k) ∧ w'.cell? ⟨g0, 3, none⟩ = some (.slice la fs.length lc))) := fun W S => by
    refine (gst_copyF S (u := .slice aa ask.length ac) (xs := ask) (by simp) (by omega)).mono ?_
    rintro e w' ⟨pa, pc, rfl, S'⟩
    exact ⟨pa, pc, rfl, S'.out, CE S'.out⟩
  have z1 : Hid (∀ gz W, RgZ w gz W [(g0, [.int .i64 s, .string ⟨zr.toArray⟩, .int .i64 k, .slice la fs.length lc])] [(.slice qa ask.length qc, ask), (.slice aa ask.length ac, ask), (.slice la fs.length lc, fs)] [(.slice ba body.length bc, body)] → Calls Tryz.prog 13 #[.slice aa ask.length ac] W fun e w' => ∃ pa pc, e = .returned (.slice pa ask.length pc) ∧ Hid (RgZ w gz w' [(g0, [.int .i64 s, .string ⟨zr.toArray⟩, .int .i64 k, .slice la fs.length lc])] ((.slice pa ask.length pc, ask) :: [(.slice qa ask.length qc, ask), (.slice aa ask.length ac, ask), (.slice la fs.length lc, fs)]) [(.slice ba body.length bc, body)]) ∧ (w'.cell? ⟨g0, 0, none⟩ = some (.int .i64 s) ∧ w'.cell? ⟨g0, 1, none⟩ = some (.string ⟨zr.toArray⟩) ∧ w'.cell? ⟨g0, 2, none⟩ = some (.int .i64 k) ∧ w'.cell? ⟨g0, 3, none⟩ = some (.slice la fs.length lc)) ∧ (¬ g0 = gz ∧ ¬ gz = g0) ∧ (w'.cell? ⟨gz, 0, none⟩ = some (.int .i64 0) ∧ w'.cell? ⟨gz, 1, none⟩ = some (.string ⟨#[]⟩) ∧ w'.cell? ⟨gz, 2, none⟩ = some (.int .i64 0) ∧ w'.cell? ⟨gz, 3, none⟩ = some (.slice none 0 0)) ∧ (w'.frozen? ⟨gz, 0, none⟩ = false ∧ w'.frozen? ⟨gz, 1, none⟩ = false ∧ w'.frozen? ⟨gz, 2, none⟩ = false ∧ w'.frozen? ⟨gz, 3, none⟩ = false)) := fun gz W S => by
    refine (rgz_copyF S (u := .slice aa ask.length ac) (xs := ask) (by simp) (by omega)).mono ?_
    rintro e w' ⟨pa, pc, rfl, S'⟩
    exact ⟨pa, pc, rfl, S'.out, (CZ S'.out).1, (CZ S'.out).2⟩
  have k2 : Hid (∀ W pa pc, RgSt w W [(g0, [.int .i64 s, .string ⟨zr.toArray⟩, .int .i64 k, .slice la fs.length lc])] ((.slice pa ask.length pc, ask) :: [(.slice qa ask.length qc, ask), (.slice aa ask.length ac, ask), (.slice la fs.length lc, fs)]) [(.slice ba body.length bc, body)] → Calls Tryz.prog 14 #[.agg #[.int .i64 s, .string ⟨zr.toArray⟩, .int .i64 k, .slice la fs.length lc]] W fun e w' => ∃ oa oc, e = .returned (.agg #[.int .i64 s, .string ⟨zr.toArray⟩, .int .i64 k, .slice oa fs.length oc]) ∧ Hid (RgSt w w' [(g0, [.int .i64 s, .string ⟨zr.toArray⟩, .int .i64 k, .slice la fs.length lc])] ((.slice oa fs.length oc, fs) :: (.slice pa ask.length pc, ask) :: [(.slice qa ask.length qc, ask), (.slice aa ask.length ac, ask), (.slice la fs.length lc, fs)]) [(.slice ba body.length bc, body)]) ∧ (w'.cell? ⟨g0, 0, none⟩ = some (.int .i64 s) ∧ w'.cell? ⟨g0, 1, none⟩ = some (.string ⟨zr.toArray⟩) ∧ w'.cell? ⟨g0, 2, none⟩ = some (.int .i64 k) ∧ w'.cell? ⟨g0, 3, none⟩ = some (.slice la fs.length lc))) := fun W pa pc S => by
    refine (gst_copyR S (u := .slice la fs.length lc) (xs := fs) (by simp) (by omega) _ k zr).mono ?_
    rintro e w' ⟨oa, oc, rfl, S'⟩
    exact ⟨oa, oc, rfl, S'.out, CE S'.out⟩
  have z2 : Hid (∀ gz W pa pc, RgZ w gz W [(g0, [.int .i64 s, .string ⟨zr.toArray⟩, .int .i64 k, .slice la fs.length lc])] ((.slice pa ask.length pc, ask) :: [(.slice qa ask.length qc, ask), (.slice aa ask.length ac, ask), (.slice la fs.length lc, fs)]) [(.slice ba body.length bc, body)] → Calls Tryz.prog 14 #[.agg #[.int .i64 s, .string ⟨zr.toArray⟩, .int .i64 k, .slice la fs.length lc]] W fun e w' => ∃ oa oc, e = .returned (.agg #[.int .i64 s, .string ⟨zr.toArray⟩, .int .i64 k, .slice oa fs.length oc]) ∧ Hid (RgZ w gz w' [(g0, [.int .i64 s, .string ⟨zr.toArray⟩, .int .i64 k, .slice la fs.length lc])] ((.slice oa fs.length oc, fs) :: (.slice pa ask.length pc, ask) :: [(.slice qa ask.length qc, ask), (.slice aa ask.length ac, ask), (.slice la fs.length lc, fs)]) [(.slice ba body.length bc, body)]) ∧ (w'.cell? ⟨g0, 0, none⟩ = some (.int .i64 s) ∧ w'.cell? ⟨g0, 1, none⟩ = some (.string ⟨zr.toArray⟩) ∧ w'.cell? ⟨g0, 2, none⟩ = some (.int .i64 k) ∧ w'.cell? ⟨g0, 3, none⟩ = some (.slice la fs.length lc)) ∧ (¬ g0 = gz ∧ ¬ gz = g0) ∧ (w'.cell? ⟨gz, 0, none⟩ = some (.int .i64 0) ∧ w'.cell? ⟨gz, 1, none⟩ = some (.string ⟨#[]⟩) ∧ w'.cell? ⟨gz, 2, none⟩ = some (.int .i64 0) ∧ w'.cell? ⟨gz, 3, none⟩ = some (.slice none 0 0)) ∧ (w'.frozen? ⟨gz, 0, none⟩ = false ∧ w'.frozen? ⟨gz, 1, none⟩ = false ∧ w'.frozen? ⟨gz, 2, none⟩ = false ∧ w'.frozen? ⟨gz, 3, none⟩ = false)) := fun gz W pa pc S => by
    refine (rgz_copyR S (u := .slice la fs.length lc) (xs := fs) (by simp) (by omega) _ k zr).mono ?_
    rintro e w' ⟨oa, oc, rfl, S'⟩
    exact ⟨oa, oc, rfl, S'.out, (CZ S'.out).1, (CZ S'.out).2⟩
  have k3 : Hid (∀ W pa pc oa oc, RgSt w W [(g0, [.int .i64 s, .string ⟨zr.toArray⟩, .int .i64 k, .slice la fs.length lc])] ((.slice oa fs.length oc, fs) :: (.slice pa ask.length pc, ask) :: [(.slice qa ask.length qc, ask), (.slice aa ask.length ac, ask), (.slice la fs.length lc, fs)]) [(.slice ba body.length bc, body)] → Calls Tryz.prog 22 #[.slice ba body.length bc] W fun e w' => ∃ da dc, e = .returned (.slice da body.length dc) ∧ Hid (RgSt w w' [(g0, [.int .i64 s, .string ⟨zr.toArray⟩, .int .i64 k, .slice la fs.length lc])] ((.slice oa fs.length oc, fs) :: (.slice pa ask.length pc, ask) :: [(.slice qa ask.length qc, ask), (.slice aa ask.length ac, ask), (.slice la fs.length lc, fs)]) ((.slice da body.length dc, body) :: [(.slice ba body.length bc, body)])) ∧ (w'.cell? ⟨g0, 0, none⟩ = some (.int .i64 s) ∧ w'.cell? ⟨g0, 1, none⟩ = some (.string ⟨zr.toArray⟩) ∧ w'.cell? ⟨g0, 2, none⟩ = some (.int .i64 k) ∧ w'.cell? ⟨g0, 3, none⟩ = some (.slice la fs.length lc))) := fun W pa pc oa oc S => by
    refine (gst_copyB S (v := .slice ba body.length bc) (bs := body) (by simp) (by omega)).mono ?_
    rintro e w' ⟨da, dc, rfl, S'⟩
    exact ⟨da, dc, rfl, S'.out, CE S'.out⟩
  have z3 : Hid (∀ gz W pa pc oa oc, RgZ w gz W [(g0, [.int .i64 s, .string ⟨zr.toArray⟩, .int .i64 k, .slice la fs.length lc])] ((.slice oa fs.length oc, fs) :: (.slice pa ask.length pc, ask) :: [(.slice qa ask.length qc, ask), (.slice aa ask.length ac, ask), (.slice la fs.length lc, fs)]) [(.slice ba body.length bc, body)] → Calls Tryz.prog 22 #[.slice ba body.length bc] W fun e w' => ∃ da dc, e = .returned (.slice da body.length dc) ∧ Hid (RgZ w gz w' [(g0, [.int .i64 s, .string ⟨zr.toArray⟩, .int .i64 k, .slice la fs.length lc])] ((.slice oa fs.length oc, fs) :: (.slice pa ask.length pc, ask) :: [(.slice qa ask.length qc, ask), (.slice aa ask.length ac, ask), (.slice la fs.length lc, fs)]) ((.slice da body.length dc, body) :: [(.slice ba body.length bc, body)])) ∧ (w'.cell? ⟨g0, 0, none⟩ = some (.int .i64 s) ∧ w'.cell? ⟨g0, 1, none⟩ = some (.string ⟨zr.toArray⟩) ∧ w'.cell? ⟨g0, 2, none⟩ = some (.int .i64 k) ∧ w'.cell? ⟨g0, 3, none⟩ = some (.slice la fs.length lc)) ∧ (¬ g0 = gz ∧ ¬ gz = g0) ∧ (w'.cell? ⟨gz, 0, none⟩ = some (.int .i64 0) ∧ w'.cell? ⟨gz, 1, none⟩ = some (.string ⟨#[]⟩) ∧ w'.cell? ⟨gz, 2, none⟩ = some (.int .i64 0) ∧ w'.cell? ⟨gz, 3, none⟩ = some (.slice none 0 0)) ∧ (w'.frozen? ⟨gz, 0, none⟩ = false ∧ w'.frozen? ⟨gz, 1, none⟩ = false ∧ w'.frozen? ⟨gz, 2, none⟩ = false ∧ w'.frozen? ⟨gz, 3, none⟩ = false)) := fun gz W pa pc oa oc S => by
    refine (rgz_copyB S (v := .slice ba body.length bc) (bs := body) (by simp) (by omega)).mono ?_
    rintro e w' ⟨da, dc, rfl, S'⟩
    exact ⟨da, dc, rfl, S'.out, (CZ S'.out).1, (CZ S'.out).2⟩
  have k4 : Hid (∀ W pa pc oa oc da dc, RgSt w W [(g0, [.int .i64 s, .string ⟨zr.toArray⟩, .int .i64 k, .slice la fs.length lc])] ((.slice oa fs.length oc, fs) :: (.slice pa ask.length pc, ask) :: [(.slice qa ask.length qc, ask), (.slice aa ask.length ac, ask), (.slice la fs.length lc, fs)]) ((.slice da body.length dc, body) :: [(.slice ba body.length bc, body)]) → Calls Tryz.prog 16 #[.slice pa ask.length pc, .agg #[.int .i64 s, .string ⟨zr.toArray⟩, .int .i64 k, .slice oa fs.length oc], .slice da body.length dc] W fun e w' => ∃ p q x y, e = .returned (.tuple #[.agg #[.int .i64 s, .string ⟨zr.toArray⟩, .int .i64 k, .slice p fs.length q], .slice x body.length y]) ∧ Hid (RgSt w w' [(g0, [.int .i64 s, .string ⟨zr.toArray⟩, .int .i64 k, .slice la fs.length lc])] ((.slice p fs.length q, fs) :: (.slice oa fs.length oc, fs) :: (.slice pa ask.length pc, ask) :: [(.slice qa ask.length qc, ask), (.slice aa ask.length ac, ask), (.slice la fs.length lc, fs)]) ((.slice x body.length y, body) :: (.slice da body.length dc, body) :: [(.slice ba body.length bc, body)])) ∧ (w'.cell? ⟨g0, 0, none⟩ = some (.int .i64 s) ∧ w'.cell? ⟨g0, 1, none⟩ = some (.string ⟨zr.toArray⟩) ∧ w'.cell? ⟨g0, 2, none⟩ = some (.int .i64 k) ∧ w'.cell? ⟨g0, 3, none⟩ = some (.slice la fs.length lc))) := fun W pa pc oa oc da dc S => by
    refine (gst_apply AI.out S (a := .slice pa ask.length pc) (u := .slice oa fs.length oc) (v := .slice da body.length dc) (ask := ask) (fs := fs) (body := body) (by simp) (by simp) (by simp) _ k zr (by omega) (by omega) _ AR.out).mono ?_
    rintro e w' ⟨p, q, x, y, rfl, S'⟩
    exact ⟨p, q, x, y, rfl, S'.out, CE S'.out⟩
  have z4 : Hid (∀ gz W pa pc oa oc da dc, RgZ w gz W [(g0, [.int .i64 s, .string ⟨zr.toArray⟩, .int .i64 k, .slice la fs.length lc])] ((.slice oa fs.length oc, fs) :: (.slice pa ask.length pc, ask) :: [(.slice qa ask.length qc, ask), (.slice aa ask.length ac, ask), (.slice la fs.length lc, fs)]) ((.slice da body.length dc, body) :: [(.slice ba body.length bc, body)]) → Calls Tryz.prog 16 #[.slice pa ask.length pc, .agg #[.int .i64 s, .string ⟨zr.toArray⟩, .int .i64 k, .slice oa fs.length oc], .slice da body.length dc] W fun e w' => ∃ p q x y, e = .returned (.tuple #[.agg #[.int .i64 s, .string ⟨zr.toArray⟩, .int .i64 k, .slice p fs.length q], .slice x body.length y]) ∧ Hid (RgZ w gz w' [(g0, [.int .i64 s, .string ⟨zr.toArray⟩, .int .i64 k, .slice la fs.length lc])] ((.slice p fs.length q, fs) :: (.slice oa fs.length oc, fs) :: (.slice pa ask.length pc, ask) :: [(.slice qa ask.length qc, ask), (.slice aa ask.length ac, ask), (.slice la fs.length lc, fs)]) ((.slice x body.length y, body) :: (.slice da body.length dc, body) :: [(.slice ba body.length bc, body)])) ∧ (w'.cell? ⟨g0, 0, none⟩ = some (.int .i64 s) ∧ w'.cell? ⟨g0, 1, none⟩ = some (.string ⟨zr.toArray⟩) ∧ w'.cell? ⟨g0, 2, none⟩ = some (.int .i64 k) ∧ w'.cell? ⟨g0, 3, none⟩ = some (.slice la fs.length lc)) ∧ (¬ g0 = gz ∧ ¬ gz = g0) ∧ (w'.cell? ⟨gz, 0, none⟩ = some (.int .i64 0) ∧ w'.cell? ⟨gz, 1, none⟩ = some (.string ⟨#[]⟩) ∧ w'.cell? ⟨gz, 2, none⟩ = some (.int .i64 0) ∧ w'.cell? ⟨gz, 3, none⟩ = some (.slice none 0 0)) ∧ (w'.frozen? ⟨gz, 0, none⟩ = false ∧ w'.frozen? ⟨gz, 1, none⟩ = false ∧ w'.frozen? ⟨gz, 2, none⟩ = false ∧ w'.frozen? ⟨gz, 3, none⟩ = false)) := fun gz W pa pc oa oc da dc S => by
    refine (rgz_apply AO.out S (a := .slice pa ask.length pc) (u := .slice oa fs.length oc) (v := .slice da body.length dc) (ask := ask) (fs := fs) (body := body) (by simp) (by simp) (by simp) _ k zr (by omega) (by omega) _ AR.out).mono ?_
    rintro e w' ⟨p, q, x, y, rfl, S'⟩
    exact ⟨p, q, x, y, rfl, S'.out, (CZ S'.out).1, (CZ S'.out).2⟩
  clear AI AO AR CE CZ
  go_cut [12, 13] (fun tv bv wx => ∃ g9 p q x y fr br, tv = .pointer (some ⟨g9, 0, none⟩) ∧ bv = .slice x body.length y ∧ Hid (RgSt w wx ((g9, [.int .i64 s, .string ⟨zr.toArray⟩, .int .i64 k, .slice p fs.length q]) :: [(g0, [.int .i64 s, .string ⟨zr.toArray⟩, .int .i64 k, .slice la fs.length lc])]) ((.slice p fs.length q, fs) :: (fr ++ [(.slice qa ask.length qc, ask), (.slice aa ask.length ac, ask), (.slice la fs.length lc, fs)])) ((.slice x body.length y, body) :: (br ++ [(.slice ba body.length bc, body)]))))
  case first =>
    go_region_held3 (fun w' => w'.cell? ⟨g0, 0, none⟩ = some (.int .i64 s) ∧ w'.cell? ⟨g0, 1, none⟩ = some (.string ⟨zr.toArray⟩) ∧ w'.cell? ⟨g0, 2, none⟩ = some (.int .i64 k) ∧ w'.cell? ⟨g0, 3, none⟩ = some (.slice la fs.length lc)) (go_keep)
      (first
        | (go_at_call 13; refine (k1.out _ (by first | with_reducible exact S4.out | with_reducible exact gst_drew S4.out)).mono ?_; rintro e w5 ⟨pa, pc, rfl, S5, d0, d1, d2, d3⟩)
        | (go_at_call 13; refine (z1.out _ _ (by first | with_reducible exact Z4.out | with_reducible exact rgz_new S4.out | with_reducible exact rgz_drew (rgz_new S4.out) | with_reducible exact rgz_drew Z4.out)).mono ?_; rintro e w5 ⟨pa, pc, rfl, Z5, ⟨d0, d1, d2, d3⟩, ⟨n1, n2⟩, ⟨t0, t1, t2, t3⟩, ⟨y0, y1, y2, y3⟩⟩)
        | (go_at_call 14; refine (k2.out _ _ _ (by first | with_reducible exact S5.out | with_reducible exact gst_drew S5.out)).mono ?_; rintro e w6 ⟨oa, oc, rfl, S6, d0, d1, d2, d3⟩)
        | (go_at_call 14; refine (z2.out _ _ _ _ (by first | with_reducible exact Z5.out | with_reducible exact rgz_new S5.out | with_reducible exact rgz_drew (rgz_new S5.out) | with_reducible exact rgz_drew Z5.out)).mono ?_; rintro e w6 ⟨oa, oc, rfl, Z6, ⟨d0, d1, d2, d3⟩, ⟨n1, n2⟩, ⟨t0, t1, t2, t3⟩, ⟨y0, y1, y2, y3⟩⟩)
        | (go_at_call 22; refine (k3.out _ _ _ _ _ (by first | with_reducible exact S6.out | with_reducible exact gst_drew S6.out)).mono ?_; rintro e w7 ⟨da, dc, rfl, S7, d0, d1, d2, d3⟩)
        | (go_at_call 22; refine (z3.out _ _ _ _ _ _ (by first | with_reducible exact Z6.out | with_reducible exact rgz_new S6.out | with_reducible exact rgz_drew (rgz_new S6.out) | with_reducible exact rgz_drew Z6.out)).mono ?_; rintro e w7 ⟨da, dc, rfl, Z7, ⟨d0, d1, d2, d3⟩, ⟨n1, n2⟩, ⟨t0, t1, t2, t3⟩, ⟨y0, y1, y2, y3⟩⟩)
        | (go_at_call 16; refine (k4.out _ _ _ _ _ _ _ (by first | with_reducible exact S7.out | with_reducible exact gst_drew S7.out)).mono ?_; rintro e w8 ⟨p, q, x, y, rfl, S8, d0, d1, d2, d3⟩)
        | (go_at_call 16; refine (z4.out _ _ _ _ _ _ _ _ (by first | with_reducible exact Z7.out | with_reducible exact rgz_new S7.out | with_reducible exact rgz_drew (rgz_new S7.out) | with_reducible exact rgz_drew Z7.out)).mono ?_; rintro e w8 ⟨p, q, x, y, rfl, Z8, ⟨d0, d1, d2, d3⟩, ⟨n1, n2⟩, ⟨t0, t1, t2, t3⟩, ⟨y0, y1, y2, y3⟩⟩))
    all_goals
      go_wp2_with fail
      go_meet
      exact ⟨_, p, q, x, y, [(.slice oa fs.length oc, fs), (.slice pa ask.length pc, ask)], [(.slice da body.length dc, body)], rfl, rfl, by first | exact rgz_end Z8.out _ _ _ _ | exact gst_alloc S8.out #[.int .i64 s, .string ⟨zr.toArray⟩, .int .i64 k, .slice p fs.length q] 31 | exact gst_drew (gst_alloc S8.out #[.int .i64 s, .string ⟨zr.toArray⟩, .int .i64 k, .slice p fs.length q] 31) | exact gst_drew (rgz_end Z8.out _ _ _ _)⟩
  case rest =>
    obtain ⟨g9, p, q, x, y, fr, br, rfl, rfl, SX⟩ := hcut
    clear k1 k2 k3 k4 z1 z2 z3 z4 S4 i0 i1 i2 i3
    obtain ⟨i0, i1, i2, i3, iz⟩ := blk4 (SX.out.blk _ (List.mem_cons_of_mem _ List.mem_cons_self))
    obtain ⟨j0, j1, j2, j3, jz⟩ := blk4 (SX.out.blk _ List.mem_cons_self)
    go_wp2_with fail
    refine (gst_sameR SX.out (u := .slice p fs.length q) (v := .slice la fs.length lc) (xs := fs) (by simp) (by simp) (by omega) s k zr).mono ?_
    rintro e w21 ⟨rfl, S21⟩
    clear SX i0 i1 i2 i3 iz j0 j1 j2 j3 jz
    go_wp2_with fail
    refine (gst_sameB S21.out (u := .slice x body.length y) (v := .slice ba body.length bc) (xs := body) (by simp) (by simp) (by omega)).mono ?_
    rintro e w22 ⟨rfl, S22⟩
    clear S21
    go_wp2_with fail
    go_ret
    exact ⟨rfl, S22.out.bel⟩
set_option maxHeartbeats 8000000 in
set_option maxRecDepth 20000 in
theorem wholeWc (av : Value) (ask : FL) (s k : Int) (zr : List UInt8) (lv : Value) (fs : FL) (v : Value) (body : List UInt8) (w : World) (ha : HoldsF w av ask) (hv : HoldsF w lv fs) (hB : HoldsB w v body) (hb : bulkF ask + bulkF fs + body.length ≤ 1048576) (hz : zr.length ≤ 1048576) (E : EvD w) (T : Tab w) (hs : s = 200) (hh : hasA ask raN = false) :
    Calls Tryz.prog 8 #[av, .agg #[.int .i64 s, .string ⟨zr.toArray⟩, .int .i64 k, lv], v] w fun e w' => e = .returned (.bool true) ∧ Below w.heap.size w w' := by
  subst hs
  have fl := bulkF_len fs
  have al := bulkF_len ask
  have c0 := hide' (fun W (h : Below w.heap.size w W) => aliveRg dtF W (parseIs W (evD_below E h)) (applyIs W (evD_below E h) (tab_below T h)))
  have AI := hide' (applyIs w E T)
  have AO := hide' (applyOwn w E T)
  have AR := hide' (app_not dtF ask 200 k zr fs body (fun h => by rw [hh] at h; cases h.2))
  obtain ⟨la, lc, _, _, el, -⟩ := holdsF_parts hv
  obtain ⟨aa, ac, _, _, ea, -⟩ := holdsF_parts ha
  obtain ⟨ba, bc, eb, _⟩ := id hB
  subst el ea eb
  have S0 := gst_alloc (w := w) (W := w) (ps := []) (fl := [(.slice aa ask.length ac, ask), (.slice la fs.length lc, fs)]) (bl := [(.slice ba body.length bc, body)]) ⟨Below.refl _ _, fun p hp => (by cases hp), fun p hp => (by
    rcases List.mem_cons.1 hp with rfl | hp
    · exact ha
    · obtain rfl := List.mem_singleton.1 hp; exact hv), fun p hp => (by obtain rfl := List.mem_singleton.1 hp; exact hB)⟩ #[.int .i64 200, .string ⟨zr.toArray⟩, .int .i64 k, .slice la fs.length lc] 31
  obtain ⟨g0, hg0⟩ : ∃ g0, g0 = w.heap.size := ⟨_, rfl⟩
  obtain ⟨W1, hW1⟩ : ∃ W1, W1 = w.alloc (.cells #[.int .i64 200, .string ⟨zr.toArray⟩, .int .i64 k, .slice la fs.length lc] 31) := ⟨_, rfl⟩
  have S1 := hide' (show RgSt w W1 [(g0, [.int .i64 200, .string ⟨zr.toArray⟩, .int .i64 k, .slice la fs.length lc])] [(.slice aa ask.length ac, ask), (.slice la fs.length lc, fs)] [(.slice ba body.length bc, body)] from by rw [hW1, hg0]; exact S0)
  have HW := hide' hW1
  have HG := hide' hg0
  clear S0 hW1 hg0 ha hv hB E T
  go_enter Tryz.func8, Tryz.ntmps8
  go_upto_region 1 with fail
  rw [← HW.out, ← HG.out]
  go_wp2_with fail
  refine (c0.out _ S1.out.bel).mono ?_
  rintro e w2 ⟨rfl, b2⟩
  have S2 := hide' (gst_below S1.out b2)
  clear b2 S1 HW HG c0
  go_wp2_with fail
  refine (gst_copyF S2.out (u := .slice aa ask.length ac) (xs := ask) (by simp) (by omega)).mono ?_
  rintro e w3 ⟨qa, qc, rfl, S3⟩
  clear S2
  go_wp2_with fail
  have cG := gst_get S3.out (u := .slice qa ask.length qc) (xs := ask) (by simp) (by omega) [82, 97, 110, 103, 101] raN (by decide) raU_low
  rw [hh] at cG
  refine cG.mono ?_
  rintro e w4 ⟨rfl, S4⟩
  clear cG S3
  obtain ⟨i0, i1, i2, i3, iz⟩ := blk4 (S4.out.blk _ List.mem_cons_self)
  go_upto_region 8 with fail
  clear iz
  have CE : ∀ {W : World} {f b}, RgSt w W [(g0, [.int .i64 200, .string ⟨zr.toArray⟩, .int .i64 k, .slice la fs.length lc])] f b → W.cell? ⟨g0, 0, none⟩ = some (.int .i64 200) ∧ W.cell? ⟨g0, 1, none⟩ = some (.string ⟨zr.toArray⟩) ∧ W.cell? ⟨g0, 2, none⟩ = some (.int .i64 k) ∧ W.cell? ⟨g0, 3, none⟩ = some (.slice la fs.length lc) := fun S => by
    obtain ⟨i0, i1, i2, i3, -⟩ := blk4 (S.blk _ List.mem_cons_self)
    exact ⟨i0, i1, i2, i3⟩
  have CZ : ∀ {gz : Nat} {w' : World} {f b}, RgZ w gz w' [(g0, [.int .i64 200, .string ⟨zr.toArray⟩, .int .i64 k, .slice la fs.length lc])] f b → (w'.cell? ⟨g0, 0, none⟩ = some (.int .i64 200) ∧ w'.cell? ⟨g0, 1, none⟩ = some (.string ⟨zr.toArray⟩) ∧ w'.cell? ⟨g0, 2, none⟩ = some (.int .i64 k) ∧ w'.cell? ⟨g0, 3, none⟩ = some (.slice la fs.length lc)) ∧ (¬ g0 = gz ∧ ¬ gz = g0) ∧ (w'.cell? ⟨gz, 0, none⟩ = some (.int .i64 0) ∧ w'.cell? ⟨gz, 1, none⟩ = some (.string ⟨#[]⟩) ∧ w'.cell? ⟨gz, 2, none⟩ = some (.int .i64 0) ∧ w'.cell? ⟨gz, 3, none⟩ = some (.slice none 0 0)) ∧ (w'.frozen? ⟨gz, 0, none⟩ = false ∧ w'.frozen? ⟨gz, 1, none⟩ = false ∧ w'.frozen? ⟨gz, 2, none⟩ = false ∧ w'.frozen? ⟨gz, 3, none⟩ = false) := fun Z => by
    obtain ⟨i0, i1, i2, i3, -⟩ := blk4 (Z.st.blk _ List.mem_cons_self)
    have ne := Z.ne _ List.mem_cons_self
    obtain ⟨t0, t1, t2, t3, y0, y1, y2, y3, -⟩ := Z.box
    exact ⟨⟨i0, i1, i2, i3⟩, ⟨ne, fun e => ne e.symm⟩, ⟨t0, t1, t2, t3⟩, ⟨y0, y1, y2, y3⟩⟩
  have k1 : Hid (∀ W, RgSt w W [(g0, [.int .i64 200, .string ⟨zr.toArray⟩, .int .i64 k, .slice la fs.length lc])] [(.slice qa ask.length qc, ask), (.slice aa ask.length ac, ask), (.slice la fs.length lc, fs)] [(.slice ba body.length bc, body)] → Calls Tryz.prog 13 #[.slice aa ask.length ac] W fun e w' => ∃ pa pc, e = .returned (.slice pa ask.length pc) ∧ Hid (RgSt w w' [(g0, [.int .i64 200, .string ⟨zr.toArray⟩, .int .i64 k, .slice la fs.length lc])] ((.slice pa ask.length pc, ask) :: [(.slice qa ask.length qc, ask), (.slice aa ask.length ac, ask), (.slice la fs.length lc, fs)]) [(.slice ba body.length bc, body)]) ∧ (w'.cell? ⟨g0, 0, none⟩ = some (.int .i64 200) ∧ w'.cell? ⟨g0, 1, none⟩ = some (.string ⟨zr.toArray⟩) ∧ w'.cell? ⟨g0, 2, none⟩ = some (.int .i64 k) ∧ w'.cell? ⟨g0, 3, none⟩ = some (.slice la fs.length lc))) := fun W S => by
    refine (gst_copyF S (u := .slice aa ask.length ac) (xs := ask) (by simp) (by omega)).mono ?_
    rintro e w' ⟨pa, pc, rfl, S'⟩
    exact ⟨pa, pc, rfl, S'.out, CE S'.out⟩
  have z1 : Hid (∀ gz W, RgZ w gz W [(g0, [.int .i64 200, .string ⟨zr.toArray⟩, .int .i64 k, .slice la fs.length lc])] [(.slice qa ask.length qc, ask), (.slice aa ask.length ac, ask), (.slice la fs.length lc, fs)] [(.slice ba body.length bc, body)] → Calls Tryz.prog 13 #[.slice aa ask.length ac] W fun e w' => ∃ pa pc, e = .returned (.slice pa ask.length pc) ∧ Hid (RgZ w gz w' [(g0, [.int .i64 200, .string ⟨zr.toArray⟩, .int .i64 k, .slice la fs.length lc])] ((.slice pa ask.length pc, ask) :: [(.slice qa ask.length qc, ask), (.slice aa ask.length ac, ask), (.slice la fs.length lc, fs)]) [(.slice ba body.length bc, body)]) ∧ (w'.cell? ⟨g0, 0, none⟩ = some (.int .i64 200) ∧ w'.cell? ⟨g0, 1, none⟩ = some (.string ⟨zr.toArray⟩) ∧ w'.cell? ⟨g0, 2, none⟩ = some (.int .i64 k) ∧ w'.cell? ⟨g0, 3, none⟩ = some (.slice la fs.length lc)) ∧ (¬ g0 = gz ∧ ¬ gz = g0) ∧ (w'.cell? ⟨gz, 0, none⟩ = some (.int .i64 0) ∧ w'.cell? ⟨gz, 1, none⟩ = some (.string ⟨#[]⟩) ∧ w'.cell? ⟨gz, 2, none⟩ = some (.int .i64 0) ∧ w'.cell? ⟨gz, 3, none⟩ = some (.slice none 0 0)) ∧ (w'.frozen? ⟨gz, 0, none⟩ = false ∧ w'.frozen? ⟨gz, 1, none⟩ = false ∧ w'.frozen? ⟨gz, 2, none⟩ = false ∧ w'.frozen? ⟨gz, 3, none⟩ = false)) := fun gz W S => by
    refine (rgz_copyF S (u := .slice aa ask.length ac) (xs := ask) (by simp) (by omega)).mono ?_
    rintro e w' ⟨pa, pc, rfl, S'⟩
    exact ⟨pa, pc, rfl, S'.out, (CZ S'.out).1, (CZ S'.out).2⟩
  have k2 : Hid (∀ W pa pc, RgSt w W [(g0, [.int .i64 200, .string ⟨zr.toArray⟩, .int .i64 k, .slice la fs.length lc])] ((.slice pa ask.length pc, ask) :: [(.slice qa ask.length qc, ask), (.slice aa ask.length ac, ask), (.slice la fs.length lc, fs)]) [(.slice ba body.length bc, body)] → Calls Tryz.prog 14 #[.agg #[.int .i64 200, .string ⟨zr.toArray⟩, .int .i64 k, .slice la fs.length lc]] W fun e w' => ∃ oa oc, e = .returned (.agg #[.int .i64 200, .string ⟨zr.toArray⟩, .int .i64 k, .slice oa fs.length oc]) ∧ Hid (RgSt w w' [(g0, [.int .i64 200, .string ⟨zr.toArray⟩, .int .i64 k, .slice la fs.length lc])] ((.slice oa fs.length oc, fs) :: (.slice pa ask.length pc, ask) :: [(.slice qa ask.length qc, ask), (.slice aa ask.length ac, ask), (.slice la fs.length lc, fs)]) [(.slice ba body.length bc, body)]) ∧ (w'.cell? ⟨g0, 0, none⟩ = some (.int .i64 200) ∧ w'.cell? ⟨g0, 1, none⟩ = some (.string ⟨zr.toArray⟩) ∧ w'.cell? ⟨g0, 2, none⟩ = some (.int .i64 k) ∧ w'.cell? ⟨g0, 3, none⟩ = some (.slice la fs.length lc))) := fun W pa pc S => by
    refine (gst_copyR S (u := .slice la fs.length lc) (xs := fs) (by simp) (by omega) _ k zr).mono ?_
    rintro e w' ⟨oa, oc, rfl, S'⟩
    exact ⟨oa, oc, rfl, S'.out, CE S'.out⟩
  have z2 : Hid (∀ gz W pa pc, RgZ w gz W [(g0, [.int .i64 200, .string ⟨zr.toArray⟩, .int .i64 k, .slice la fs.length lc])] ((.slice pa ask.length pc, ask) :: [(.slice qa ask.length qc, ask), (.slice aa ask.length ac, ask), (.slice la fs.length lc, fs)]) [(.slice ba body.length bc, body)] → Calls Tryz.prog 14 #[.agg #[.int .i64 200, .string ⟨zr.toArray⟩, .int .i64 k, .slice la fs.length lc]] W fun e w' => ∃ oa oc, e = .returned (.agg #[.int .i64 200, .string ⟨zr.toArray⟩, .int .i64 k, .slice oa fs.length oc]) ∧ Hid (RgZ w gz w' [(g0, [.int .i64 200, .string ⟨zr.toArray⟩, .int .i64 k, .slice la fs.length lc])] ((.slice oa fs.length oc, fs) :: (.slice pa ask.length pc, ask) :: [(.slice qa ask.length qc, ask), (.slice aa ask.length ac, ask), (.slice la fs.length lc, fs)]) [(.slice ba body.length bc, body)]) ∧ (w'.cell? ⟨g0, 0, none⟩ = some (.int .i64 200) ∧ w'.cell? ⟨g0, 1, none⟩ = some (.string ⟨zr.toArray⟩) ∧ w'.cell? ⟨g0, 2, none⟩ = some (.int .i64 k) ∧ w'.cell? ⟨g0, 3, none⟩ = some (.slice la fs.length lc)) ∧ (¬ g0 = gz ∧ ¬ gz = g0) ∧ (w'.cell? ⟨gz, 0, none⟩ = some (.int .i64 0) ∧ w'.cell? ⟨gz, 1, none⟩ = some (.string ⟨#[]⟩) ∧ w'.cell? ⟨gz, 2, none⟩ = some (.int .i64 0) ∧ w'.cell? ⟨gz, 3, none⟩ = some (.slice none 0 0)) ∧ (w'.frozen? ⟨gz, 0, none⟩ = false ∧ w'.frozen? ⟨gz, 1, none⟩ = false ∧ w'.frozen? ⟨gz, 2, none⟩ = false ∧ w'.frozen? ⟨gz, 3, none⟩ = false)) := fun gz W pa pc S => by
    refine (rgz_copyR S (u := .slice la fs.length lc) (xs := fs) (by simp) (by omega) _ k zr).mono ?_
    rintro e w' ⟨oa, oc, rfl, S'⟩
    exact ⟨oa, oc, rfl, S'.out, (CZ S'.out).1, (CZ S'.out).2⟩
  have k3 : Hid (∀ W pa pc oa oc, RgSt w W [(g0, [.int .i64 200, .string ⟨zr.toArray⟩, .int .i64 k, .slice la fs.length lc])] ((.slice oa fs.length oc, fs) :: (.slice pa ask.length pc, ask) :: [(.slice qa ask.length qc, ask), (.slice aa ask.length ac, ask), (.slice la fs.length lc, fs)]) [(.slice ba body.length bc, body)] → Calls Tryz.prog 22 #[.slice ba body.length bc] W fun e w' => ∃ da dc, e = .returned (.slice da body.length dc) ∧ Hid (RgSt w w' [(g0, [.int .i64 200, .string ⟨zr.toArray⟩, .int .i64 k, .slice la fs.length lc])] ((.slice oa fs.length oc, fs) :: (.slice pa ask.length pc, ask) :: [(.slice qa ask.length qc, ask), (.slice aa ask.length ac, ask), (.slice la fs.length lc, fs)]) ((.slice da body.length dc, body) :: [(.slice ba body.length bc, body)])) ∧ (w'.cell? ⟨g0, 0, none⟩ = some (.int .i64 200) ∧ w'.cell? ⟨g0, 1, none⟩ = some (.string ⟨zr.toArray⟩) ∧ w'.cell? ⟨g0, 2, none⟩ = some (.int .i64 k) ∧ w'.cell? ⟨g0, 3, none⟩ = some (.slice la fs.length lc))) := fun W pa pc oa oc S => by
    refine (gst_copyB S (v := .slice ba body.length bc) (bs := body) (by simp) (by omega)).mono ?_
    rintro e w' ⟨da, dc, rfl, S'⟩
    exact ⟨da, dc, rfl, S'.out, CE S'.out⟩
  have z3 : Hid (∀ gz W pa pc oa oc, RgZ w gz W [(g0, [.int .i64 200, .string ⟨zr.toArray⟩, .int .i64 k, .slice la fs.length lc])] ((.slice oa fs.length oc, fs) :: (.slice pa ask.length pc, ask) :: [(.slice qa ask.length qc, ask), (.slice aa ask.length ac, ask), (.slice la fs.length lc, fs)]) [(.slice ba body.length bc, body)] → Calls Tryz.prog 22 #[.slice ba body.length bc] W fun e w' => ∃ da dc, e = .returned (.slice da body.length dc) ∧ Hid (RgZ w gz w' [(g0, [.int .i64 200, .string ⟨zr.toArray⟩, .int .i64 k, .slice la fs.length lc])] ((.slice oa fs.length oc, fs) :: (.slice pa ask.length pc, ask) :: [(.slice qa ask.length qc, ask), (.slice aa ask.length ac, ask), (.slice la fs.length lc, fs)]) ((.slice da body.length dc, body) :: [(.slice ba body.length bc, body)])) ∧ (w'.cell? ⟨g0, 0, none⟩ = some (.int .i64 200) ∧ w'.cell? ⟨g0, 1, none⟩ = some (.string ⟨zr.toArray⟩) ∧ w'.cell? ⟨g0, 2, none⟩ = some (.int .i64 k) ∧ w'.cell? ⟨g0, 3, none⟩ = some (.slice la fs.length lc)) ∧ (¬ g0 = gz ∧ ¬ gz = g0) ∧ (w'.cell? ⟨gz, 0, none⟩ = some (.int .i64 0) ∧ w'.cell? ⟨gz, 1, none⟩ = some (.string ⟨#[]⟩) ∧ w'.cell? ⟨gz, 2, none⟩ = some (.int .i64 0) ∧ w'.cell? ⟨gz, 3, none⟩ = some (.slice none 0 0)) ∧ (w'.frozen? ⟨gz, 0, none⟩ = false ∧ w'.frozen? ⟨gz, 1, none⟩ = false ∧ w'.frozen? ⟨gz, 2, none⟩ = false ∧ w'.frozen? ⟨gz, 3, none⟩ = false)) := fun gz W pa pc oa oc S => by
    refine (rgz_copyB S (v := .slice ba body.length bc) (bs := body) (by simp) (by omega)).mono ?_
    rintro e w' ⟨da, dc, rfl, S'⟩
    exact ⟨da, dc, rfl, S'.out, (CZ S'.out).1, (CZ S'.out).2⟩
  have k4 : Hid (∀ W pa pc oa oc da dc, RgSt w W [(g0, [.int .i64 200, .string ⟨zr.toArray⟩, .int .i64 k, .slice la fs.length lc])] ((.slice oa fs.length oc, fs) :: (.slice pa ask.length pc, ask) :: [(.slice qa ask.length qc, ask), (.slice aa ask.length ac, ask), (.slice la fs.length lc, fs)]) ((.slice da body.length dc, body) :: [(.slice ba body.length bc, body)]) → Calls Tryz.prog 16 #[.slice pa ask.length pc, .agg #[.int .i64 200, .string ⟨zr.toArray⟩, .int .i64 k, .slice oa fs.length oc], .slice da body.length dc] W fun e w' => ∃ p q x y, e = .returned (.tuple #[.agg #[.int .i64 200, .string ⟨zr.toArray⟩, .int .i64 k, .slice p fs.length q], .slice x body.length y]) ∧ Hid (RgSt w w' [(g0, [.int .i64 200, .string ⟨zr.toArray⟩, .int .i64 k, .slice la fs.length lc])] ((.slice p fs.length q, fs) :: (.slice oa fs.length oc, fs) :: (.slice pa ask.length pc, ask) :: [(.slice qa ask.length qc, ask), (.slice aa ask.length ac, ask), (.slice la fs.length lc, fs)]) ((.slice x body.length y, body) :: (.slice da body.length dc, body) :: [(.slice ba body.length bc, body)])) ∧ (w'.cell? ⟨g0, 0, none⟩ = some (.int .i64 200) ∧ w'.cell? ⟨g0, 1, none⟩ = some (.string ⟨zr.toArray⟩) ∧ w'.cell? ⟨g0, 2, none⟩ = some (.int .i64 k) ∧ w'.cell? ⟨g0, 3, none⟩ = some (.slice la fs.length lc))) := fun W pa pc oa oc da dc S => by
    refine (gst_apply AI.out S (a := .slice pa ask.length pc) (u := .slice oa fs.length oc) (v := .slice da body.length dc) (ask := ask) (fs := fs) (body := body) (by simp) (by simp) (by simp) _ k zr (by omega) (by omega) _ AR.out).mono ?_
    rintro e w' ⟨p, q, x, y, rfl, S'⟩
    exact ⟨p, q, x, y, rfl, S'.out, CE S'.out⟩
  have z4 : Hid (∀ gz W pa pc oa oc da dc, RgZ w gz W [(g0, [.int .i64 200, .string ⟨zr.toArray⟩, .int .i64 k, .slice la fs.length lc])] ((.slice oa fs.length oc, fs) :: (.slice pa ask.length pc, ask) :: [(.slice qa ask.length qc, ask), (.slice aa ask.length ac, ask), (.slice la fs.length lc, fs)]) ((.slice da body.length dc, body) :: [(.slice ba body.length bc, body)]) → Calls Tryz.prog 16 #[.slice pa ask.length pc, .agg #[.int .i64 200, .string ⟨zr.toArray⟩, .int .i64 k, .slice oa fs.length oc], .slice da body.length dc] W fun e w' => ∃ p q x y, e = .returned (.tuple #[.agg #[.int .i64 200, .string ⟨zr.toArray⟩, .int .i64 k, .slice p fs.length q], .slice x body.length y]) ∧ Hid (RgZ w gz w' [(g0, [.int .i64 200, .string ⟨zr.toArray⟩, .int .i64 k, .slice la fs.length lc])] ((.slice p fs.length q, fs) :: (.slice oa fs.length oc, fs) :: (.slice pa ask.length pc, ask) :: [(.slice qa ask.length qc, ask), (.slice aa ask.length ac, ask), (.slice la fs.length lc, fs)]) ((.slice x body.length y, body) :: (.slice da body.length dc, body) :: [(.slice ba body.length bc, body)])) ∧ (w'.cell? ⟨g0, 0, none⟩ = some (.int .i64 200) ∧ w'.cell? ⟨g0, 1, none⟩ = some (.string ⟨zr.toArray⟩) ∧ w'.cell? ⟨g0, 2, none⟩ = some (.int .i64 k) ∧ w'.cell? ⟨g0, 3, none⟩ = some (.slice la fs.length lc)) ∧ (¬ g0 = gz ∧ ¬ gz = g0) ∧ (w'.cell? ⟨gz, 0, none⟩ = some (.int .i64 0) ∧ w'.cell? ⟨gz, 1, none⟩ = some (.string ⟨#[]⟩) ∧ w'.cell? ⟨gz, 2, none⟩ = some (.int .i64 0) ∧ w'.cell? ⟨gz, 3, none⟩ = some (.slice none 0 0)) ∧ (w'.frozen? ⟨gz, 0, none⟩ = false ∧ w'.frozen? ⟨gz, 1, none⟩ = false ∧ w'.frozen? ⟨gz, 2, none⟩ = false ∧ w'.frozen? ⟨gz, 3, none⟩ = false)) := fun gz W pa pc oa oc da dc S => by
    refine (rgz_apply AO.out S (a := .slice pa ask.length pc) (u := .slice oa fs.length oc) (v := .slice da body.length dc) (ask := ask) (fs := fs) (body := body) (by simp) (by simp) (by simp) _ k zr (by omega) (by omega) _ AR.out).mono ?_
    rintro e w' ⟨p, q, x, y, rfl, S'⟩
    exact ⟨p, q, x, y, rfl, S'.out, (CZ S'.out).1, (CZ S'.out).2⟩
  clear AI AO AR CE CZ
  go_cut [12, 13] (fun tv bv wx => ∃ g9 p q x y fr br, tv = .pointer (some ⟨g9, 0, none⟩) ∧ bv = .slice x body.length y ∧ Hid (RgSt w wx ((g9, [.int .i64 200, .string ⟨zr.toArray⟩, .int .i64 k, .slice p fs.length q]) :: [(g0, [.int .i64 200, .string ⟨zr.toArray⟩, .int .i64 k, .slice la fs.length lc])]) ((.slice p fs.length q, fs) :: (fr ++ [(.slice qa ask.length qc, ask), (.slice aa ask.length ac, ask), (.slice la fs.length lc, fs)])) ((.slice x body.length y, body) :: (br ++ [(.slice ba body.length bc, body)]))))
  case first =>
    go_region_held3 (fun w' => w'.cell? ⟨g0, 0, none⟩ = some (.int .i64 200) ∧ w'.cell? ⟨g0, 1, none⟩ = some (.string ⟨zr.toArray⟩) ∧ w'.cell? ⟨g0, 2, none⟩ = some (.int .i64 k) ∧ w'.cell? ⟨g0, 3, none⟩ = some (.slice la fs.length lc)) (go_keep)
      (first
        | (go_at_call 13; refine (k1.out _ (by first | with_reducible exact S4.out | with_reducible exact gst_drew S4.out)).mono ?_; rintro e w5 ⟨pa, pc, rfl, S5, d0, d1, d2, d3⟩)
        | (go_at_call 13; refine (z1.out _ _ (by first | with_reducible exact Z4.out | with_reducible exact rgz_new S4.out | with_reducible exact rgz_drew (rgz_new S4.out) | with_reducible exact rgz_drew Z4.out)).mono ?_; rintro e w5 ⟨pa, pc, rfl, Z5, ⟨d0, d1, d2, d3⟩, ⟨n1, n2⟩, ⟨t0, t1, t2, t3⟩, ⟨y0, y1, y2, y3⟩⟩)
        | (go_at_call 14; refine (k2.out _ _ _ (by first | with_reducible exact S5.out | with_reducible exact gst_drew S5.out)).mono ?_; rintro e w6 ⟨oa, oc, rfl, S6, d0, d1, d2, d3⟩)
        | (go_at_call 14; refine (z2.out _ _ _ _ (by first | with_reducible exact Z5.out | with_reducible exact rgz_new S5.out | with_reducible exact rgz_drew (rgz_new S5.out) | with_reducible exact rgz_drew Z5.out)).mono ?_; rintro e w6 ⟨oa, oc, rfl, Z6, ⟨d0, d1, d2, d3⟩, ⟨n1, n2⟩, ⟨t0, t1, t2, t3⟩, ⟨y0, y1, y2, y3⟩⟩)
        | (go_at_call 22; refine (k3.out _ _ _ _ _ (by first | with_reducible exact S6.out | with_reducible exact gst_drew S6.out)).mono ?_; rintro e w7 ⟨da, dc, rfl, S7, d0, d1, d2, d3⟩)
        | (go_at_call 22; refine (z3.out _ _ _ _ _ _ (by first | with_reducible exact Z6.out | with_reducible exact rgz_new S6.out | with_reducible exact rgz_drew (rgz_new S6.out) | with_reducible exact rgz_drew Z6.out)).mono ?_; rintro e w7 ⟨da, dc, rfl, Z7, ⟨d0, d1, d2, d3⟩, ⟨n1, n2⟩, ⟨t0, t1, t2, t3⟩, ⟨y0, y1, y2, y3⟩⟩)
        | (go_at_call 16; refine (k4.out _ _ _ _ _ _ _ (by first | with_reducible exact S7.out | with_reducible exact gst_drew S7.out)).mono ?_; rintro e w8 ⟨p, q, x, y, rfl, S8, d0, d1, d2, d3⟩)
        | (go_at_call 16; refine (z4.out _ _ _ _ _ _ _ _ (by first | with_reducible exact Z7.out | with_reducible exact rgz_new S7.out | with_reducible exact rgz_drew (rgz_new S7.out) | with_reducible exact rgz_drew Z7.out)).mono ?_; rintro e w8 ⟨p, q, x, y, rfl, Z8, ⟨d0, d1, d2, d3⟩, ⟨n1, n2⟩, ⟨t0, t1, t2, t3⟩, ⟨y0, y1, y2, y3⟩⟩))
    all_goals
      go_wp2_with fail
      go_meet
      exact ⟨_, p, q, x, y, [(.slice oa fs.length oc, fs), (.slice pa ask.length pc, ask)], [(.slice da body.length dc, body)], rfl, rfl, by first | exact rgz_end Z8.out _ _ _ _ | exact gst_alloc S8.out #[.int .i64 200, .string ⟨zr.toArray⟩, .int .i64 k, .slice p fs.length q] 31 | exact gst_drew (gst_alloc S8.out #[.int .i64 200, .string ⟨zr.toArray⟩, .int .i64 k, .slice p fs.length q] 31) | exact gst_drew (rgz_end Z8.out _ _ _ _)⟩
  case rest =>
    obtain ⟨g9, p, q, x, y, fr, br, rfl, rfl, SX⟩ := hcut
    clear k1 k2 k3 k4 z1 z2 z3 z4 S4 i0 i1 i2 i3
    obtain ⟨i0, i1, i2, i3, iz⟩ := blk4 (SX.out.blk _ (List.mem_cons_of_mem _ List.mem_cons_self))
    obtain ⟨j0, j1, j2, j3, jz⟩ := blk4 (SX.out.blk _ List.mem_cons_self)
    go_wp2_with fail
    refine (gst_sameR SX.out (u := .slice p fs.length q) (v := .slice la fs.length lc) (xs := fs) (by simp) (by simp) (by omega) 200 k zr).mono ?_
    rintro e w21 ⟨rfl, S21⟩
    clear SX i0 i1 i2 i3 iz j0 j1 j2 j3 jz
    go_wp2_with fail
    refine (gst_sameB S21.out (u := .slice x body.length y) (v := .slice ba body.length bc) (xs := body) (by simp) (by simp) (by omega)).mono ?_
    rintro e w22 ⟨rfl, S22⟩
    clear S21
    go_wp2_with fail
    go_ret
    exact ⟨rfl, S22.out.bel⟩

theorem wholeW (av : Value) (ask : FL) (s k : Int) (zr : List UInt8) (lv : Value) (fs : FL) (v : Value) (body : List UInt8) (w : World) (ha : HoldsF w av ask) (hv : HoldsF w lv fs) (hB : HoldsB w v body) (hb : bulkF ask + bulkF fs + body.length ≤ 1048576) (hz : zr.length ≤ 1048576) (E : EvD w) (T : Tab w) :
    Calls Tryz.prog 8 #[av, .agg #[.int .i64 s, .string ⟨zr.toArray⟩, .int .i64 k, lv], v] w fun e w' => e = .returned (.bool true) ∧ Below w.heap.size w w' := by
  by_cases hs : s = 200
  · cases hh : hasA ask raN with
    | true => exact wholeWa av ask s k zr lv fs v body w ha hv hB hb hz E T hs hh
    | false => exact wholeWc av ask s k zr lv fs v body w ha hv hB hb hz E T hs hh
  · exact wholeWb av ask s k zr lv fs v body w ha hv hB hb hz E T hs
end Go.Proofs.YtipcmbonhkelbaaGreatDoor
