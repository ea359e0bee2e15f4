/- The walk of ObjectRound. -/
import Derived.Test.YtnlehfondhegbaaGreatDoorObN
namespace Go.Proofs.YtnlehfondhegbaaGreatDoor
open Go.RowKit
set_option maxRecDepth 20000 in
set_option maxHeartbeats 8000000 in
theorem roundOW (e : En) (lv bv : Value) (v : Value) (bs : List UInt8) (w : World) (hF : HoldsF w lv e.r.fs) (hB : HoldsB w bv e.body) (BE : Bnd e) (hv : HoldsB w v bs) (hl : bs.length ≤ 1048576) (E : Env w) (T : Tab w) :
    Calls Tryz.prog 4 #[entV e lv bv, v] w fun x w' => x = .returned (.bool true) ∧ Below w.heap.size w w' := by
  obtain ⟨la, lc, _, _, e1, _⟩ := holdsF_parts hF
  obtain ⟨ba, bc, e2, _⟩ := holdsB_parts hB
  subst e1 e2
  have b0 := below_alloc' w (.cells #[.string ⟨e.key.toArray⟩, .string ⟨e.vary.toArray⟩, .int .i64 e.r.s, .string ⟨e.r.r.toArray⟩, .int .i64 e.r.k, .slice la e.r.fs.length lc, .slice ba e.body.length bc, .int .i64 e.a, .int .i64 e.g] 29)
  have q0 := cells_lit w #[.string ⟨e.key.toArray⟩, .string ⟨e.vary.toArray⟩, .int .i64 e.r.s, .string ⟨e.r.r.toArray⟩, .int .i64 e.r.k, .slice la e.r.fs.length lc, .slice ba e.body.length bc, .int .i64 e.a, .int .i64 e.g] 29
  obtain ⟨W0, hW0⟩ : ∃ W0, W0 = w.alloc (.cells #[.string ⟨e.key.toArray⟩, .string ⟨e.vary.toArray⟩, .int .i64 e.r.s, .string ⟨e.r.r.toArray⟩, .int .i64 e.r.k, .slice la e.r.fs.length lc, .slice ba e.body.length bc, .int .i64 e.a, .int .i64 e.g] 29) := ⟨_, rfl⟩
  have HW0 := hide' hW0
  rw [← hW0] at b0 q0
  obtain ⟨q, hq⟩ : ∃ q, q = w.heap.size := ⟨_, rfl⟩
  have HQ := hide' hq
  rw [← hq] at q0
  have BB := hide' b0
  have CC : Hid (∀ W, Below W0.heap.size W0 W → Blk q W [.string ⟨e.key.toArray⟩, .string ⟨e.vary.toArray⟩, .int .i64 e.r.s, .string ⟨e.r.r.toArray⟩, .int .i64 e.r.k, .slice la e.r.fs.length lc, .slice ba e.body.length bc, .int .i64 e.a, .int .i64 e.g]) := fun W hb => cells_below q0 hb
  have HF := hide' hF
  have HB := hide' hB
  have EE := hide' E
  have TT := hide' T
  have HN := hide' BE
  have cA := hide' (aliveOC W0 (tab_below T b0))
  have cC := hide' (fun W (hb : Below w.heap.size w W) => copyEB BE _ _ W (holdsF_mono hF hb) (holdsB_mono hB hb))
  have cE := hide' (fun W (hb : Below w.heap.size w W) lu bu (h1 : HoldsF W lu e.r.fs) (h2 : HoldsB W bu e.body) => encB BE lu bu W h1 h2 (tab_below T hb))
  unfold entV at cC cE ⊢
  have HV := hide' hv
  have LV := hide' hl
  have OT := hide' (obj_two e)
  have OD : Hid ((objOf e).2 = 0 → decO (objOf e).1 = (e, 0)) := fun h => dec_obj (Prod.ext rfl h)
  have OL : Hid ((objOf e).2 = 0 → (objOf e).1.length ≤ 81968) := fun h => (obj_len (e := e) (Prod.ext rfl h)).2
  clear hW0 hq b0 q0 hF hB hv hl E T BE
  generalize objOf e = OE at *
  obtain ⟨ol, oe⟩ := OE
  dsimp only at *
  go_enter Tryz.func4, Tryz.ntmps4
  go_wp2_with fail
  rw [← HW0.out, ← HQ.out]
  refine cA.out.mono ?_
  rintro x w1 ⟨rfl, b1⟩
  have LB := hide' b1
  replace BB := hide' (bt' BB.out b1)
  clear b1 cA
  obtain ⟨⟨c0, c1, c2, c3, c4, c5, c6, c7, c8⟩, -⟩ := cells_nine (CC.out w1 LB.out)
  go_wp2_with fail
  refine (cC.out _ BB.out).mono ?_
  rintro x w2 ⟨lu, bu, rfl, hfu, hbu⟩
  replace LB := hide' (bt' LB.out hfu.2)
  replace BB := hide' (bt' BB.out hfu.2)
  have HU := hide' (holdsF_own hfu)
  have HW := hide' (holdsB_own hbu)
  clear hfu hbu cC c0 c1 c2 c3 c4 c5 c6 c7 c8
  go_wp2_with fail
  refine (cE.out _ BB.out _ _ HU.out HW.out).mono ?_
  rintro x w3 ⟨u, rfl, ho⟩
  replace LB := hide' (bt' LB.out ho.2)
  replace BB := hide' (bt' BB.out ho.2)
  have U3 := hide' (holdsB_own ho)
  obtain ⟨ua, uc, eu, _⟩ := holdsB_parts (holdsB_own ho)
  subst eu
  clear ho cE HU HW
  by_cases hoe : oe = 0
  · subst hoe
    have DE := hide' (OD.out (by first | trivial | rfl))
    have LE := hide' (OL.out (by first | trivial | rfl))
    clear OT OD OL
    go_wp2_with fail
    refine (copyB _ ol _ U3.out (by have := LE.out; omega)).mono ?_
    rintro x w4 ⟨v4, rfl, ho4⟩
    replace LB := hide' (bt' LB.out ho4.2)
    replace BB := hide' (bt' BB.out ho4.2)
    have H4 := hide' (holdsB_own ho4)
    clear ho4 U3
    have cD := hide' (decOC v4 ol w4 H4.out (by have := LE.out; omega) (env_below EE.out BB.out) (tab_below TT.out BB.out))
    rw [DE.out] at cD
    go_wp2_with fail
    refine cD.out.mono ?_
    rintro x w5 ⟨lx, bx, rfl, hfx, hbx⟩
    dsimp only at hfx hbx ⊢
    replace LB := hide' (bt' LB.out hfx.2)
    replace BB := hide' (bt' BB.out hfx.2)
    have HFX := hide' (holdsF_own hfx)
    have HBX := hide' (holdsB_own hbx)
    obtain ⟨xa, xc, _, _, e5, _⟩ := holdsF_parts (holdsF_own hfx)
    obtain ⟨ya, yc, e6, _⟩ := holdsB_parts (holdsB_own hbx)
    subst e5 e6
    clear hfx hbx cD H4
    have bf := below_alloc' w5 (.cells #[.string ⟨e.key.toArray⟩, .string ⟨e.vary.toArray⟩, .int .i64 e.r.s, .string ⟨e.r.r.toArray⟩, .int .i64 e.r.k, .slice xa e.r.fs.length xc, .slice ya e.body.length yc, .int .i64 e.a, .int .i64 e.g] 29)
    have cS := hide' (sameEB HN.out (.slice xa e.r.fs.length xc) (.slice la e.r.fs.length lc) (.slice ya e.body.length yc) (.slice ba e.body.length bc) _ (holdsF_mono HFX.out bf) (holdsF_mono HF.out (bt' BB.out bf)) (holdsB_mono HBX.out bf) (holdsB_mono HB.out (bt' BB.out bf)))
    replace LB := hide' (bt' LB.out bf)
    replace BB := hide' (bt' BB.out bf)
    have FC := hide' (cells_lit w5 #[.string ⟨e.key.toArray⟩, .string ⟨e.vary.toArray⟩, .int .i64 e.r.s, .string ⟨e.r.r.toArray⟩, .int .i64 e.r.k, .slice xa e.r.fs.length xc, .slice ya e.body.length yc, .int .i64 e.a, .int .i64 e.g] 29)
    clear bf HFX HBX
    unfold entV at cS ⊢
    obtain ⟨⟨d0, d1, d2, d3, d4, d5, d6, d7, d8⟩, -⟩ := cells_nine FC.out
    obtain ⟨⟨c0, c1, c2, c3, c4, c5, c6, c7, c8⟩, -⟩ := cells_nine (CC.out _ LB.out)
    go_wp2_with fail
    refine cS.out.mono ?_
    rintro x w6 ⟨rfl, b6⟩
    replace BB := hide' (bt' BB.out b6)
    clear b6 cS d0 d1 d2 d3 d4 d5 d6 d7 d8 c0 c1 c2 c3 c4 c5 c6 c7 c8 FC LB
    go_wp2_with fail
    refine (copyB _ bs _ (holdsB_mono HV.out BB.out) (by have := LV.out; omega)).mono ?_
    rintro x w8 ⟨v8, rfl, ho8⟩
    replace BB := hide' (bt' BB.out ho8.2)
    have H8 := hide' (holdsB_own ho8)
    clear ho8
    go_wp2_with fail
    refine (decOC v8 bs w8 H8.out (by have := LV.out; omega) (env_below EE.out BB.out) (tab_below TT.out BB.out)).mono ?_
    rintro x w9 ⟨lx, bx, rfl, hfx, hbx⟩
    replace BB := hide' (bt' BB.out hfx.2)
    have HFX := hide' (holdsF_own hfx)
    have HBX := hide' (holdsB_own hbx)
    obtain ⟨xa, xc, _, _, e5, _⟩ := holdsF_parts (holdsF_own hfx)
    obtain ⟨ya, yc, e6, _⟩ := holdsB_parts (holdsB_own hbx)
    subst e5 e6
    clear hfx hbx H8
    rcases dec_two bs with hd | hd
    · have hob := dec_ok' hd
      have BF := bnd_obj hob
      have hde : decO bs = ((decO bs).1, 0) := Prod.ext rfl hd
      rw [hde]
      have HOB := hide' hob
      have BX := hide' BF
      clear hd hde hob BF
      generalize (decO bs).1 = f at *
      have bf := below_alloc' w9 (.cells #[.string ⟨f.key.toArray⟩, .string ⟨f.vary.toArray⟩, .int .i64 f.r.s, .string ⟨f.r.r.toArray⟩, .int .i64 f.r.k, .slice xa f.r.fs.length xc, .slice ya f.body.length yc, .int .i64 f.a, .int .i64 f.g] 29)
      have cF := hide' (encB BX.out _ _ _ (holdsF_mono HFX.out bf) (holdsB_mono HBX.out bf) (tab_below TT.out (bt' BB.out bf)))
      rw [HOB.out] at cF
      replace BB := hide' (bt' BB.out bf)
      have FC := hide' (cells_lit w9 #[.string ⟨f.key.toArray⟩, .string ⟨f.vary.toArray⟩, .int .i64 f.r.s, .string ⟨f.r.r.toArray⟩, .int .i64 f.r.k, .slice xa f.r.fs.length xc, .slice ya f.body.length yc, .int .i64 f.a, .int .i64 f.g] 29)
      clear bf
      unfold entV at cF ⊢
      obtain ⟨⟨d0, d1, d2, d3, d4, d5, d6, d7, d8⟩, -⟩ := cells_nine FC.out
      go_wp2_with fail
      refine cF.out.mono ?_
      rintro x wa ⟨va, rfl, hoa⟩
      have S3 := hide' (sameBe va _ bs wa (holdsB_own hoa) (holdsB_mono HV.out (bt' BB.out hoa.2)) (by have := LV.out; omega))
      replace BB := hide' (bt' BB.out hoa.2)
      clear hoa cF d0 d1 d2 d3 d4 d5 d6 d7 d8
      go_wp2_with fail
      refine S3.out.mono ?_
      rintro x wb ⟨rfl, bb⟩
      replace BB := hide' (bt' BB.out bb)
      clear bb
      go_wp2_with fail
      go_ret
      exact ⟨rfl, BB.out⟩
    · rw [hd] at HFX HBX ⊢
      clear hd
      have bf := below_alloc' w9 (.cells #[.string ⟨#[]⟩, .string ⟨#[]⟩, .int .i64 0, .string ⟨#[]⟩, .int .i64 0, .slice xa 0 xc, .slice ya 0 yc, .int .i64 0, .int .i64 0] 29)
      have FC := hide' (cells_lit w9 #[.string ⟨#[]⟩, .string ⟨#[]⟩, .int .i64 0, .string ⟨#[]⟩, .int .i64 0, .slice xa 0 xc, .slice ya 0 yc, .int .i64 0, .int .i64 0] 29)
      replace BB := hide' (bt' BB.out bf)
      clear bf
      show _
      obtain ⟨⟨d0, d1, d2, d3, d4, d5, d6, d7, d8⟩, -⟩ := cells_nine FC.out
      unfold entV En.zero Rs.zero
      dsimp only [List.length_nil]
      go_wp2_with fail
      go_ret
      exact ⟨rfl, BB.out⟩
  · have ho2 : (ol, oe) = ([], 120) := by
      rcases OT.out with h | h
      · exact absurd h hoe
      · exact h
    obtain ⟨rfl, rfl⟩ := Prod.mk.inj ho2
    clear ho2 hoe OT OD OL LB
    dsimp only [List.length_nil]
    go_wp2_with fail
    refine (copyB _ bs _ (holdsB_mono HV.out BB.out) (by have := LV.out; omega)).mono ?_
    rintro x w8 ⟨v8, rfl, ho8⟩
    replace BB := hide' (bt' BB.out ho8.2)
    have H8 := hide' (holdsB_own ho8)
    clear ho8
    go_wp2_with fail
    refine (decOC v8 bs w8 H8.out (by have := LV.out; omega) (env_below EE.out BB.out) (tab_below TT.out BB.out)).mono ?_
    rintro x w9 ⟨lx, bx, rfl, hfx, hbx⟩
    replace BB := hide' (bt' BB.out hfx.2)
    have HFX := hide' (holdsF_own hfx)
    have HBX := hide' (holdsB_own hbx)
    obtain ⟨xa, xc, _, _, e5, _⟩ := holdsF_parts (holdsF_own hfx)
    obtain ⟨ya, yc, e6, _⟩ := holdsB_parts (holdsB_own hbx)
    subst e5 e6
    clear hfx hbx H8
    rcases dec_two bs with hd | hd
    · have hob := dec_ok' hd
      have BF := bnd_obj hob
      have hde : decO bs = ((decO bs).1, 0) := Prod.ext rfl hd
      rw [hde]
      have HOB := hide' hob
      have BX := hide' BF
      clear hd hde hob BF
      generalize (decO bs).1 = f at *
      have bf := below_alloc' w9 (.cells #[.string ⟨f.key.toArray⟩, .string ⟨f.vary.toArray⟩, .int .i64 f.r.s, .string ⟨f.r.r.toArray⟩, .int .i64 f.r.k, .slice xa f.r.fs.length xc, .slice ya f.body.length yc, .int .i64 f.a, .int .i64 f.g] 29)
      have cF := hide' (encB BX.out _ _ _ (holdsF_mono HFX.out bf) (holdsB_mono HBX.out bf) (tab_below TT.out (bt' BB.out bf)))
      rw [HOB.out] at cF
      replace BB := hide' (bt' BB.out bf)
      have FC := hide' (cells_lit w9 #[.string ⟨f.key.toArray⟩, .string ⟨f.vary.toArray⟩, .int .i64 f.r.s, .string ⟨f.r.r.toArray⟩, .int .i64 f.r.k, .slice xa f.r.fs.length xc, .slice ya f.body.length yc, .int .i64 f.a, .int .i64 f.g] 29)
      clear bf
      unfold entV at cF ⊢
      obtain ⟨⟨d0, d1, d2, d3, d4, d5, d6, d7, d8⟩, -⟩ := cells_nine FC.out
      go_wp2_with fail
      refine cF.out.mono ?_
      rintro x wa ⟨va, rfl, hoa⟩
      have S3 := hide' (sameBe va _ bs wa (holdsB_own hoa) (holdsB_mono HV.out (bt' BB.out hoa.2)) (by have := LV.out; omega))
      replace BB := hide' (bt' BB.out hoa.2)
      clear hoa cF d0 d1 d2 d3 d4 d5 d6 d7 d8
      go_wp2_with fail
      refine S3.out.mono ?_
      rintro x wb ⟨rfl, bb⟩
      replace BB := hide' (bt' BB.out bb)
      clear bb
      go_wp2_with fail
      go_ret
      exact ⟨rfl, BB.out⟩
    · rw [hd] at HFX HBX ⊢
      clear hd
      have bf := below_alloc' w9 (.cells #[.string ⟨#[]⟩, .string ⟨#[]⟩, .int .i64 0, .string ⟨#[]⟩, .int .i64 0, .slice xa 0 xc, .slice ya 0 yc, .int .i64 0, .int .i64 0] 29)
      have FC := hide' (cells_lit w9 #[.string ⟨#[]⟩, .string ⟨#[]⟩, .int .i64 0, .string ⟨#[]⟩, .int .i64 0, .slice xa 0 xc, .slice ya 0 yc, .int .i64 0, .int .i64 0] 29)
      replace BB := hide' (bt' BB.out bf)
      clear bf
      show _
      obtain ⟨⟨d0, d1, d2, d3, d4, d5, d6, d7, d8⟩, -⟩ := cells_nine FC.out
      unfold entV En.zero Rs.zero
      dsimp only [List.length_nil]
      go_wp2_with fail
      go_ret
      exact ⟨rfl, BB.out⟩
end Go.Proofs.YtnlehfondhegbaaGreatDoor
