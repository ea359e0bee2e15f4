/- The walk of ObjectMemory. -/
import Derived.Test.YtnlehfondhegbaaGreatDoorObN
import Derived.Test.YtnlehfondhegbaaGreatDoorObH
import Derived.Test.YtnlehfondhegbaaGreatDoorFdAf
import Derived.Test.YtnlehfondhegbaaGreatDoorBj
namespace Go.Proofs.YtnlehfondhegbaaGreatDoor
open Go.RowKit
theorem blk_far {b : Nat} {W W' : World} {S : Nat → Prop} {vs : List Value} (h : Blk b W vs) (hf : Far S W W') (hn : ¬ S b) : Blk b W' vs :=
  ⟨fun i hi => ⟨by rw [World.cell?_of_block (a := ⟨b, i, none⟩) (hf.2.2.2.2 b h.2 hn)]; exact (h.1 i hi).1, by rw [World.frozen?_of_block (a := ⟨b, i, none⟩) (hf.2.2.2.2 b h.2 hn)]; exact (h.1 i hi).2⟩, Nat.lt_of_lt_of_le h.2 hf.2.2.2.1⟩
theorem sz_alloc (x : World) (o : Obj) : (x.alloc o).heap.size = x.heap.size + 1 := by simp
set_option maxRecDepth 20000 in
set_option maxHeartbeats 16000000 in
theorem memoryOW (e : En) (lv bv : Value) (w : World) (hF : HoldsF w lv e.r.fs) (hB : HoldsB w bv e.body) (BE : Bnd e) (E : Env w) (T : Tab w) :
    Calls Tryz.prog 6 #[entV e lv bv] w fun x w' => x = .returned (.bool true) ∧ Below w.heap.size w w' := by
  obtain ⟨la, lc, _, _, e1, _⟩ := holdsF_parts hF
  obtain ⟨ba, bc, e2, _⟩ := holdsB_parts hB
  subst e1 e2
  have b0 := below_alloc' w (.cells #[.string ⟨e.key.toArray⟩, .string ⟨e.vary.toArray⟩, .int .i64 e.r.s, .string ⟨e.r.r.toArray⟩, .int .i64 e.r.k, .slice la e.r.fs.length lc, .slice ba e.body.length bc, .int .i64 e.a, .int .i64 e.g] 29)
  have q0 := cells_lit w #[.string ⟨e.key.toArray⟩, .string ⟨e.vary.toArray⟩, .int .i64 e.r.s, .string ⟨e.r.r.toArray⟩, .int .i64 e.r.k, .slice la e.r.fs.length lc, .slice ba e.body.length bc, .int .i64 e.a, .int .i64 e.g] 29
  obtain ⟨W0, hW0⟩ : ∃ W0, W0 = w.alloc (.cells #[.string ⟨e.key.toArray⟩, .string ⟨e.vary.toArray⟩, .int .i64 e.r.s, .string ⟨e.r.r.toArray⟩, .int .i64 e.r.k, .slice la e.r.fs.length lc, .slice ba e.body.length bc, .int .i64 e.a, .int .i64 e.g] 29) := ⟨_, rfl⟩
  have HW0 := hide' hW0
  rw [← hW0] at b0 q0
  obtain ⟨q, hq⟩ : ∃ q, q = w.heap.size := ⟨_, rfl⟩
  have HQ := hide' hq
  rw [← hq] at q0
  have BB := hide' b0
  have CC : Hid (∀ W, Below W0.heap.size W0 W → Blk q W [.string ⟨e.key.toArray⟩, .string ⟨e.vary.toArray⟩, .int .i64 e.r.s, .string ⟨e.r.r.toArray⟩, .int .i64 e.r.k, .slice la e.r.fs.length lc, .slice ba e.body.length bc, .int .i64 e.a, .int .i64 e.g]) := fun W hb => cells_below q0 hb
  have HF := hide' hF
  have HB := hide' hB
  have EE := hide' E
  have TT := hide' T
  have HN := hide' BE
  have cA := hide' (aliveOC W0 (tab_below T b0))
  have cC := hide' (fun W (hb : Below w.heap.size w W) => copyEB BE _ _ W (holdsF_mono hF hb) (holdsB_mono hB hb))
  have cE := hide' (fun W (hb : Below w.heap.size w W) lu bu (h1 : HoldsF W lu e.r.fs) (h2 : HoldsB W bu e.body) => encB BE lu bu W h1 h2 (tab_below T hb))
  unfold entV at cC cE ⊢
  have cR := hide' (fun W (hb : Below w.heap.size w W) => encORC e _ _ W (holdsF_mono hF hb) (holdsB_mono hB hb) BE.fit BE.n BE.p BE.r BE.k BE.v BE.b)
  have OS : Hid ((objOf e).1.length ≤ 81968) := by
    unfold Hid
    rcases obj_two e with h | h
    · exact (obj_len (e := e) (w := (objOf e).1) (Prod.ext rfl h)).2
    · rw [h]; decide
  have OD : Hid ((objOf e).2 = 0 → decO (objOf e).1 = (e, 0) ∧ e.r.fs.length ≤ 100 ∧ e.body.length ≤ 65536) := fun h => ⟨dec_obj (Prod.ext rfl h), (obj_sizes (e := e) (l := (objOf e).1) (Prod.ext rfl h)).1, (obj_sizes (e := e) (l := (objOf e).1) (Prod.ext rfl h)).2.2.2.2.2⟩
  unfold entV at cR
  have S0 : Hid (w.heap.size + 1 = W0.heap.size ∧ q = w.heap.size) := by
    refine ⟨?_, hq⟩
    rw [hW0]; simp
  clear hW0 hq b0 q0 hF hB E T BE
  generalize objOf e = OE at *
  obtain ⟨ol, oe⟩ := OE
  dsimp only at *
  have LB : Hid (Below W0.heap.size W0 W0) := Below.refl _ _
  go_enter Tryz.func6, Tryz.ntmps6
  go_wp2_with fail
  rw [← HW0.out, ← HQ.out]
  refine cA.out.mono ?_
  rintro x w1 ⟨rfl, b1⟩
  have s1 := hide' b1.size
  replace BB := hide' (bt' BB.out b1)
  replace LB := hide' (bt' LB.out b1)
  clear b1 cA
  obtain ⟨⟨c0, c1, c2, c3, c4, c5, c6, c7, c8⟩, -⟩ := cells_nine (CC.out w1 LB.out)
  go_wp2_with fail
  refine (cC.out _ BB.out).mono ?_
  rintro x w2 ⟨lu, bu, rfl, hfu, hbu⟩
  have s2 := hide' hfu.2.size
  obtain ⟨oa, oc, _, _, e5, _⟩ := holdsF_parts (holdsF_own hfu)
  obtain ⟨pa, pc, e6, _⟩ := holdsB_parts (holdsB_own hbu)
  subst e5 e6
  replace BB := hide' (bt' BB.out hfu.2)
  replace LB := hide' (bt' LB.out hfu.2)
  have RO := hide' hbu
  have HO := hide' (holdsF_own hfu)
  have bo := hide' hbu.1.lt
  clear hfu hbu cC c0 c1 c2 c3 c4 c5 c6 c7 c8
  have bf := below_alloc' w2 (.cells #[.string ⟨e.key.toArray⟩, .string ⟨e.vary.toArray⟩, .int .i64 e.r.s, .string ⟨e.r.r.toArray⟩, .int .i64 e.r.k, .slice oa e.r.fs.length oc, .slice pa e.body.length pc, .int .i64 e.a, .int .i64 e.g] 29)
  have z3 := sz_alloc w2 (.cells #[.string ⟨e.key.toArray⟩, .string ⟨e.vary.toArray⟩, .int .i64 e.r.s, .string ⟨e.r.r.toArray⟩, .int .i64 e.r.k, .slice oa e.r.fs.length oc, .slice pa e.body.length pc, .int .i64 e.a, .int .i64 e.g] 29)
  have P1 : Hid (Blk w2.heap.size (w2.alloc (.cells #[.string ⟨e.key.toArray⟩, .string ⟨e.vary.toArray⟩, .int .i64 e.r.s, .string ⟨e.r.r.toArray⟩, .int .i64 e.r.k, .slice oa e.r.fs.length oc, .slice pa e.body.length pc, .int .i64 e.a, .int .i64 e.g] 29)) [.string ⟨e.key.toArray⟩, .string ⟨e.vary.toArray⟩, .int .i64 e.r.s, .string ⟨e.r.r.toArray⟩, .int .i64 e.r.k, .slice oa e.r.fs.length oc, .slice pa e.body.length pc, .int .i64 e.a, .int .i64 e.g]) := cells_lit w2 #[.string ⟨e.key.toArray⟩, .string ⟨e.vary.toArray⟩, .int .i64 e.r.s, .string ⟨e.r.r.toArray⟩, .int .i64 e.r.k, .slice oa e.r.fs.length oc, .slice pa e.body.length pc, .int .i64 e.a, .int .i64 e.g] 29
  replace BB := hide' (bt' BB.out bf)
  replace LB := hide' (bt' LB.out bf)
  replace RO := hide' (own_mono RO.out bf)
  replace HO := hide' (holdsF_mono HO.out bf)
  obtain ⟨⟨d0, d1, d2, d3, d4, d5, d6, d7, d8⟩, -⟩ := cells_nine P1.out
  clear bf
  go_wp2_with fail
  clear d0 d1 d2 d3 d4 d5 d6 d7 d8
  generalize hw3 : w2.alloc (.cells #[.string ⟨e.key.toArray⟩, .string ⟨e.vary.toArray⟩, .int .i64 e.r.s, .string ⟨e.r.r.toArray⟩, .int .i64 e.r.k, .slice oa e.r.fs.length oc, .slice pa e.body.length pc, .int .i64 e.a, .int .i64 e.g] 29) = w3 at *
  have s3 := hide' z3
  clear hw3 z3
  refine (cE.out _ BB.out _ _ HO.out (holdsB_own RO.out)).mono ?_
  rintro x w4 ⟨va, rfl, ho⟩
  have s4 := hide' ho.2.size
  obtain ⟨aa, ac, eu, _⟩ := holdsB_parts (holdsB_own ho)
  subst eu
  replace BB := hide' (bt' BB.out ho.2)
  replace LB := hide' (bt' LB.out ho.2)
  replace RO := hide' (own_mono RO.out ho.2)
  replace HO := hide' (holdsF_mono HO.out ho.2)
  replace P1 := hide' (cells_below P1.out ho.2)
  have RA := hide' ho
  have bandA := hide' ho.1.lt
  clear ho
  obtain ⟨⟨d0, d1, d2, d3, d4, d5, d6, d7, d8⟩, -⟩ := cells_nine (show Blk w2.heap.size w4 [.string ⟨e.key.toArray⟩, .string ⟨e.vary.toArray⟩, .int .i64 e.r.s, .string ⟨e.r.r.toArray⟩, .int .i64 e.r.k, .slice oa e.r.fs.length oc, .slice pa e.body.length pc, .int .i64 e.a, .int .i64 e.g] from P1.out)
  go_wp2_with fail
  clear d0 d1 d2 d3 d4 d5 d6 d7 d8
  refine (cE.out _ BB.out _ _ HO.out (holdsB_own RO.out)).mono ?_
  rintro x w5 ⟨vb, rfl, ho⟩
  have s5 := hide' ho.2.size
  obtain ⟨bA, bC, eu, _⟩ := holdsB_parts (holdsB_own ho)
  subst eu
  replace BB := hide' (bt' BB.out ho.2)
  replace LB := hide' (bt' LB.out ho.2)
  replace RO := hide' (own_mono RO.out ho.2)
  replace HO := hide' (holdsF_mono HO.out ho.2)
  replace P1 := hide' (cells_below P1.out ho.2)
  replace RA := hide' (own_mono RA.out ho.2)
  have RB := hide' ho
  have bandB := hide' ho.1.lt
  clear ho cE
  obtain ⟨⟨c0, c1, c2, c3, c4, c5, c6, c7, c8⟩, -⟩ := cells_nine (CC.out w5 LB.out)
  go_wp2_with fail
  clear c0 c1 c2 c3 c4 c5 c6 c7 c8
  refine (cR.out _ BB.out).mono ?_
  rintro x w6 ⟨vw, rfl, ho⟩
  have s6 := hide' ho.2.size
  obtain ⟨wa, wc, eu, _⟩ := holdsB_parts (holdsB_own ho)
  subst eu
  replace BB := hide' (bt' BB.out ho.2)
  replace LB := hide' (bt' LB.out ho.2)
  replace RO := hide' (own_mono RO.out ho.2)
  replace HO := hide' (holdsF_mono HO.out ho.2)
  replace P1 := hide' (cells_below P1.out ho.2)
  replace RA := hide' (own_mono RA.out ho.2)
  replace RB := hide' (own_mono RB.out ho.2)
  have HW := hide' (holdsB_own ho)
  clear ho cR
  go_wp2_with fail
  refine (sameBe _ _ ol _ (holdsB_own RA.out) HW.out (by have := OS.out; omega)).mono ?_
  rintro x w7 ⟨rfl, b7⟩
  have s7 := hide' b7.size
  replace BB := hide' (bt' BB.out b7)
  replace LB := hide' (bt' LB.out b7)
  replace RO := hide' (own_mono RO.out b7)
  replace HO := hide' (holdsF_mono HO.out b7)
  replace P1 := hide' (cells_below P1.out b7)
  replace RA := hide' (own_mono RA.out b7)
  replace RB := hide' (own_mono RB.out b7)
  replace HW := hide' (holdsB_mono HW.out b7)
  clear b7
  go_wp2_with fail
  refine (sameBe _ _ ol _ (holdsB_own RB.out) HW.out (by have := OS.out; omega)).mono ?_
  rintro x w8 ⟨rfl, b8⟩
  have s8 := hide' b8.size
  replace BB := hide' (bt' BB.out b8)
  replace LB := hide' (bt' LB.out b8)
  replace RO := hide' (own_mono RO.out b8)
  replace HO := hide' (holdsF_mono HO.out b8)
  replace P1 := hide' (cells_below P1.out b8)
  replace RA := hide' (own_mono RA.out b8)
  replace RB := hide' (own_mono RB.out b8)
  replace HW := hide' (holdsB_mono HW.out b8)
  clear b8 HW
  by_cases hoe : ¬ oe = 0
  · have d1 : (oe != 0) = true := by simpa using hoe
    clear hoe
    go_wp2_with fail
    go_ret
    exact ⟨rfl, BB.out⟩
  have hoe' : oe = 0 := by simpa using hoe
  subst hoe'
  clear hoe
  replace OD := hide' (OD.out (by first | trivial | rfl))
  have cD := hide' (decOC _ ol _ (holdsB_own RA.out) (by have := OS.out; omega) (env_below EE.out BB.out) (tab_below TT.out BB.out))
  rw [OD.out.1] at cD
  go_wp2_with fail
  refine cD.out.mono ?_
  rintro x w9 ⟨lx, bx, rfl, hfx, hbx⟩
  dsimp only at hfx hbx
  have s9 := hide' hfx.2.size
  obtain ⟨xa, xc, _, _, e5, _⟩ := holdsF_parts (holdsF_own hfx)
  obtain ⟨ya, yc, e6, _⟩ := holdsB_parts (holdsB_own hbx)
  subst e5 e6
  replace BB := hide' (bt' BB.out hfx.2)
  replace LB := hide' (bt' LB.out hfx.2)
  replace RO := hide' (own_mono RO.out hfx.2)
  replace HO := hide' (holdsF_mono HO.out hfx.2)
  replace P1 := hide' (cells_below P1.out hfx.2)
  replace RA := hide' (own_mono RA.out hfx.2)
  replace RB := hide' (own_mono RB.out hfx.2)
  have RX := hide' hbx
  have FX := hide' hfx
  have bandX := hide' hbx.1.lt
  have bandFX := hide' hfx.1.lt
  clear hfx hbx cD
  have bf := below_alloc' w9 (.cells #[.string ⟨e.key.toArray⟩, .string ⟨e.vary.toArray⟩, .int .i64 e.r.s, .string ⟨e.r.r.toArray⟩, .int .i64 e.r.k, .slice xa e.r.fs.length xc, .slice ya e.body.length yc, .int .i64 e.a, .int .i64 e.g] 29)
  have zz := sz_alloc w9 (.cells #[.string ⟨e.key.toArray⟩, .string ⟨e.vary.toArray⟩, .int .i64 e.r.s, .string ⟨e.r.r.toArray⟩, .int .i64 e.r.k, .slice xa e.r.fs.length xc, .slice ya e.body.length yc, .int .i64 e.a, .int .i64 e.g] 29)
  have P2 : Hid (Blk w9.heap.size (w9.alloc (.cells #[.string ⟨e.key.toArray⟩, .string ⟨e.vary.toArray⟩, .int .i64 e.r.s, .string ⟨e.r.r.toArray⟩, .int .i64 e.r.k, .slice xa e.r.fs.length xc, .slice ya e.body.length yc, .int .i64 e.a, .int .i64 e.g] 29)) [.string ⟨e.key.toArray⟩, .string ⟨e.vary.toArray⟩, .int .i64 e.r.s, .string ⟨e.r.r.toArray⟩, .int .i64 e.r.k, .slice xa e.r.fs.length xc, .slice ya e.body.length yc, .int .i64 e.a, .int .i64 e.g]) := cells_lit w9 #[.string ⟨e.key.toArray⟩, .string ⟨e.vary.toArray⟩, .int .i64 e.r.s, .string ⟨e.r.r.toArray⟩, .int .i64 e.r.k, .slice xa e.r.fs.length xc, .slice ya e.body.length yc, .int .i64 e.a, .int .i64 e.g] 29
  replace BB := hide' (bt' BB.out bf)
  replace LB := hide' (bt' LB.out bf)
  replace RO := hide' (own_mono RO.out bf)
  replace HO := hide' (holdsF_mono HO.out bf)
  replace P1 := hide' (cells_below P1.out bf)
  replace RA := hide' (own_mono RA.out bf)
  replace RB := hide' (own_mono RB.out bf)
  replace RX := hide' (own_mono RX.out bf)
  replace FX := hide' (ownF_mono FX.out bf)
  clear bf
  unfold entV
  obtain ⟨w10, hw10⟩ : ∃ w10, w10 = w9.alloc (.cells #[.string ⟨e.key.toArray⟩, .string ⟨e.vary.toArray⟩, .int .i64 e.r.s, .string ⟨e.r.r.toArray⟩, .int .i64 e.r.k, .slice xa e.r.fs.length xc, .slice ya e.body.length yc, .int .i64 e.a, .int .i64 e.g] 29) := ⟨_, rfl⟩
  have HW10 := hide' hw10
  rw [← hw10] at BB LB RO HO P1 RA RB RX FX zz P2
  have s10 := hide' zz
  clear hw10 zz
  have cD := hide' (decOC _ ol _ (holdsB_own RA.out) (by have := OS.out; omega) (env_below EE.out BB.out) (tab_below TT.out BB.out))
  rw [OD.out.1] at cD
  go_wp2_with fail
  rw [← HW10.out]
  refine cD.out.mono ?_
  rintro x w11 ⟨lx, bx, rfl, hfx, hbx⟩
  dsimp only at hfx hbx
  have s11 := hide' hfx.2.size
  obtain ⟨ra, rc, _, _, e5, _⟩ := holdsF_parts (holdsF_own hfx)
  obtain ⟨ta, tc, e6, _⟩ := holdsB_parts (holdsB_own hbx)
  subst e5 e6
  replace BB := hide' (bt' BB.out hfx.2)
  replace LB := hide' (bt' LB.out hfx.2)
  replace RO := hide' (own_mono RO.out hfx.2)
  replace HO := hide' (holdsF_mono HO.out hfx.2)
  replace P1 := hide' (cells_below P1.out hfx.2)
  replace RA := hide' (own_mono RA.out hfx.2)
  replace RB := hide' (own_mono RB.out hfx.2)
  replace RX := hide' (own_mono RX.out hfx.2)
  replace FX := hide' (ownF_mono FX.out hfx.2)
  replace P2 := hide' (cells_below P2.out hfx.2)
  have RY := hide' hbx
  have FY := hide' hfx
  have bandY := hide' hbx.1.lt
  have bandFY := hide' hfx.1.lt
  clear hfx hbx cD
  have bf := below_alloc' w11 (.cells #[.string ⟨e.key.toArray⟩, .string ⟨e.vary.toArray⟩, .int .i64 e.r.s, .string ⟨e.r.r.toArray⟩, .int .i64 e.r.k, .slice ra e.r.fs.length rc, .slice ta e.body.length tc, .int .i64 e.a, .int .i64 e.g] 29)
  have zz := sz_alloc w11 (.cells #[.string ⟨e.key.toArray⟩, .string ⟨e.vary.toArray⟩, .int .i64 e.r.s, .string ⟨e.r.r.toArray⟩, .int .i64 e.r.k, .slice ra e.r.fs.length rc, .slice ta e.body.length tc, .int .i64 e.a, .int .i64 e.g] 29)
  have P3 : Hid (Blk w11.heap.size (w11.alloc (.cells #[.string ⟨e.key.toArray⟩, .string ⟨e.vary.toArray⟩, .int .i64 e.r.s, .string ⟨e.r.r.toArray⟩, .int .i64 e.r.k, .slice ra e.r.fs.length rc, .slice ta e.body.length tc, .int .i64 e.a, .int .i64 e.g] 29)) [.string ⟨e.key.toArray⟩, .string ⟨e.vary.toArray⟩, .int .i64 e.r.s, .string ⟨e.r.r.toArray⟩, .int .i64 e.r.k, .slice ra e.r.fs.length rc, .slice ta e.body.length tc, .int .i64 e.a, .int .i64 e.g]) := cells_lit w11 #[.string ⟨e.key.toArray⟩, .string ⟨e.vary.toArray⟩, .int .i64 e.r.s, .string ⟨e.r.r.toArray⟩, .int .i64 e.r.k, .slice ra e.r.fs.length rc, .slice ta e.body.length tc, .int .i64 e.a, .int .i64 e.g] 29
  replace BB := hide' (bt' BB.out bf)
  replace LB := hide' (bt' LB.out bf)
  replace RO := hide' (own_mono RO.out bf)
  replace HO := hide' (holdsF_mono HO.out bf)
  replace P1 := hide' (cells_below P1.out bf)
  replace RA := hide' (own_mono RA.out bf)
  replace RB := hide' (own_mono RB.out bf)
  replace RX := hide' (own_mono RX.out bf)
  replace FX := hide' (ownF_mono FX.out bf)
  replace P2 := hide' (cells_below P2.out bf)
  replace RY := hide' (own_mono RY.out bf)
  replace FY := hide' (ownF_mono FY.out bf)
  clear bf
  unfold entV
  have cS := hide' (sameEB HN.out (.slice xa e.r.fs.length xc) (.slice la e.r.fs.length lc) (.slice ya e.body.length yc) (.slice ba e.body.length bc) _ (holdsF_own FX.out) (holdsF_mono HF.out BB.out) (holdsB_own RX.out) (holdsB_mono HB.out BB.out))
  unfold entV at cS
  obtain ⟨w12, hw12⟩ : ∃ w12, w12 = w11.alloc (.cells #[.string ⟨e.key.toArray⟩, .string ⟨e.vary.toArray⟩, .int .i64 e.r.s, .string ⟨e.r.r.toArray⟩, .int .i64 e.r.k, .slice ra e.r.fs.length rc, .slice ta e.body.length tc, .int .i64 e.a, .int .i64 e.g] 29) := ⟨_, rfl⟩
  have HW12 := hide' hw12
  rw [← hw12] at BB LB RO HO P1 RA RB RX FX P2 RY FY zz P3 cS
  have s12 := hide' zz
  clear hw12 zz
  obtain ⟨⟨c0, c1, c2, c3, c4, c5, c6, c7, c8⟩, -⟩ := cells_nine (CC.out w12 LB.out)
  obtain ⟨⟨d0, d1, d2, d3, d4, d5, d6, d7, d8⟩, -⟩ := cells_nine (show Blk w9.heap.size w12 [.string ⟨e.key.toArray⟩, .string ⟨e.vary.toArray⟩, .int .i64 e.r.s, .string ⟨e.r.r.toArray⟩, .int .i64 e.r.k, .slice xa e.r.fs.length xc, .slice ya e.body.length yc, .int .i64 e.a, .int .i64 e.g] from P2.out)
  rw [HW12.out] at c0 c1 c2 c3 c4 c5 c6 c7 c8 d0 d1 d2 d3 d4 d5 d6 d7 d8
  go_wp2_with fail
  clear c0 c1 c2 c3 c4 c5 c6 c7 c8 d0 d1 d2 d3 d4 d5 d6 d7 d8
  rw [← HW12.out]
  refine cS.out.mono ?_
  rintro x w13 ⟨rfl, b13⟩
  have s13 := hide' b13.size
  replace BB := hide' (bt' BB.out b13)
  replace LB := hide' (bt' LB.out b13)
  replace RO := hide' (own_mono RO.out b13)
  replace HO := hide' (holdsF_mono HO.out b13)
  replace P1 := hide' (cells_below P1.out b13)
  replace RA := hide' (own_mono RA.out b13)
  replace RB := hide' (own_mono RB.out b13)
  replace RX := hide' (own_mono RX.out b13)
  replace FX := hide' (ownF_mono FX.out b13)
  replace P2 := hide' (cells_below P2.out b13)
  replace RY := hide' (own_mono RY.out b13)
  replace FY := hide' (ownF_mono FY.out b13)
  replace P3 := hide' (cells_below P3.out b13)
  clear b13 cS
  have cS := hide' (sameEB HN.out (.slice ra e.r.fs.length rc) (.slice la e.r.fs.length lc) (.slice ta e.body.length tc) (.slice ba e.body.length bc) _ (holdsF_own FY.out) (holdsF_mono HF.out BB.out) (holdsB_own RY.out) (holdsB_mono HB.out BB.out))
  unfold entV at cS
  obtain ⟨⟨c0, c1, c2, c3, c4, c5, c6, c7, c8⟩, -⟩ := cells_nine (CC.out w13 LB.out)
  obtain ⟨⟨d0, d1, d2, d3, d4, d5, d6, d7, d8⟩, -⟩ := cells_nine (show Blk w11.heap.size w13 [.string ⟨e.key.toArray⟩, .string ⟨e.vary.toArray⟩, .int .i64 e.r.s, .string ⟨e.r.r.toArray⟩, .int .i64 e.r.k, .slice ra e.r.fs.length rc, .slice ta e.body.length tc, .int .i64 e.a, .int .i64 e.g] from P3.out)
  go_wp2_with fail
  clear c0 c1 c2 c3 c4 c5 c6 c7 c8 d0 d1 d2 d3 d4 d5 d6 d7 d8
  refine cS.out.mono ?_
  rintro x w14 ⟨rfl, b14⟩
  have s14 := hide' b14.size
  replace BB := hide' (bt' BB.out b14)
  replace LB := hide' (bt' LB.out b14)
  replace RO := hide' (own_mono RO.out b14)
  replace HO := hide' (holdsF_mono HO.out b14)
  replace P1 := hide' (cells_below P1.out b14)
  replace RA := hide' (own_mono RA.out b14)
  replace RB := hide' (own_mono RB.out b14)
  replace RX := hide' (own_mono RX.out b14)
  replace FX := hide' (ownF_mono FX.out b14)
  replace P2 := hide' (cells_below P2.out b14)
  replace RY := hide' (own_mono RY.out b14)
  replace FY := hide' (ownF_mono FY.out b14)
  replace P3 := hide' (cells_below P3.out b14)
  clear b14 cS
  have SZ : Hid (w.heap.size + 1 ≤ w1.heap.size ∧ w1.heap.size ≤ w2.heap.size ∧ w2.heap.size + 1 = w3.heap.size ∧ w3.heap.size ≤ w4.heap.size ∧ w4.heap.size ≤ w5.heap.size ∧ w5.heap.size ≤ w8.heap.size ∧ w8.heap.size ≤ w9.heap.size ∧ w9.heap.size + 1 = w10.heap.size ∧ w10.heap.size ≤ w11.heap.size ∧ w11.heap.size + 1 = w12.heap.size ∧ w12.heap.size ≤ w14.heap.size) := by
    have a0 := S0.out.1
    have a1 := s1.out
    have a2 := s2.out
    have a3 := s3.out
    have a4 := s4.out
    have a5 := s5.out
    have a6 := s6.out
    have a7 := s7.out
    have a8 := s8.out
    have a9 := s9.out
    have a10 := s10.out
    have a11 := s11.out
    have a12 := s12.out
    have a13 := s13.out
    have a14 := s14.out
    unfold Hid
    omega
  have DD : Hid (∀ k, ((Value.slice aa ol.length ac).ownBlock = some k → w3.heap.size ≤ k ∧ k < w4.heap.size) ∧ ((Value.slice bA ol.length bC).ownBlock = some k → w4.heap.size ≤ k ∧ k < w5.heap.size) ∧ ((Value.slice ya e.body.length yc).ownBlock = some k → w8.heap.size ≤ k ∧ k < w9.heap.size) ∧ ((Value.slice ta e.body.length tc).ownBlock = some k → w10.heap.size ≤ k ∧ k < w11.heap.size) ∧ ((Value.slice pa e.body.length pc).ownBlock = some k → w1.heap.size ≤ k ∧ k < w2.heap.size)) := fun k => ⟨bandA.out k, bandB.out k, bandX.out k, bandY.out k, bo.out k⟩
  have FF : Hid (∀ k, ((Value.slice xa e.r.fs.length xc).ownBlock = some k → w8.heap.size ≤ k ∧ k < w9.heap.size) ∧ ((Value.slice ra e.r.fs.length rc).ownBlock = some k → w10.heap.size ≤ k ∧ k < w11.heap.size)) := fun k => ⟨bandFX.out k, bandFY.out k⟩
  have TX := hide' (row_types FX.out.1 RX.out.1 (by decide))
  have TY := hide' (row_types FY.out.1 RY.out.1 (by decide))
  have ZX := hide' (ownZ_of FX.out)
  have ZY := hide' (ownZ_of FY.out)
  have Ka := hide' (rowB_of RA.out)
  have Kb := hide' (rowB_of RB.out)
  have Kx := hide' (rowB_of RX.out)
  have Ky := hide' (rowB_of RY.out)
  have Ko := hide' (rowB_of RO.out)
  have AP := hide' (apart5 w14 (.slice aa ol.length ac) (.slice bA ol.length bC) (.slice ya e.body.length yc) (.slice ta e.body.length tc) (.slice pa e.body.length pc) ol.length ol.length e.body.length e.body.length e.body.length ⟨_, Ka.out⟩ ⟨_, Kb.out⟩ ⟨_, Kx.out⟩ ⟨_, Ky.out⟩ ⟨_, Ko.out⟩
    (dj5 (fun i => [w3.heap.size, w4.heap.size, w8.heap.size, w10.heap.size, w1.heap.size].getD i 0) (fun i => [w4.heap.size, w5.heap.size, w9.heap.size, w11.heap.size, w2.heap.size].getD i 0) (fun i hi k e2 => by
      match i, hi with
      | 0, _ => exact (DD.out k).1 e2
      | 1, _ => exact (DD.out k).2.1 e2
      | 2, _ => exact (DD.out k).2.2.1 e2
      | 3, _ => exact (DD.out k).2.2.2.1 e2
      | 4, _ => exact (DD.out k).2.2.2.2 e2) (fun i j hi hj hne => by
      have z := SZ.out
      match i, hi, j, hj with
      | 0, _, 0, _ => exact absurd rfl hne
      | 0, _, 1, _ => show w4.heap.size ≤ w4.heap.size ∨ w5.heap.size ≤ w3.heap.size; omega
      | 0, _, 2, _ => show w4.heap.size ≤ w8.heap.size ∨ w9.heap.size ≤ w3.heap.size; omega
      | 0, _, 3, _ => show w4.heap.size ≤ w10.heap.size ∨ w11.heap.size ≤ w3.heap.size; omega
      | 0, _, 4, _ => show w4.heap.size ≤ w1.heap.size ∨ w2.heap.size ≤ w3.heap.size; omega
      | 1, _, 0, _ => show w5.heap.size ≤ w3.heap.size ∨ w4.heap.size ≤ w4.heap.size; omega
      | 1, _, 1, _ => exact absurd rfl hne
      | 1, _, 2, _ => show w5.heap.size ≤ w8.heap.size ∨ w9.heap.size ≤ w4.heap.size; omega
      | 1, _, 3, _ => show w5.heap.size ≤ w10.heap.size ∨ w11.heap.size ≤ w4.heap.size; omega
      | 1, _, 4, _ => show w5.heap.size ≤ w1.heap.size ∨ w2.heap.size ≤ w4.heap.size; omega
      | 2, _, 0, _ => show w9.heap.size ≤ w3.heap.size ∨ w4.heap.size ≤ w8.heap.size; omega
      | 2, _, 1, _ => show w9.heap.size ≤ w4.heap.size ∨ w5.heap.size ≤ w8.heap.size; omega
      | 2, _, 2, _ => exact absurd rfl hne
      | 2, _, 3, _ => show w9.heap.size ≤ w10.heap.size ∨ w11.heap.size ≤ w8.heap.size; omega
      | 2, _, 4, _ => show w9.heap.size ≤ w1.heap.size ∨ w2.heap.size ≤ w8.heap.size; omega
      | 3, _, 0, _ => show w11.heap.size ≤ w3.heap.size ∨ w4.heap.size ≤ w10.heap.size; omega
      | 3, _, 1, _ => show w11.heap.size ≤ w4.heap.size ∨ w5.heap.size ≤ w10.heap.size; omega
      | 3, _, 2, _ => show w11.heap.size ≤ w8.heap.size ∨ w9.heap.size ≤ w10.heap.size; omega
      | 3, _, 3, _ => exact absurd rfl hne
      | 3, _, 4, _ => show w11.heap.size ≤ w1.heap.size ∨ w2.heap.size ≤ w10.heap.size; omega
      | 4, _, 0, _ => show w2.heap.size ≤ w3.heap.size ∨ w4.heap.size ≤ w1.heap.size; omega
      | 4, _, 1, _ => show w2.heap.size ≤ w4.heap.size ∨ w5.heap.size ≤ w1.heap.size; omega
      | 4, _, 2, _ => show w2.heap.size ≤ w8.heap.size ∨ w9.heap.size ≤ w1.heap.size; omega
      | 4, _, 3, _ => show w2.heap.size ≤ w10.heap.size ∨ w11.heap.size ≤ w1.heap.size; omega
      | 4, _, 4, _ => exact absurd rfl hne))
    (fun i hi => by
      have o1 := OS.out
      have o2 := OD.out.2.2
      match i, hi with
      | 0, _ => show ol.length ≤ 100000000; omega
      | 1, _ => show ol.length ≤ 100000000; omega
      | 2, _ => show e.body.length ≤ 100000000; omega
      | 3, _ => show e.body.length ≤ 100000000; omega
      | 4, _ => show e.body.length ≤ 100000000; omega))
  have SPB : Hid (∀ k, Sp5 (pvA5 [.slice aa ol.length ac, .slice bA ol.length bC, .slice ya e.body.length yc, .slice ta e.body.length tc, .slice pa e.body.length pc]) k → ((w3.heap.size ≤ k ∧ k < w5.heap.size) ∨ (Value.slice ya e.body.length yc).ownBlock = some k ∨ (Value.slice ta e.body.length tc).ownBlock = some k ∨ (w1.heap.size ≤ k ∧ k < w2.heap.size))) := fun k h => by
    have z := SZ.out
    obtain ⟨i, hi, h⟩ := h
    match i, hi with
    | 0, _ => have := (DD.out k).1 h; exact .inl (by omega)
    | 1, _ => have := (DD.out k).2.1 h; exact .inl (by omega)
    | 2, _ => exact .inr (.inl h)
    | 3, _ => exact .inr (.inr (.inl h))
    | 4, _ => exact .inr (.inr (.inr ((DD.out k).2.2.2.2 h)))
  have SPR : Hid (∀ k, Sp5 (pvA5 [.slice aa ol.length ac, .slice bA ol.length bC, .slice ya e.body.length yc, .slice ta e.body.length tc, .slice pa e.body.length pc]) k → ((w1.heap.size ≤ k ∧ k < w2.heap.size) ∨ (w3.heap.size ≤ k ∧ k < w5.heap.size) ∨ (w8.heap.size ≤ k ∧ k < w9.heap.size) ∨ (w10.heap.size ≤ k ∧ k < w11.heap.size))) := fun k h => by
    rcases SPB.out k h with g | g | g | g
    · exact .inr (.inl g)
    · exact .inr (.inr (.inl ((DD.out k).2.2.1 g)))
    · exact .inr (.inr (.inr ((DD.out k).2.2.2.1 g)))
    · exact .inl g
  clear bo bandA bandB bandX bandY bandFX bandFY s1 s2 s3 s4 s5 s6 s7 s8 s9 s10 s11 s12 s13 s14 Ka Kb Kx Ky Ko RA RB RO
  obtain ⟨⟨c0, c1, c2, c3, c4, c5, c6, c7, c8⟩, -⟩ := cells_nine (show Blk w2.heap.size w14 [.string ⟨e.key.toArray⟩, .string ⟨e.vary.toArray⟩, .int .i64 e.r.s, .string ⟨e.r.r.toArray⟩, .int .i64 e.r.k, .slice oa e.r.fs.length oc, .slice pa e.body.length pc, .int .i64 e.a, .int .i64 e.g] from P1.out)
  obtain ⟨⟨d0, d1, d2, d3, d4, d5, d6, d7, d8⟩, -⟩ := cells_nine (show Blk w9.heap.size w14 [.string ⟨e.key.toArray⟩, .string ⟨e.vary.toArray⟩, .int .i64 e.r.s, .string ⟨e.r.r.toArray⟩, .int .i64 e.r.k, .slice xa e.r.fs.length xc, .slice ya e.body.length yc, .int .i64 e.a, .int .i64 e.g] from P2.out)
  obtain ⟨⟨f0, f1, f2, f3, f4, f5, f6, f7, f8⟩, -⟩ := cells_nine (show Blk w11.heap.size w14 [.string ⟨e.key.toArray⟩, .string ⟨e.vary.toArray⟩, .int .i64 e.r.s, .string ⟨e.r.r.toArray⟩, .int .i64 e.r.k, .slice ra e.r.fs.length rc, .slice ta e.body.length tc, .int .i64 e.a, .int .i64 e.g] from P3.out)
  go_wp2_with fail
  clear c0 c1 c2 c3 c4 c5 c6 c7 c8 d0 d1 d2 d3 d4 d5 d6 d7 d8 f0 f1 f2 f3 f4 f5 f6 f7 f8
  refine AP.out.mono ?_
  rintro x w15 ⟨rfl, hf15⟩
  have M15 := hide' hf15
  clear hf15 AP
  replace ZX := hide' (ownZ_far ZX.out M15.out (fun k e1 e2 => by
    have z := SZ.out
    have f := (FF.out k).1 e1
    rcases SPB.out k e2 with g | g | g | g
    · omega
    · exact TX.out k e1 g
    · have := (DD.out k).2.2.2.1 g; omega
    · omega))
  replace ZY := hide' (ownZ_far ZY.out M15.out (fun k e1 e2 => by
    have z := SZ.out
    have f := (FF.out k).2 e1
    rcases SPB.out k e2 with g | g | g | g
    · omega
    · have := (DD.out k).2.2.1 g; omega
    · exact TY.out k e1 g
    · omega))
  replace P2 : Hid (Blk w9.heap.size w15 [.string ⟨e.key.toArray⟩, .string ⟨e.vary.toArray⟩, .int .i64 e.r.s, .string ⟨e.r.r.toArray⟩, .int .i64 e.r.k, .slice xa e.r.fs.length xc, .slice ya e.body.length yc, .int .i64 e.a, .int .i64 e.g]) := blk_far P2.out M15.out (fun h => by have z := SZ.out; have := SPR.out _ h; omega)
  replace P3 : Hid (Blk w11.heap.size w15 [.string ⟨e.key.toArray⟩, .string ⟨e.vary.toArray⟩, .int .i64 e.r.s, .string ⟨e.r.r.toArray⟩, .int .i64 e.r.k, .slice ra e.r.fs.length rc, .slice ta e.body.length tc, .int .i64 e.a, .int .i64 e.g]) := blk_far P3.out M15.out (fun h => by have z := SZ.out; have := SPR.out _ h; omega)
  have PQ : Hid (Blk q w15 [.string ⟨e.key.toArray⟩, .string ⟨e.vary.toArray⟩, .int .i64 e.r.s, .string ⟨e.r.r.toArray⟩, .int .i64 e.r.k, .slice la e.r.fs.length lc, .slice ba e.body.length bc, .int .i64 e.a, .int .i64 e.g]) := blk_far (CC.out w14 LB.out) M15.out (fun h => by have z := SZ.out; have y := S0.out; have := SPR.out _ h; omega)
  have B15 : Hid (Below w.heap.size w w15) := BB.out.trans (below_far M15.out _ BB.out.size (fun k h => by have z := SZ.out; have := SPR.out k h; omega))
  clear P1 M15 SPB SPR BB LB RX RY
  obtain ⟨⟨d0, d1, d2, d3, d4, d5, d6, d7, d8⟩, -⟩ := cells_nine P2.out
  go_wp2_with fail
  clear d0 d1 d2 d3 d4 d5 d6 d7 d8
  refine (markedC _ e.r.fs.length 0 _ ⟨_, ZX.out⟩ (Nat.zero_le _) (by have := OD.out.2.1; omega)).mono ?_
  rintro x w16 ⟨rfl, hf⟩
  have M16 := hide' hf
  clear hf
  replace ZY := hide' (ownZ_far ZY.out M16.out (fun k e1 e2 => by
    have z := SZ.out
    have f := (FF.out k).2 e1
    have g := (FF.out k).1 e2
    omega))
  replace P3 : Hid (Blk w11.heap.size w16 [.string ⟨e.key.toArray⟩, .string ⟨e.vary.toArray⟩, .int .i64 e.r.s, .string ⟨e.r.r.toArray⟩, .int .i64 e.r.k, .slice ra e.r.fs.length rc, .slice ta e.body.length tc, .int .i64 e.a, .int .i64 e.g]) := blk_far P3.out M16.out (fun h => by have z := SZ.out; have := (FF.out _).1 h; omega)
  replace PQ : Hid (Blk q w16 [.string ⟨e.key.toArray⟩, .string ⟨e.vary.toArray⟩, .int .i64 e.r.s, .string ⟨e.r.r.toArray⟩, .int .i64 e.r.k, .slice la e.r.fs.length lc, .slice ba e.body.length bc, .int .i64 e.a, .int .i64 e.g]) := blk_far PQ.out M16.out (fun h => by have z := SZ.out; have y := S0.out; have := (FF.out _).1 h; omega)
  have B16 : Hid (Below w.heap.size w w16) := B15.out.trans (below_far M16.out _ B15.out.size (fun k h => by have z := SZ.out; have := (FF.out k).1 h; omega))
  clear P2 M16 ZX B15
  obtain ⟨⟨c0, c1, c2, c3, c4, c5, c6, c7, c8⟩, -⟩ := cells_nine PQ.out
  obtain ⟨⟨f0, f1, f2, f3, f4, f5, f6, f7, f8⟩, -⟩ := cells_nine P3.out
  go_wp2_with fail
  clear c0 c1 c2 c3 c4 c5 c6 c7 c8 f0 f1 f2 f3 f4 f5 f6 f7 f8
  refine (sameFe _ _ e.r.fs _ (ownZ_holds ZY.out) (holdsF_mono HF.out B16.out) (by have := OD.out.2.1; omega)).mono ?_
  rintro x w17 ⟨rfl, b17⟩
  have B17 := hide' (bt' B16.out b17)
  clear b17
  go_wp2_with fail
  go_ret
  exact ⟨rfl, B17.out⟩
end Go.Proofs.YtnlehfondhegbaaGreatDoor
