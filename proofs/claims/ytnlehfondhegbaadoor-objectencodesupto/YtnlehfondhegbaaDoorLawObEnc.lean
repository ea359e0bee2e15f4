/- The walk of ObjectEncodes. -/
import Derived.Test.YtnlehfondhegbaaDoorObN
import Derived.Test.YtnlehfondhegbaaDoorObH
import Derived.Deep.RegionHeld3
namespace Go.Proofs.YtnlehfondhegbaaDoor
open Go.RowKit
theorem idOC (k v : List UInt8) (w : World) (hk : k.length ≤ 10000000) (hv : v.length ≤ 10000000) :
    Calls Tryd.prog 10 #[.string ⟨k.toArray⟩, .string ⟨v.toArray⟩] w fun e w' => e = .returned (.string ⟨(k ++ 10 :: v).toArray⟩) ∧ w' = w := by
  have z1 : (⟨k.toArray⟩ : ByteArray).size = k.length := size_l k
  have z2 : (⟨v.toArray⟩ : ByteArray).size = v.length := size_l v
  have z3 : (⟨#[10]⟩ : ByteArray).size = 1 := rfl
  obtain ⟨X1, a1, l1, s1⟩ := add_str ⟨k.toArray⟩ ⟨#[10]⟩ (by omega)
  obtain ⟨X2, a2, l2, s2⟩ := add_str X1 ⟨v.toArray⟩ (by omega)
  have E : Hid (X2 = ⟨(k ++ 10 :: v).toArray⟩) := ba_mk (by rw [l2, l1]; simp)
  clear l1 l2
  generalize (⟨k.toArray⟩ : ByteArray) = K at *
  generalize (⟨v.toArray⟩ : ByteArray) = V at *
  go_enter Tryd.func10, Tryd.ntmps10
  go_wp2
  go_ret
  rw [E.out]
  exact ⟨rfl, rfl⟩
theorem idRC (k v : List UInt8) (w : World) (hk : k.length ≤ 10000000) (hv : v.length ≤ 10000000) :
    Calls Tryd.prog 11 #[.string ⟨k.toArray⟩, .string ⟨v.toArray⟩] w fun e w' => e = .returned (.string ⟨(k ++ 10 :: v).toArray⟩) ∧ w' = w := by
  have z1 : (⟨k.toArray⟩ : ByteArray).size = k.length := size_l k
  have z2 : (⟨v.toArray⟩ : ByteArray).size = v.length := size_l v
  have z3 : (⟨#[10]⟩ : ByteArray).size = 1 := rfl
  obtain ⟨X1, a1, l1, s1⟩ := add_str ⟨k.toArray⟩ ⟨#[10]⟩ (by omega)
  obtain ⟨X2, a2, l2, s2⟩ := add_str X1 ⟨v.toArray⟩ (by omega)
  have E : Hid (X2 = ⟨(k ++ 10 :: v).toArray⟩) := ba_mk (by rw [l2, l1]; simp)
  clear l1 l2
  generalize (⟨k.toArray⟩ : ByteArray) = K at *
  generalize (⟨v.toArray⟩ : ByteArray) = V at *
  go_enter Tryd.func11, Tryd.ntmps11
  go_wp2
  go_ret
  rw [E.out]
  exact ⟨rfl, rfl⟩
set_option maxRecDepth 20000 in
set_option maxHeartbeats 8000000 in
theorem encodesOW (e : En) (lv bv : Value)  (w : World) (hF : HoldsF w lv e.r.fs) (hB : HoldsB w bv e.body) (BE : Bnd e) (lk : e.key.length ≤ 1048576) (lw : e.vary.length ≤ 1048576) (T : Tab w) :
    Calls Tryd.prog 3 #[entV e lv bv] w fun x w' => x = .returned (.bool true) ∧ Below w.heap.size w w' := by
  obtain ⟨la, lc, _, _, e1, _⟩ := holdsF_parts hF
  obtain ⟨ba, bc, e2, _⟩ := holdsB_parts hB
  subst e1 e2
  have b0 := below_alloc' w (.cells #[.string ⟨e.key.toArray⟩, .string ⟨e.vary.toArray⟩, .int .i64 e.r.s, .string ⟨e.r.r.toArray⟩, .int .i64 e.r.k, .slice la e.r.fs.length lc, .slice ba e.body.length bc, .int .i64 e.a, .int .i64 e.g] 27)
  have q0 := cells_lit w #[.string ⟨e.key.toArray⟩, .string ⟨e.vary.toArray⟩, .int .i64 e.r.s, .string ⟨e.r.r.toArray⟩, .int .i64 e.r.k, .slice la e.r.fs.length lc, .slice ba e.body.length bc, .int .i64 e.a, .int .i64 e.g] 27
  obtain ⟨W0, hW0⟩ : ∃ W0, W0 = w.alloc (.cells #[.string ⟨e.key.toArray⟩, .string ⟨e.vary.toArray⟩, .int .i64 e.r.s, .string ⟨e.r.r.toArray⟩, .int .i64 e.r.k, .slice la e.r.fs.length lc, .slice ba e.body.length bc, .int .i64 e.a, .int .i64 e.g] 27) := ⟨_, rfl⟩
  have HW0 := hide' hW0
  rw [← hW0] at b0 q0
  obtain ⟨q, hq⟩ : ∃ q, q = w.heap.size := ⟨_, rfl⟩
  have HQ := hide' hq
  rw [← hq] at q0
  have BB := hide' b0
  have CC : Hid (∀ W, Below W0.heap.size W0 W → Blk q W [.string ⟨e.key.toArray⟩, .string ⟨e.vary.toArray⟩, .int .i64 e.r.s, .string ⟨e.r.r.toArray⟩, .int .i64 e.r.k, .slice la e.r.fs.length lc, .slice ba e.body.length bc, .int .i64 e.a, .int .i64 e.g]) := fun W hb => cells_below q0 hb
  have HF := hide' hF
  have HB := hide' hB
  have TT := hide' T
  have HN := hide' BE
  have cA := hide' (aliveOC W0 (tab_below T b0))
  have cC := hide' (fun W (hb : Below w.heap.size w W) => copyEB BE _ _ W (holdsF_mono hF hb) (holdsB_mono hB hb))
  have cE := hide' (fun W (hb : Below w.heap.size w W) lu bu (h1 : HoldsF W lu e.r.fs) (h2 : HoldsB W bu e.body) => encB BE lu bu W h1 h2 (tab_below T hb))
  unfold entV at cC cE ⊢
  have cR := hide' (fun W (hb : Below w.heap.size w W) => encORC e _ _ W (holdsF_mono hF hb) (holdsB_mono hB hb) BE.fit BE.n BE.p BE.r BE.k BE.v BE.b)
  have OS : Hid ((objOf e).1.length ≤ 1000000) := by
    unfold Hid
    rcases obj_two e with h | h
    · exact Nat.le_trans (obj_len (e := e) (w := (objOf e).1) (Prod.ext rfl h)).2 (by decide)
    · rw [h]; decide
  have cI := hide' (fun W => idOC e.key e.vary W (by omega) (by omega))
  have cJ := hide' (fun W => idRC e.key e.vary W (by omega) (by omega))
  unfold entV at cR
  clear hW0 hq b0 q0 hF hB T BE lk lw
  generalize objOf e = OE at *
  obtain ⟨ol, oe⟩ := OE
  dsimp only at *
  go_enter Tryd.func3, Tryd.ntmps3
  go_wp2_with fail
  rw [← HW0.out, ← HQ.out]
  refine cA.out.mono ?_
  rintro x w1 ⟨rfl, b1⟩
  have LB := hide' b1
  replace BB := hide' (bt' BB.out b1)
  clear b1 cA
  obtain ⟨⟨c0, c1, c2, c3, c4, c5, c6, c7, c8⟩, -⟩ := cells_nine (CC.out w1 LB.out)
  go_wp2_with fail
  refine (cC.out _ BB.out).mono ?_
  rintro x w2 ⟨lu, bu, rfl, hfu, hbu⟩
  replace LB := hide' (bt' LB.out hfu.2)
  replace BB := hide' (bt' BB.out hfu.2)
  have HU := hide' (holdsF_own hfu)
  have HW := hide' (holdsB_own hbu)
  obtain ⟨xa, xc, _, _, e5, _⟩ := holdsF_parts (holdsF_own hfu)
  obtain ⟨ya, yc, e6, _⟩ := holdsB_parts (holdsB_own hbu)
  subst e5 e6
  clear hfu hbu cC c0 c1 c2 c3 c4 c5 c6 c7 c8
  have bf := below_alloc' w2 (.cells #[.string ⟨e.key.toArray⟩, .string ⟨e.vary.toArray⟩, .int .i64 e.r.s, .string ⟨e.r.r.toArray⟩, .int .i64 e.r.k, .slice xa e.r.fs.length xc, .slice ya e.body.length yc, .int .i64 e.a, .int .i64 e.g] 27)
  have pf := cells_lit w2 #[.string ⟨e.key.toArray⟩, .string ⟨e.vary.toArray⟩, .int .i64 e.r.s, .string ⟨e.r.r.toArray⟩, .int .i64 e.r.k, .slice xa e.r.fs.length xc, .slice ya e.body.length yc, .int .i64 e.a, .int .i64 e.g] 27
  replace LB := hide' (bt' LB.out bf)
  replace BB := hide' (bt' BB.out bf)
  replace HU := hide' (holdsF_mono HU.out bf)
  replace HW := hide' (holdsB_mono HW.out bf)
  have PF : Hid (Blk w2.heap.size (w2.alloc (.cells #[.string ⟨e.key.toArray⟩, .string ⟨e.vary.toArray⟩, .int .i64 e.r.s, .string ⟨e.r.r.toArray⟩, .int .i64 e.r.k, .slice xa e.r.fs.length xc, .slice ya e.body.length yc, .int .i64 e.a, .int .i64 e.g] 27)) [.string ⟨e.key.toArray⟩, .string ⟨e.vary.toArray⟩, .int .i64 e.r.s, .string ⟨e.r.r.toArray⟩, .int .i64 e.r.k, .slice xa e.r.fs.length xc, .slice ya e.body.length yc, .int .i64 e.a, .int .i64 e.g]) := pf
  obtain ⟨⟨d0, d1, d2, d3, d4, d5, d6, d7, d8⟩, -⟩ := cells_nine PF.out
  clear bf pf
  go_wp2_with fail
  clear d0 d1 d2 d3 d4 d5 d6 d7 d8
  generalize hw3 : w2.alloc (.cells #[.string ⟨e.key.toArray⟩, .string ⟨e.vary.toArray⟩, .int .i64 e.r.s, .string ⟨e.r.r.toArray⟩, .int .i64 e.r.k, .slice xa e.r.fs.length xc, .slice ya e.body.length yc, .int .i64 e.a, .int .i64 e.g] 27) = w3 at *
  generalize hp : w2.heap.size = p at *
  clear hw3 hp
  refine (cE.out _ BB.out _ _ HU.out HW.out).mono ?_
  rintro x w4 ⟨u, rfl, ho⟩
  replace LB := hide' (bt' LB.out ho.2)
  replace BB := hide' (bt' BB.out ho.2)
  replace HU := hide' (holdsF_mono HU.out ho.2)
  replace HW := hide' (holdsB_mono HW.out ho.2)
  have P4 : Hid (Blk p w4 [.string ⟨e.key.toArray⟩, .string ⟨e.vary.toArray⟩, .int .i64 e.r.s, .string ⟨e.r.r.toArray⟩, .int .i64 e.r.k, .slice xa e.r.fs.length xc, .slice ya e.body.length yc, .int .i64 e.a, .int .i64 e.g]) := cells_below PF.out ho.2
  have U4 := hide' (holdsB_own ho)
  clear ho cE PF
  obtain ⟨⟨c0, c1, c2, c3, c4, c5, c6, c7, c8⟩, -⟩ := cells_nine (CC.out w4 LB.out)
  go_wp2_with fail
  refine (cR.out _ BB.out).mono ?_
  rintro x w5 ⟨r5, rfl, ho⟩
  replace LB := hide' (bt' LB.out ho.2)
  replace BB := hide' (bt' BB.out ho.2)
  replace HU := hide' (holdsF_mono HU.out ho.2)
  replace HW := hide' (holdsB_mono HW.out ho.2)
  have P5 : Hid (Blk p w5 [.string ⟨e.key.toArray⟩, .string ⟨e.vary.toArray⟩, .int .i64 e.r.s, .string ⟨e.r.r.toArray⟩, .int .i64 e.r.k, .slice xa e.r.fs.length xc, .slice ya e.body.length yc, .int .i64 e.a, .int .i64 e.g]) := cells_below P4.out ho.2
  have U5 := hide' (holdsB_mono U4.out ho.2)
  have R5 := hide' (holdsB_own ho)
  clear ho cR P4 U4 c0 c1 c2 c3 c4 c5 c6 c7 c8
  have AL : Hid (∀ W, Below w5.heap.size w5 W → (W.cell? ⟨q, 0, none⟩ = some (.string ⟨e.key.toArray⟩) ∧ W.cell? ⟨q, 1, none⟩ = some (.string ⟨e.vary.toArray⟩) ∧ W.cell? ⟨q, 2, none⟩ = some (.int .i64 e.r.s) ∧ W.cell? ⟨q, 3, none⟩ = some (.string ⟨e.r.r.toArray⟩) ∧ W.cell? ⟨q, 4, none⟩ = some (.int .i64 e.r.k) ∧ W.cell? ⟨q, 5, none⟩ = some (.slice la e.r.fs.length lc) ∧ W.cell? ⟨q, 6, none⟩ = some (.slice ba e.body.length bc) ∧ W.cell? ⟨q, 7, none⟩ = some (.int .i64 e.a) ∧ W.cell? ⟨q, 8, none⟩ = some (.int .i64 e.g)) ∧ (W.cell? ⟨p, 0, none⟩ = some (.string ⟨e.key.toArray⟩) ∧ W.cell? ⟨p, 1, none⟩ = some (.string ⟨e.vary.toArray⟩) ∧ W.cell? ⟨p, 2, none⟩ = some (.int .i64 e.r.s) ∧ W.cell? ⟨p, 3, none⟩ = some (.string ⟨e.r.r.toArray⟩) ∧ W.cell? ⟨p, 4, none⟩ = some (.int .i64 e.r.k) ∧ W.cell? ⟨p, 5, none⟩ = some (.slice xa e.r.fs.length xc) ∧ W.cell? ⟨p, 6, none⟩ = some (.slice ya e.body.length yc) ∧ W.cell? ⟨p, 7, none⟩ = some (.int .i64 e.a) ∧ W.cell? ⟨p, 8, none⟩ = some (.int .i64 e.g))) := fun W hb => ⟨(cells_nine (CC.out W (bt' LB.out hb))).1, (cells_nine (cells_below P5.out hb)).1⟩
  have cS : Hid (∀ W, Below w5.heap.size w5 W → Calls Tryd.prog 8 #[u, r5] W fun x w' => x = .returned (.bool true) ∧ Hid (Below w5.heap.size w5 w') ∧ (w'.cell? ⟨q, 0, none⟩ = some (.string ⟨e.key.toArray⟩) ∧ w'.cell? ⟨q, 1, none⟩ = some (.string ⟨e.vary.toArray⟩) ∧ w'.cell? ⟨q, 2, none⟩ = some (.int .i64 e.r.s) ∧ w'.cell? ⟨q, 3, none⟩ = some (.string ⟨e.r.r.toArray⟩) ∧ w'.cell? ⟨q, 4, none⟩ = some (.int .i64 e.r.k) ∧ w'.cell? ⟨q, 5, none⟩ = some (.slice la e.r.fs.length lc) ∧ w'.cell? ⟨q, 6, none⟩ = some (.slice ba e.body.length bc) ∧ w'.cell? ⟨q, 7, none⟩ = some (.int .i64 e.a) ∧ w'.cell? ⟨q, 8, none⟩ = some (.int .i64 e.g)) ∧ (w'.cell? ⟨p, 0, none⟩ = some (.string ⟨e.key.toArray⟩) ∧ w'.cell? ⟨p, 1, none⟩ = some (.string ⟨e.vary.toArray⟩) ∧ w'.cell? ⟨p, 2, none⟩ = some (.int .i64 e.r.s) ∧ w'.cell? ⟨p, 3, none⟩ = some (.string ⟨e.r.r.toArray⟩) ∧ w'.cell? ⟨p, 4, none⟩ = some (.int .i64 e.r.k) ∧ w'.cell? ⟨p, 5, none⟩ = some (.slice xa e.r.fs.length xc) ∧ w'.cell? ⟨p, 6, none⟩ = some (.slice ya e.body.length yc) ∧ w'.cell? ⟨p, 7, none⟩ = some (.int .i64 e.a) ∧ w'.cell? ⟨p, 8, none⟩ = some (.int .i64 e.g))) := fun W hb => by
    refine (sameBe u r5 ol W (holdsB_mono U5.out hb) (holdsB_mono R5.out hb) (by have := OS.out; omega)).mono ?_
    rintro x w' ⟨rfl, b⟩
    exact ⟨rfl, bt' hb b, AL.out _ (bt' hb b)⟩
  have cT : Hid (∀ W, Hid (Below w5.heap.size w5 W) → Calls Tryd.prog 9 #[.agg #[.string ⟨e.key.toArray⟩, .string ⟨e.vary.toArray⟩, .int .i64 e.r.s, .string ⟨e.r.r.toArray⟩, .int .i64 e.r.k, .slice xa e.r.fs.length xc, .slice ya e.body.length yc, .int .i64 e.a, .int .i64 e.g], .agg #[.string ⟨e.key.toArray⟩, .string ⟨e.vary.toArray⟩, .int .i64 e.r.s, .string ⟨e.r.r.toArray⟩, .int .i64 e.r.k, .slice la e.r.fs.length lc, .slice ba e.body.length bc, .int .i64 e.a, .int .i64 e.g]] W fun x w' => x = .returned (.bool true) ∧ Hid (Below w5.heap.size w5 w') ∧ (w'.cell? ⟨q, 0, none⟩ = some (.string ⟨e.key.toArray⟩) ∧ w'.cell? ⟨q, 1, none⟩ = some (.string ⟨e.vary.toArray⟩) ∧ w'.cell? ⟨q, 2, none⟩ = some (.int .i64 e.r.s) ∧ w'.cell? ⟨q, 3, none⟩ = some (.string ⟨e.r.r.toArray⟩) ∧ w'.cell? ⟨q, 4, none⟩ = some (.int .i64 e.r.k) ∧ w'.cell? ⟨q, 5, none⟩ = some (.slice la e.r.fs.length lc) ∧ w'.cell? ⟨q, 6, none⟩ = some (.slice ba e.body.length bc) ∧ w'.cell? ⟨q, 7, none⟩ = some (.int .i64 e.a) ∧ w'.cell? ⟨q, 8, none⟩ = some (.int .i64 e.g)) ∧ (w'.cell? ⟨p, 0, none⟩ = some (.string ⟨e.key.toArray⟩) ∧ w'.cell? ⟨p, 1, none⟩ = some (.string ⟨e.vary.toArray⟩) ∧ w'.cell? ⟨p, 2, none⟩ = some (.int .i64 e.r.s) ∧ w'.cell? ⟨p, 3, none⟩ = some (.string ⟨e.r.r.toArray⟩) ∧ w'.cell? ⟨p, 4, none⟩ = some (.int .i64 e.r.k) ∧ w'.cell? ⟨p, 5, none⟩ = some (.slice xa e.r.fs.length xc) ∧ w'.cell? ⟨p, 6, none⟩ = some (.slice ya e.body.length yc) ∧ w'.cell? ⟨p, 7, none⟩ = some (.int .i64 e.a) ∧ w'.cell? ⟨p, 8, none⟩ = some (.int .i64 e.g))) := fun W hb => by
    refine (sameEB HN.out (.slice xa e.r.fs.length xc) (.slice la e.r.fs.length lc) (.slice ya e.body.length yc) (.slice ba e.body.length bc) W (holdsF_mono HU.out hb.out) (holdsF_mono HF.out (bt' BB.out hb.out)) (holdsB_mono HW.out hb.out) (holdsB_mono HB.out (bt' BB.out hb.out))).mono ?_
    rintro x w' ⟨rfl, b⟩
    exact ⟨rfl, bt' hb.out b, AL.out _ (bt' hb.out b)⟩
  obtain ⟨⟨c0, c1, c2, c3, c4, c5, c6, c7, c8⟩, ⟨d0, d1, d2, d3, d4, d5, d6, d7, d8⟩⟩ := AL.out w5 (Below.refl _ _)
  generalize (⟨(e.key ++ 10 :: e.vary).toArray⟩ : ByteArray) = ID at cI cJ
  go_wp2_with fail
  go_region_held3 (fun w' => w'.cell? ⟨q, 0, none⟩ = some (.string ⟨e.key.toArray⟩) ∧ w'.cell? ⟨q, 1, none⟩ = some (.string ⟨e.vary.toArray⟩) ∧ w'.cell? ⟨q, 2, none⟩ = some (.int .i64 e.r.s) ∧ w'.cell? ⟨q, 3, none⟩ = some (.string ⟨e.r.r.toArray⟩) ∧ w'.cell? ⟨q, 4, none⟩ = some (.int .i64 e.r.k) ∧ w'.cell? ⟨q, 5, none⟩ = some (.slice la e.r.fs.length lc) ∧ w'.cell? ⟨q, 6, none⟩ = some (.slice ba e.body.length bc) ∧ w'.cell? ⟨q, 7, none⟩ = some (.int .i64 e.a) ∧ w'.cell? ⟨q, 8, none⟩ = some (.int .i64 e.g) ∧ w'.cell? ⟨p, 0, none⟩ = some (.string ⟨e.key.toArray⟩) ∧ w'.cell? ⟨p, 1, none⟩ = some (.string ⟨e.vary.toArray⟩) ∧ w'.cell? ⟨p, 2, none⟩ = some (.int .i64 e.r.s) ∧ w'.cell? ⟨p, 3, none⟩ = some (.string ⟨e.r.r.toArray⟩) ∧ w'.cell? ⟨p, 4, none⟩ = some (.int .i64 e.r.k) ∧ w'.cell? ⟨p, 5, none⟩ = some (.slice xa e.r.fs.length xc) ∧ w'.cell? ⟨p, 6, none⟩ = some (.slice ya e.body.length yc) ∧ w'.cell? ⟨p, 7, none⟩ = some (.int .i64 e.a) ∧ w'.cell? ⟨p, 8, none⟩ = some (.int .i64 e.g)) (go_keep)
    (first
      | (go_at_call 8; refine (cS.out _ ?_).mono ?_; (first | exact (Below.refl _ _).drew | exact Below.refl _ _); rintro x w6 ⟨rfl, L6, ⟨mq0, mq1, mq2, mq3, mq4, mq5, mq6, mq7, mq8⟩, ⟨mp0, mp1, mp2, mp3, mp4, mp5, mp6, mp7, mp8⟩⟩)
      | (go_at_call 9; refine (cT.out _ L6).mono ?_; rintro x w7 ⟨rfl, L7, ⟨nq0, nq1, nq2, nq3, nq4, nq5, nq6, nq7, nq8⟩, ⟨np0, np1, np2, np3, np4, np5, np6, np7, np8⟩⟩)
      | (go_at_call 10; refine (cI.out _).mono ?_; rintro x w8 ⟨rfl, ew⟩; subst ew)
      | (go_at_call 11; refine (cJ.out _).mono ?_; rintro x w9 ⟨rfl, ew⟩; subst ew))
  all_goals
    have FB := hide' (bt' BB.out L7.out)
    go_wp2_with fail
    go_ret
    exact ⟨rfl, FB.out⟩
end Go.Proofs.YtnlehfondhegbaaDoor
