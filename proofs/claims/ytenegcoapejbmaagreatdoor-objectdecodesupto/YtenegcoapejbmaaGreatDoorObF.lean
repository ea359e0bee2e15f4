/- The contract of object.Encode. -/
import Derived.Test.YtenegcoapejbmaaGreatDoorObE
import Derived.Test.YtenegcoapejbmaaGreatDoorHdY
import Derived.Test.YtenegcoapejbmaaGreatDoorBn
import Derived.Lib.SlBytesConst
namespace Go.Proofs.YtenegcoapejbmaaGreatDoor
open Go.RowKit
theorem mark3 (W : World) : Sem.run Tryz.prog (convert 22 22 (.slice (some ⟨W.heap.size, 0, none⟩) 3 3)) (W.alloc (.cells #[.int .u8 67, .int .u8 79, .int .u8 49] 5)) = .ok (.slice (some ⟨W.heap.size, 0, none⟩) 3 3) (W.alloc (.cells #[.int .u8 67, .int .u8 79, .int .u8 49] 5 (3, 4))) :=
  Lib.run_convert_bytes_const W 22 5 #[.int .u8 67, .int .u8 79, .int .u8 49] 3 3 Tryz.underlying22 Tryz.underlying5
theorem mark3_cells (W : World) : ∀ j (h : j < ([67, 79, 49] : List UInt8).length), (W.alloc (.cells #[.int .u8 67, .int .u8 79, .int .u8 49] 5 (3, 4))).cell? ⟨W.heap.size, j, none⟩ = some (B ([67, 79, 49] : List UInt8)[j]) := by
  intro j hj
  rw [World.cell?_alloc_mark]
  match j, hj with
  | 0, _ => rfl
  | 1, _ => rfl
  | 2, _ => rfl
/-- the mark, as it is converted -/
theorem mark3_ext (W W' : World) (hb : Below (W.heap.size + 1) (W.alloc (.cells #[.int .u8 67, .int .u8 79, .int .u8 49] 5 (3, 4))) W') : Ext (.slice (some ⟨W.heap.size, 0, none⟩) 3 3) [67, 79, 49] W' := by
  have hs := hb.size
  have h3 : (W.alloc (.cells #[.int .u8 67, .int .u8 79, .int .u8 49] 5 (3, 4))).heap.size = W.heap.size + 1 := by simp
  exact ext_full (bs := [67, 79, 49]) (fun j hj => by rw [hb.cell (p := ⟨W.heap.size, j, none⟩) (by show W.heap.size < W.heap.size + 1; omega)]; exact mark3_cells W j hj) (by omega) (by decide)
theorem obj_no {e : En} (h : withinL e = false) : objOf e = ([], 120) := by unfold objOf; rw [if_neg (fun g => by rw [h] at g; cases g.1)]
theorem obj_no2 {e : En} (h : (prR e.r).2 ≠ 0) : objOf e = ([], 120) := by unfold objOf; rw [if_neg (fun g => h g.2)]
theorem obj_yes {e : En} (h : withinL e = true) (h2 : (prR e.r).2 = 0) : objOf e = (objL e (prR e.r).1, 0) := by unfold objOf; rw [if_pos ⟨h, h2⟩]
theorem obj_body (e : En) (h : List UInt8) (a g : Nat) (ha : (a : Int) = e.a) (hg : (g : Int) = e.g) : objB e h = [67, 79, 49] ++ secL 1 e.key ++ secL 2 e.vary ++ secL 3 h ++ secL 4 e.body ++ secL 5 (beN 8 a ++ beN 8 g) := by
  unfold objB
  rw [show e.a.toNat = a by omega, show e.g.toNat = g by omega]
  simp [List.append_assoc]
set_option maxRecDepth 20000 in
set_option maxHeartbeats 8000000 in
theorem encOC (e : En) (lv bv : Value) (w : World) (hF : HoldsF w lv e.r.fs) (hB : HoldsB w bv e.body) (T : Tab w) (hfit : Fit e.r.fs) (hl : e.r.fs.length ≤ 2000000) (hP : (printOf e.r.fs).length ≤ 10000000) (hr : e.r.r.length ≤ 10000000) (hk : e.key.length ≤ 1000000000000) (hv : e.vary.length ≤ 1000000000000) (hb : e.body.length ≤ 1000000000000) :
    Calls Tryz.prog 10 #[entV e lv bv] w fun x w' => ∃ u, x = .returned (.tuple #[u, .int .i64 (objOf e).2]) ∧ Own w u (objOf e).1 w' := by
  obtain ⟨la, lc, _, _, e1, _⟩ := holdsF_parts hF
  obtain ⟨ba, bc, e2, _⟩ := holdsB_parts hB
  subst e1 e2
  have cW := hide' (fun W (hb' : Below w.heap.size w W) => withinC e _ _ W (holdsF_mono hF hb') (holdsB_mono hB hb') hk hv hb)
  have cP := hide' (fun W (hb' : Below w.heap.size w W) => printRsTok e.r.s e.r.k e.r.r e.r.fs _ W (holdsF_mono hF hb') (tab_below T hb') hfit hl hP hr)
  have cT := hide' (fun W (hb' : Below w.heap.size w W) (a g : Nat) (ha : (a : Int) = e.a) (hg : (g : Int) = e.g) => timesC e a g _ _ W (holdsF_mono hF hb') (holdsB_mono hB hb') ha hg)
  have HB := hide' hB
  obtain ⟨R, hR⟩ : ∃ R, R = objOf e := ⟨_, rfl⟩
  rw [← hR]
  have f1 := hide' (fun h => hR.trans (obj_no (e := e) h))
  have f2 := hide' (fun h => hR.trans (obj_no2 (e := e) h))
  have f3 := hide' (fun h h2 => hR.trans (obj_yes (e := e) h h2))
  have fw := hide' (fun h => within_facts (e := e) h)
  have fb := hide' (fun h a g ha hg => obj_body e h a g ha hg)
  have fp := hide' (fun w h => prR_pos e.r w h)
  clear hR hF hB T hfit hP hr hl
  have EL : Hid (∀ h, objL e h = objB e h ++ beN 4 (sumOf (objB e h))) := fun _ => rfl
  unfold entV at cW cT ⊢
  generalize hPR : prR e.r = PR at *
  generalize hWL : withinL e = wl at *
  generalize hOB : objB e = OB at *
  generalize hOL : objL e = OL at *
  clear hPR hWL hOB hOL
  obtain ⟨key, vary, ⟨s, r, k, fs⟩, body, a0, g0⟩ := e
  dsimp only at *
  obtain ⟨ph, pe⟩ := PR
  dsimp only at *
  have b0 := below_alloc' w (.cells #[.string ⟨key.toArray⟩, .string ⟨vary.toArray⟩, .int .i64 s, .string ⟨r.toArray⟩, .int .i64 k, .slice la fs.length lc, .slice ba body.length bc, .int .i64 a0, .int .i64 g0] 29)
  have q0 := cells_lit w #[.string ⟨key.toArray⟩, .string ⟨vary.toArray⟩, .int .i64 s, .string ⟨r.toArray⟩, .int .i64 k, .slice la fs.length lc, .slice ba body.length bc, .int .i64 a0, .int .i64 g0] 29
  obtain ⟨W0, hW0⟩ : ∃ W0, W0 = w.alloc (.cells #[.string ⟨key.toArray⟩, .string ⟨vary.toArray⟩, .int .i64 s, .string ⟨r.toArray⟩, .int .i64 k, .slice la fs.length lc, .slice ba body.length bc, .int .i64 a0, .int .i64 g0] 29) := ⟨_, rfl⟩
  have HW0 := hide' hW0
  rw [← hW0] at b0 q0
  obtain ⟨q, hq⟩ : ∃ q, q = w.heap.size := ⟨_, rfl⟩
  have HQ := hide' hq
  rw [← hq] at q0
  have B0 := hide' b0
  have HD := hide' (holdsB_mono HB.out b0)
  have CC : Hid (∀ W, Below W0.heap.size W0 W → Blk q W [.string ⟨key.toArray⟩, .string ⟨vary.toArray⟩, .int .i64 s, .string ⟨r.toArray⟩, .int .i64 k, .slice la fs.length lc, .slice ba body.length bc, .int .i64 a0, .int .i64 g0]) := fun W hb => cells_below q0 hb
  clear hW0 hq b0 HB
  obtain ⟨⟨c0, c1, c2, c3, c4, c5, c6, c7, c8⟩, -⟩ := cells_nine (CC.out W0 (Below.refl _ _))
  go_enter Tryz.func10, Tryz.ntmps10
  go_wp2_with fail
  rw [← HW0.out, ← HQ.out]
  refine (cW.out _ B0.out).mono ?_
  rintro x w1 ⟨rfl, hb1⟩
  have B1 := hide' hb1
  obtain ⟨⟨d0, d1, d2, d3, d4, d5, d6, d7, d8⟩, -⟩ := cells_nine (CC.out w1 hb1)
  clear c0 c1 c2 c3 c4 c5 c6 c7 c8 hb1 cW
  cases wl with
  | false =>
    have EQ : Hid (R = ([], 120)) := f1.out (by trivial)
    go_wp2_with fail
    exact bodyPost_ret (v := .tuple #[.slice none 0 0, .int .i64 120]) (by simp [results, Tryz.results10, go_sem]) rfl ⟨.slice none 0 0, by rw [EQ.out], by rw [EQ.out]; exact own_nil w _ (bt' B0.out B1.out)⟩
  | true =>
  go_wp2_with fail
  refine (cP.out _ (bt' B0.out B1.out)).mono ?_
  rintro x w2 ⟨hvv, rfl, ho2⟩
  have B2 := hide' (bt' B1.out ho2.2)
  have OH := hide' (own_base ho2 B1.out)
  obtain ⟨⟨c0, c1, c2, c3, c4, c5, c6, c7, c8⟩, -⟩ := cells_nine (CC.out w2 B2.out)
  clear d0 d1 d2 d3 d4 d5 d6 d7 d8 ho2 cP
  by_cases hpe : pe = 0
  · subst hpe
    have EQ : Hid (R = (OL ph, 0)) := f3.out (by trivial) (by trivial)
    obtain ⟨k1, k2, k3, k4, k5, k6⟩ := fw.out (by trivial)
    obtain ⟨p1, p2⟩ := fp.out ph (by first | trivial | rfl)
    obtain ⟨a, ha⟩ : ∃ a : Nat, (a : Int) = a0 := ⟨a0.toNat, by omega⟩
    obtain ⟨g, hg⟩ : ∃ g : Nat, (g : Int) = g0 := ⟨g0.toNat, by omega⟩
    have EB := hide' (fb.out ph a g ha hg)
    replace EL := hide' (EL.out ph)
    replace cT := hide' (fun W hb' => cT.out W hb' a g ha hg)
    have LK : Hid (ph ≠ []) := by unfold Hid; intro h; rw [h] at p1; exact absurd p1 (by decide)
    have m1 := secL_len 1 key
    have m2 := secL_len 2 vary
    have m3 := secL_len 3 ph
    have m4 := secL_len 4 body
    have m5 := secL_len 5 (beN 8 a ++ beN 8 g)
    have m6 : (beN 8 a ++ beN 8 g).length = 16 := by rw [List.length_append, beN_len, beN_len]
    have l1 : Hid (([67, 79, 49] ++ secL 1 key).length ≤ 5000) := by unfold Hid; rw [List.length_append, m1]; simp; omega
    have l2 : Hid (([67, 79, 49] ++ secL 1 key ++ secL 2 vary).length ≤ 10000) := by unfold Hid; have := l1.out; rw [List.length_append, m2]; omega
    have l3 : Hid (([67, 79, 49] ++ secL 1 key ++ secL 2 vary ++ secL 3 ph).length ≤ 19000) := by unfold Hid; have := l2.out; rw [List.length_append, m3]; omega
    have l4 : Hid (([67, 79, 49] ++ secL 1 key ++ secL 2 vary ++ secL 3 ph ++ secL 4 body).length ≤ 85000) := by unfold Hid; have := l3.out; rw [List.length_append, m4]; omega
    have l5 : Hid (([67, 79, 49] ++ secL 1 key ++ secL 2 vary ++ secL 3 ph ++ secL 4 body ++ secL 5 (beN 8 a ++ beN 8 g)).length ≤ 86000) := by unfold Hid; have := l4.out; rw [List.length_append, m5, m6]; omega
    have M6 := hide' m6
    have K1 := hide' k2
    have K2 := hide' k3
    have K4 := hide' k4
    have P2 := hide' p2
    clear m1 m2 m3 m4 m5 m6 ha hg k1 k2 k3 k4 k5 k6 p1 p2 f1 f2 f3 fw fb fp hk hv hb
    have hm := mark3 w2
    have X2 := hide' (fun W' hb => mark3_ext w2 W' hb)
    have bm := below_alloc' w2 (.cells #[.int .u8 67, .int .u8 79, .int .u8 49] 5 (3, 4))
    have hsz : (w2.alloc (.cells #[.int .u8 67, .int .u8 79, .int .u8 49] 5 (3, 4))).heap.size = w2.heap.size + 1 := by simp
    obtain ⟨w3, hw3⟩ : ∃ w3, w3 = w2.alloc (.cells #[.int .u8 67, .int .u8 79, .int .u8 49] 5 (3, 4)) := ⟨_, rfl⟩
    rw [← hw3] at hm bm hsz X2
    have HZ := hide' hsz
    have B3 := hide' (bt' B2.out bm)
    have OH3 := hide' (own_mono OH.out bm)
    have LT2 : Hid (W0.heap.size ≤ w2.heap.size) := B2.out.size
    obtain ⟨kv, w4, hk4, ok4⟩ := ownM_conv ⟨key.toArray⟩ w3
    replace ok4 : OwnM w3 kv key w4 := ok4
    have N4 := (show Below w3.heap.size w3 w4 from by obtain ⟨_, _, _, _, _, _, _, _, h⟩ := ok4; exact h)
    have B4 := hide' (bt' B3.out N4)
    have X4 := hide' (X2.out w4 (by rw [← HZ.out]; exact N4))
    have D4 := hide' (ownM_holds ok4)
    have T4 : Hid (Oth kv (.slice (some ⟨w2.heap.size, 0, none⟩) 3 3)) := by
      obtain ⟨gk, ck, ek, hgk, _⟩ := ok4
      unfold Hid
      refine oth_new (n := w2.heap.size + 1) (fun k e => ?_) (fun k e => ?_)
      · rw [ek] at e; obtain rfl := Option.some.inj e; rw [← HZ.out]; exact hgk
      · obtain rfl := Option.some.inj e; exact Nat.lt_succ_self _
    have OH4 := hide' (own_mono OH3.out N4)
    have TH4 : Hid (Oth hvv (.slice (some ⟨w2.heap.size, 0, none⟩) 3 3)) := by
      unfold Hid
      intro k e f
      obtain rfl := Option.some.inj f
      exact absurd ((OH.out.1.lt _ e).2 : w2.heap.size < w2.heap.size) (Nat.lt_irrefl _)
    obtain ⟨⟨x0, x1, x2, x3, x4, x5, x6, x7, x8⟩, -⟩ := cells_nine (CC.out w3 B3.out)
    clear hw3 hsz bm ok4 N4 OH OH3 X2
    go_wp2_with fail
    clear x0 x1 x2 x3 x4 x5 x6 x7 x8 c0 c1 c2 c3 c4 c5 c6 c7 c8 hm hk4
    refine (appSecC _ kv [67, 79, 49] key 0 1 rfl w4 X4.out D4.out (fun _ => T4.out) (by decide) (by decide) (by have := K1.out; omega)).mono ?_
    rintro x w5 ⟨v5, rfl, hr5, ha5⟩
    have hlo : ∀ k, (Value.slice (some ⟨w2.heap.size, 0, none⟩) 3 3).ownBlock = some k → W0.heap.size ≤ k := fun k e => by
      obtain rfl := Option.some.inj e; exact LT2.out
    have O5 := hide' (own_app B4.out hlo ha5 hr5)
    have H5 := hide' (holdsB_app (holdsB_own OH4.out) (fun _ => TH4.out) ha5)
    clear hr5 ha5 hlo X4 D4 T4 OH4 TH4
    obtain ⟨⟨x0, x1, x2, x3, x4, x5, x6, x7, x8⟩, -⟩ := cells_nine (CC.out w5 O5.out.2)
    obtain ⟨vv, w6, hk6, ok6⟩ := ownM_conv ⟨vary.toArray⟩ w5
    replace ok6 : OwnM w5 vv vary w6 := ok6
    have N6 := (show Below w5.heap.size w5 w6 from by obtain ⟨_, _, _, _, _, _, _, _, h⟩ := ok6; exact h)
    have O6 := hide' (own_mono O5.out N6)
    have D6 := hide' (ownM_holds ok6)
    have T6 : Hid (Oth vv v5) := by
      obtain ⟨gk, ck, ek, hgk, _⟩ := ok6
      unfold Hid
      refine oth_new (n := w5.heap.size) (fun k e => ?_) (fun k e => (O5.out.1.lt k e).2)
      rw [ek] at e; obtain rfl := Option.some.inj e; exact hgk
    have H6 : Hid (HoldsB w6 hvv ph ∧ (ph ≠ [] → Oth hvv v5)) := ⟨holdsB_mono H5.out.1 N6, H5.out.2⟩
    clear ok6 N6 O5 H5
    go_wp2_with fail
    clear x0 x1 x2 x3 x4 x5 x6 x7 x8 hk6
    refine (appSecC v5 vv _ vary 1 2 rfl w6 (ext_row (rw_own O6.out) (by have := l1.out; omega)) D6.out (fun _ => T6.out) (by decide) (by have := l1.out; omega) (by have := K2.out; omega)).mono ?_
    rintro x w7 ⟨v7, rfl, hr7, ha7⟩
    have O7 := hide' (own_app O6.out.2 (fun k e => (O6.out.1.lt k e).1) ha7 hr7)
    have H7 := hide' (holdsB_app H6.out.1 H6.out.2 ha7)
    clear hr7 ha7 O6 D6 T6 H6
    go_wp2_with fail
    refine (appSecC v7 hvv _ ph 2 3 rfl w7 (ext_row (rw_own O7.out) (by have := l2.out; omega)) H7.out.1 H7.out.2 (by decide) (by have := l2.out; omega) (by have := P2.out; omega)).mono ?_
    rintro x w8 ⟨v8, rfl, hr8, ha8⟩
    have O8 := hide' (own_app O7.out.2 (fun k e => (O7.out.1.lt k e).1) ha8 hr8)
    clear hr8 ha8 O7 H7
    obtain ⟨⟨x0, x1, x2, x3, x4, x5, x6, x7, x8⟩, -⟩ := cells_nine (CC.out w8 O8.out.2)
    go_wp2_with fail
    clear x0 x1 x2 x3 x4 x5 x6 x7 x8
    refine (appSecC v8 (.slice ba body.length bc) _ body 3 4 rfl w8 (ext_row (rw_own O8.out) (by have := l3.out; omega)) (holdsB_mono HD.out O8.out.2) (fun h => oth_old HD.out (fun k e => (O8.out.1.lt k e).1) h) (by decide) (by have := l3.out; omega) (by have := K4.out; omega)).mono ?_
    rintro x w9 ⟨v9, rfl, hr9, ha9⟩
    have O9 := hide' (own_app O8.out.2 (fun k e => (O8.out.1.lt k e).1) ha9 hr9)
    clear hr9 ha9 O8
    obtain ⟨⟨x0, x1, x2, x3, x4, x5, x6, x7, x8⟩, -⟩ := cells_nine (CC.out w9 O9.out.2)
    go_wp2_with fail
    clear x0 x1 x2 x3 x4 x5 x6 x7 x8
    refine (cT.out w9 (bt' B0.out O9.out.2)).mono ?_
    rintro x wa ⟨va, rfl, hoa⟩
    have TA := hide' (oth_new (n := w9.heap.size) (fun k e => (hoa.1.lt k e).1) (fun k e => (O9.out.1.lt k e).2))
    have Oa := hide' (own_mono O9.out hoa.2)
    have DA := hide' (holdsB_own hoa)
    clear hoa O9
    go_wp2_with fail
    refine (appSecC v9 va _ _ 4 5 rfl wa (ext_row (rw_own Oa.out) (by have := l4.out; omega)) DA.out (fun _ => TA.out) (by decide) (by have := l4.out; omega) (by rw [M6.out]; decide)).mono ?_
    rintro x wb ⟨vb, rfl, hrb, hab⟩
    have Ob := hide' (own_app Oa.out.2 (fun k e => (Oa.out.1.lt k e).1) hab hrb)
    clear hrb hab Oa DA TA
    rw [← EB.out] at Ob l5
    generalize OB ph = LL at Ob l5 EL
    have cS := hide' (sumC vb LL wb (holdsB_own Ob.out) (by have := l5.out; omega))
    have SL := sumOf_lt LL
    have cN := hide' (appNumC vb LL wb (sumOf LL) 4 (rw_own Ob.out) (by decide) (by have := l5.out; omega))
    generalize sumOf LL = sm at cS cN SL EL
    go_wp2_with fail
    refine cS.out.mono ?_
    rintro x wz ⟨rfl, ew⟩
    rw [ew]
    clear ew wz
    go_wp2_with fail
    refine cN.out.mono ?_
    rintro x wc ⟨vc, rfl, hrc, hac⟩
    have Oc := hide' (own_app Ob.out.2 (fun k e => (Ob.out.1.lt k e).1) hac hrc)
    clear hrc hac Ob
    go_wp2_with fail
    exact bodyPost_ret (v := .tuple #[vc, .int .i64 0]) (by simp [results, Tryz.results10, go_sem]) rfl ⟨vc, by rw [EQ.out], by rw [EQ.out, EL.out]; exact own_base Oc.out B0.out⟩
  · have EQ : Hid (R = ([], 120)) := f2.out hpe
    have hd : (pe != 0) = true := by simpa using hpe
    clear hpe
    go_wp2_with fail
    exact bodyPost_ret (v := .tuple #[.slice none 0 0, .int .i64 120]) (by simp [results, Tryz.results10, go_sem]) rfl ⟨.slice none 0 0, by rw [EQ.out], by rw [EQ.out]; exact own_nil w _ (bt' B0.out B2.out)⟩
end Go.Proofs.YtenegcoapejbmaaGreatDoor
