/- The contract of the document's Encode. -/
import Derived.Test.YtenegcoapejbmaaGreatDoorObG
import Derived.Test.YtenegcoapejbmaaGreatDoorObF
import Derived.Test.YtenegcoapejbmaaGreatDoorHdZ
namespace Go.Proofs.YtenegcoapejbmaaGreatDoor
open Go.RowKit
set_option maxRecDepth 20000 in
set_option maxHeartbeats 8000000 in
theorem encORC (e : En) (lv bv : Value) (w : World) (hF : HoldsF w lv e.r.fs) (hB : HoldsB w bv e.body) (hfit : Fit e.r.fs) (hl : e.r.fs.length ≤ 2000000) (hP : (printOf e.r.fs).length ≤ 8000000) (hr : e.r.r.length ≤ 10000000) (hk : e.key.length ≤ 1000000000000) (hv : e.vary.length ≤ 1000000000000) (hb : e.body.length ≤ 1000000000000) :
    Calls Tryz.prog 16 #[entV e lv bv] w fun x w' => ∃ u, x = .returned (.tuple #[u, .int .i64 (objOf e).2]) ∧ Own w u (objOf e).1 w' := by
  obtain ⟨la, lc, _, _, e1, _⟩ := holdsF_parts hF
  obtain ⟨ba, bc, e2, _⟩ := holdsB_parts hB
  subst e1 e2
  have cP := hide' (fun W (hb' : Below w.heap.size w W) => printRsRef e.r.s e.r.k e.r.r e.r.fs _ W (holdsF_mono hF hb') hfit hl hP hr)
  have HB := hide' hB
  obtain ⟨R, hR⟩ : ∃ R, R = objOf e := ⟨_, rfl⟩
  rw [← hR]
  have f1 := hide' (fun h => hR.trans (obj_no (e := e) h))
  have f2 := hide' (fun h => hR.trans (obj_no2 (e := e) h))
  have f3 := hide' (fun h h2 => hR.trans (obj_yes (e := e) h h2))
  have g1 := hide' (fun h => within_1 (e := e) h)
  have g2 := hide' (fun h => within_2 (e := e) h)
  have g3 := hide' (fun h => within_3 (e := e) h)
  have g4 := hide' (fun h => within_4 (e := e) h)
  have g5 := hide' (fun h => within_5 (e := e) h)
  have g6 := hide' (fun h => within_6 (e := e) h)
  have g7 := hide' (fun h1 h2 h3 h4 h5 h6 => within_7 (e := e) h1 h2 h3 h4 h5 h6)
  have t1 := hide' (fun W => timeRC e.a W)
  have t2 := hide' (fun W => timeRC e.g W)
  have fw := hide' (fun h => within_facts (e := e) h)
  have fb := hide' (fun h a g ha hg => obj_body e h a g ha hg)
  have fp := hide' (fun w h => prR_pos e.r w h)
  clear hR hF hB hfit hP hr hl
  have EL : Hid (∀ h, objL e h = objB e h ++ beN 4 (sumOf (objB e h))) := fun _ => rfl
  unfold entV
  generalize hPR : prR e.r = PR at *
  generalize hWL : withinL e = wl at *
  generalize hOB : objB e = OB at *
  generalize hOL : objL e = OL at *
  clear hPR hWL hOB hOL
  obtain ⟨key, vary, ⟨s, r, k, fs⟩, body, a0, g0⟩ := e
  dsimp only at *
  obtain ⟨ph, pe⟩ := PR
  dsimp only at *
  have b0 := below_alloc' w (.cells #[.string ⟨key.toArray⟩, .string ⟨vary.toArray⟩, .int .i64 s, .string ⟨r.toArray⟩, .int .i64 k, .slice la fs.length lc, .slice ba body.length bc, .int .i64 a0, .int .i64 g0] 29)
  have q0 := cells_lit w #[.string ⟨key.toArray⟩, .string ⟨vary.toArray⟩, .int .i64 s, .string ⟨r.toArray⟩, .int .i64 k, .slice la fs.length lc, .slice ba body.length bc, .int .i64 a0, .int .i64 g0] 29
  obtain ⟨W0, hW0⟩ : ∃ W0, W0 = w.alloc (.cells #[.string ⟨key.toArray⟩, .string ⟨vary.toArray⟩, .int .i64 s, .string ⟨r.toArray⟩, .int .i64 k, .slice la fs.length lc, .slice ba body.length bc, .int .i64 a0, .int .i64 g0] 29) := ⟨_, rfl⟩
  have HW0 := hide' hW0
  rw [← hW0] at b0 q0
  obtain ⟨q, hq⟩ : ∃ q, q = w.heap.size := ⟨_, rfl⟩
  have HQ := hide' hq
  rw [← hq] at q0
  have B0 := hide' b0
  have HD := hide' (holdsB_mono HB.out b0)
  have CC : Hid (∀ W, Below W0.heap.size W0 W → Blk q W [.string ⟨key.toArray⟩, .string ⟨vary.toArray⟩, .int .i64 s, .string ⟨r.toArray⟩, .int .i64 k, .slice la fs.length lc, .slice ba body.length bc, .int .i64 a0, .int .i64 g0]) := fun W hb => cells_below q0 hb
  clear hW0 hq b0 HB
  obtain ⟨⟨c0, c1, c2, c3, c4, c5, c6, c7, c8⟩, -⟩ := cells_nine (CC.out W0 (Below.refl _ _))
  go_enter Tryz.func16, Tryz.ntmps16
  go_wp2_with fail
  rw [← HW0.out, ← HQ.out]
  refine (cP.out _ B0.out).mono ?_
  rintro x w2 ⟨hvv, rfl, hh2, hb2⟩
  have B2 := hide' hb2
  have OH := hide' hh2
  clear c0 c1 c2 c3 c4 c5 c6 c7 c8 hh2 hb2 cP
  obtain ⟨⟨c0, c1, c2, c3, c4, c5, c6, c7, c8⟩, -⟩ := cells_nine (CC.out w2 B2.out)
  have sk : (⟨key.toArray⟩ : ByteArray).size = key.length := size_l key
  have sv : (⟨vary.toArray⟩ : ByteArray).size = vary.length := size_l vary
  by_cases hpe : ¬ pe = 0
  · have EQ : Hid (R = ([], 120)) := f2.out hpe
    have hd : (pe != 0) = true := by simpa using hpe
    clear hpe
    go_wp2_with fail
    exact bodyPost_ret (v := .tuple #[.slice none 0 0, .int .i64 120]) (by simp [results, Tryz.results16, go_sem]) rfl ⟨.slice none 0 0, by rw [EQ.out], by rw [EQ.out]; exact own_nil w _ (bt' B0.out B2.out)⟩
  have hpe' : pe = 0 := by simpa using hpe
  subst hpe'
  clear hpe
  by_cases q1 : ¬ 1 ≤ key.length
  · have EQ : Hid (R = ([], 120)) := f1.out (g1.out (by simpa using q1))
    have d1 : decide ((key.length : Int) < 1) = true := by simp; omega
    clear q1
    go_wp2_with fail
    exact bodyPost_ret (v := .tuple #[.slice none 0 0, .int .i64 120]) (by simp [results, Tryz.results16, go_sem]) rfl ⟨.slice none 0 0, by rw [EQ.out], by rw [EQ.out]; exact own_nil w _ (bt' B0.out B2.out)⟩
  have d1 : decide ((key.length : Int) < 1) = false := by simp; omega
  have e1 : Hid (decide (1 ≤ key.length) = true) := by unfold Hid; simp; omega
  clear q1
  by_cases q2 : ¬ key.length ≤ 4096
  · have EQ : Hid (R = ([], 120)) := f1.out (g2.out (by simpa using q2))
    have d2 : decide ((4096 : Int) < (key.length : Int)) = true := by simp; omega
    clear q2
    go_wp2_with fail
    exact bodyPost_ret (v := .tuple #[.slice none 0 0, .int .i64 120]) (by simp [results, Tryz.results16, go_sem]) rfl ⟨.slice none 0 0, by rw [EQ.out], by rw [EQ.out]; exact own_nil w _ (bt' B0.out B2.out)⟩
  have d2 : decide ((4096 : Int) < (key.length : Int)) = false := by simp; omega
  have e2 : Hid (decide (key.length ≤ 4096) = true) := by unfold Hid; simp; omega
  clear q2
  by_cases q3 : ¬ vary.length ≤ 4096
  · have EQ : Hid (R = ([], 120)) := f1.out (g3.out (by simpa using q3))
    have d3 : decide ((4096 : Int) < (vary.length : Int)) = true := by simp; omega
    clear q3
    go_wp2_with fail
    exact bodyPost_ret (v := .tuple #[.slice none 0 0, .int .i64 120]) (by simp [results, Tryz.results16, go_sem]) rfl ⟨.slice none 0 0, by rw [EQ.out], by rw [EQ.out]; exact own_nil w _ (bt' B0.out B2.out)⟩
  have d3 : decide ((4096 : Int) < (vary.length : Int)) = false := by simp; omega
  have e3 : Hid (decide (vary.length ≤ 4096) = true) := by unfold Hid; simp; omega
  clear q3
  by_cases q4 : ¬ body.length ≤ 65536
  · have EQ : Hid (R = ([], 120)) := f1.out (g4.out (by simpa using q4))
    have d4 : decide ((65536 : Int) < (body.length : Int)) = true := by simp; omega
    clear q4
    go_wp2_with fail
    exact bodyPost_ret (v := .tuple #[.slice none 0 0, .int .i64 120]) (by simp [results, Tryz.results16, go_sem]) rfl ⟨.slice none 0 0, by rw [EQ.out], by rw [EQ.out]; exact own_nil w _ (bt' B0.out B2.out)⟩
  have d4 : decide ((65536 : Int) < (body.length : Int)) = false := by simp; omega
  have e4 : Hid (decide (body.length ≤ 65536) = true) := by unfold Hid; simp; omega
  clear q4
  go_wp2_with fail
  refine (t1.out _).mono ?_
  rintro x wz ⟨rfl, ew⟩
  rw [ew]
  clear ew wz
  cases h5 : goodTm a0 with
  | false =>
    have EQ : Hid (R = ([], 120)) := f1.out (g5.out h5)
    clear h5
    go_wp2_with fail
    exact bodyPost_ret (v := .tuple #[.slice none 0 0, .int .i64 120]) (by simp [results, Tryz.results16, go_sem]) rfl ⟨.slice none 0 0, by rw [EQ.out], by rw [EQ.out]; exact own_nil w _ (bt' B0.out B2.out)⟩
  | true =>
  have e5 := hide' h5
  clear h5
  go_wp2_with fail
  refine (t2.out _).mono ?_
  rintro x wz ⟨rfl, ew⟩
  rw [ew]
  clear ew wz
  cases h6 : goodTm g0 with
  | false =>
    have EQ : Hid (R = ([], 120)) := f1.out (g6.out h6)
    clear h6
    go_wp2_with fail
    exact bodyPost_ret (v := .tuple #[.slice none 0 0, .int .i64 120]) (by simp [results, Tryz.results16, go_sem]) rfl ⟨.slice none 0 0, by rw [EQ.out], by rw [EQ.out]; exact own_nil w _ (bt' B0.out B2.out)⟩
  | true =>
  have WL := hide' (g7.out e1.out e2.out e3.out e4.out e5.out h6)
  clear h6
  have EQ : Hid (R = (OL ph, 0)) := f3.out WL.out (by trivial)
  obtain ⟨k1, k2, k3, k4, k5, k6⟩ := fw.out WL.out
  obtain ⟨p1, p2⟩ := fp.out ph (by first | trivial | rfl)
  obtain ⟨a, ha⟩ : ∃ a : Nat, (a : Int) = a0 := ⟨a0.toNat, by omega⟩
  obtain ⟨g, hg⟩ : ∃ g : Nat, (g : Int) = g0 := ⟨g0.toNat, by omega⟩
  have EB := hide' (fb.out ph a g ha hg)
  replace EL := hide' (EL.out ph)
  have LK : Hid (ph ≠ []) := by unfold Hid; intro h; rw [h] at p1; exact absurd p1 (by decide)
  have m1 := secL_len 1 key
  have m2 := secL_len 2 vary
  have m3 := secL_len 3 ph
  have m4 := secL_len 4 body
  have m5 := secL_len 5 (beN 8 a ++ beN 8 g)
  have m6 : (beN 8 a ++ beN 8 g).length = 16 := by rw [List.length_append, beN_len, beN_len]
  have l1 : Hid (([67, 79, 49] ++ secL 1 key).length ≤ 5000) := by unfold Hid; rw [List.length_append, m1]; simp; omega
  have l2 : Hid (([67, 79, 49] ++ secL 1 key ++ secL 2 vary).length ≤ 10000) := by unfold Hid; have := l1.out; rw [List.length_append, m2]; omega
  have l3 : Hid (([67, 79, 49] ++ secL 1 key ++ secL 2 vary ++ secL 3 ph).length ≤ 19000) := by unfold Hid; have := l2.out; rw [List.length_append, m3]; omega
  have l4 : Hid (([67, 79, 49] ++ secL 1 key ++ secL 2 vary ++ secL 3 ph ++ secL 4 body).length ≤ 85000) := by unfold Hid; have := l3.out; rw [List.length_append, m4]; omega
  have l5 : Hid (([67, 79, 49] ++ secL 1 key ++ secL 2 vary ++ secL 3 ph ++ secL 4 body ++ secL 5 (beN 8 a ++ beN 8 g)).length ≤ 86000) := by unfold Hid; have := l4.out; rw [List.length_append, m5, m6]; omega
  have M6 := hide' m6
  have K1 := hide' k2
  have K2 := hide' k3
  have K4 := hide' k4
  have P2 := hide' p2
  have cA := hide' (fun W => number8RC a W (by omega))
  have cG := hide' (fun W => number8RC g W (by omega))
  rw [← ha] at c7
  have HA := hide' ha
  have HG := hide' hg
  clear m1 m2 m3 m4 m5 m6 ha hg k1 k2 k3 k4 k5 k6 p1 p2 f1 f2 f3 fw fb fp hk hv hb d1 d2 d3 d4 e1 e2 e3 e4 e5 WL g1 g2 g3 g4 g5 g6 g7 t1 t2 sk sv
  go_wp2_with fail
  refine (cA.out w2).mono ?_
  rintro x w3 ⟨tv, rfl, ho3⟩
  have B3 := hide' (bt' B2.out ho3.2)
  have OT3 := hide' (own_base ho3 B2.out)
  have OH3 := hide' (holdsB_mono OH.out ho3.2)
  have TT3 : Hid (ph ≠ [] → Oth hvv tv) := fun h => oth_old OH.out (fun k e => (ho3.1.lt k e).1) h
  clear c0 c1 c2 c3 c4 c5 c6 c7 c8 ho3 OH
  obtain ⟨⟨c0, c1, c2, c3, c4, c5, c6, c7, c8⟩, -⟩ := cells_nine (CC.out w3 B3.out)
  rw [← HG.out] at c8
  go_wp2_with fail
  refine (cG.out w3).mono ?_
  rintro x w4 ⟨gv, rfl, ho4⟩
  have B4 := hide' (bt' B3.out ho4.2)
  have OT4 := hide' (own_mono OT3.out ho4.2)
  have GG4 := hide' (holdsB_own ho4)
  have OH4 := hide' (holdsB_mono OH3.out ho4.2)
  clear c0 c1 c2 c3 c4 c5 c6 c7 c8 ho4 OH3 OT3
  go_wp2_with (at_builtin; refine appAllE rfl (.tmp 55) (.tmp 58) rfl tv _ rfl (rw_own OT4.out) gv _ rfl GG4.out (by rw [beN_len, beN_len]; decide) ?_; intro u5 w5 hr5 ha5; have OT5 := hide' (own_app B4.out (fun k e => (OT4.out.1.lt k e).1) ha5 hr5); have OH5 := hide' (holdsB_app OH4.out TT3.out ha5); clear hr5 ha5 OT4 GG4 OH4 B4 TT3; have hm := mark3 w5; have X5 := hide' (fun W' hb => mark3_ext w5 W' hb); have bm := below_alloc' w5 (.cells #[.int .u8 67, .int .u8 79, .int .u8 49] 5 (3, 4)); have hsz : (w5.alloc (.cells #[.int .u8 67, .int .u8 79, .int .u8 49] 5 (3, 4))).heap.size = w5.heap.size + 1 := (by simp); obtain ⟨w6, hw6⟩ : ∃ w6, w6 = w5.alloc (.cells #[.int .u8 67, .int .u8 79, .int .u8 49] 5 (3, 4)) := ⟨_, rfl⟩; rw [← hw6] at hm bm hsz X5; have HZ := hide' hsz; have BM := hide' bm; have B6 := hide' (bt' OT5.out.2 bm); clear hw6 hsz bm; obtain ⟨⟨x0, x1, x2, x3, x4, x5, x6, x7, x8⟩, -⟩ := cells_nine (CC.out w6 B6.out); obtain ⟨kv, w7, hk7, ok7⟩ := ownM_conv ⟨key.toArray⟩ w6; replace ok7 : OwnM w6 kv key w7 := ok7; have OK7 := hide' ok7; clear ok7)
  clear x0 x1 x2 x3 x4 x5 x6 x7 x8 hm hk7
  have N7 := (show Below w6.heap.size w6 w7 from by obtain ⟨_, _, _, _, _, _, _, _, h⟩ := OK7.out; exact h)
  have B7 := hide' (bt' B6.out N7)
  have X7 := hide' (X5.out w7 (by rw [← HZ.out]; exact N7))
  have D7 := hide' (ownM_holds OK7.out)
  have LT : Hid (∀ k, (Value.slice (some ⟨w5.heap.size, 0, none⟩) 3 3).ownBlock = some k → W0.heap.size ≤ k) := fun k e => by
    obtain rfl := Option.some.inj e; exact OT5.out.2.size
  have T7 : Hid (Oth kv (.slice (some ⟨w5.heap.size, 0, none⟩) 3 3)) := by
    obtain ⟨gk, ck, ek, hgk, _⟩ := OK7.out
    unfold Hid
    refine oth_new (n := w5.heap.size + 1) (fun k e => ?_) (fun k e => ?_)
    · rw [ek] at e; obtain rfl := Option.some.inj e; rw [← HZ.out]; exact hgk
    · obtain rfl := Option.some.inj e; exact Nat.lt_succ_self _
  have H7 : Hid (HoldsB w7 hvv ph ∧ (ph ≠ [] → Oth hvv (.slice (some ⟨w5.heap.size, 0, none⟩) 3 3))) := ⟨holdsB_mono (holdsB_mono OH5.out.1 BM.out) N7, fun h => oth_old OH5.out.1 (fun k e => by obtain rfl := Option.some.inj e; exact Nat.le_refl _) h⟩
  have HT7 : Hid (HoldsB w7 u5 (beN 8 a ++ beN 8 g) ∧ (beN 8 a ++ beN 8 g ≠ [] → Oth u5 (.slice (some ⟨w5.heap.size, 0, none⟩) 3 3))) := ⟨holdsB_mono (holdsB_mono (holdsB_own OT5.out) BM.out) N7, fun h => oth_old (holdsB_own OT5.out) (fun k e => by obtain rfl := Option.some.inj e; exact Nat.le_refl _) h⟩
  clear OK7 N7 B6 X5 BM OH5 OT5
  refine (sectionRC _ kv [67, 79, 49] key 1 w7 X7.out D7.out (fun _ => T7.out) (by decide) (by decide) (by have := K1.out; omega)).mono ?_
  rintro x w8 ⟨v8, rfl, hr8, ha8⟩
  have O8 := hide' (own_app B7.out LT.out ha8 hr8)
  have H8 := hide' (holdsB_app H7.out.1 H7.out.2 ha8)
  have HT8 := hide' (holdsB_app HT7.out.1 HT7.out.2 ha8)
  clear hr8 ha8 X7 D7 T7 H7 HT7 LT B7
  obtain ⟨⟨x0, x1, x2, x3, x4, x5, x6, x7, x8⟩, -⟩ := cells_nine (CC.out w8 O8.out.2)
  obtain ⟨vv, w9, hk9, ok9⟩ := ownM_conv ⟨vary.toArray⟩ w8
  replace ok9 : OwnM w8 vv vary w9 := ok9
  have N9 := (show Below w8.heap.size w8 w9 from by obtain ⟨_, _, _, _, _, _, _, _, h⟩ := ok9; exact h)
  have O9 := hide' (own_mono O8.out N9)
  have D9 := hide' (ownM_holds ok9)
  have T9 : Hid (Oth vv v8) := by
    obtain ⟨gk, ck, ek, hgk, _⟩ := ok9
    unfold Hid
    refine oth_new (n := w8.heap.size) (fun k e => ?_) (fun k e => (O8.out.1.lt k e).2)
    rw [ek] at e; obtain rfl := Option.some.inj e; exact hgk
  have H9 : Hid (HoldsB w9 hvv ph ∧ (ph ≠ [] → Oth hvv v8)) := ⟨holdsB_mono H8.out.1 N9, H8.out.2⟩
  have HT9 : Hid (HoldsB w9 u5 (beN 8 a ++ beN 8 g) ∧ (beN 8 a ++ beN 8 g ≠ [] → Oth u5 v8)) := ⟨holdsB_mono HT8.out.1 N9, HT8.out.2⟩
  clear ok9 N9 O8 H8 HT8
  go_wp2_with fail
  clear x0 x1 x2 x3 x4 x5 x6 x7 x8 hk9
  refine (sectionRC v8 vv _ vary 2 w9 (ext_row (rw_own O9.out) (by have := l1.out; omega)) D9.out (fun _ => T9.out) (by decide) (by have := l1.out; omega) (by have := K2.out; omega)).mono ?_
  rintro x wa ⟨va, rfl, hra, haa⟩
  have Oa := hide' (own_app O9.out.2 (fun k e => (O9.out.1.lt k e).1) haa hra)
  have Ha := hide' (holdsB_app H9.out.1 H9.out.2 haa)
  have HTa := hide' (holdsB_app HT9.out.1 HT9.out.2 haa)
  clear hra haa O9 D9 T9 H9 HT9
  go_wp2_with fail
  refine (sectionRC va hvv _ ph 3 wa (ext_row (rw_own Oa.out) (by have := l2.out; omega)) Ha.out.1 Ha.out.2 (by decide) (by have := l2.out; omega) (by have := P2.out; omega)).mono ?_
  rintro x wb ⟨vb, rfl, hrb, hab⟩
  have Ob := hide' (own_app Oa.out.2 (fun k e => (Oa.out.1.lt k e).1) hab hrb)
  have HTb := hide' (holdsB_app HTa.out.1 HTa.out.2 hab)
  clear hrb hab Oa Ha HTa
  obtain ⟨⟨x0, x1, x2, x3, x4, x5, x6, x7, x8⟩, -⟩ := cells_nine (CC.out wb Ob.out.2)
  go_wp2_with fail
  clear x0 x1 x2 x3 x4 x5 x6 x7 x8
  refine (sectionRC vb (.slice ba body.length bc) _ body 4 wb (ext_row (rw_own Ob.out) (by have := l3.out; omega)) (holdsB_mono HD.out Ob.out.2) (fun h => oth_old HD.out (fun k e => (Ob.out.1.lt k e).1) h) (by decide) (by have := l3.out; omega) (by have := K4.out; omega)).mono ?_
  rintro x wc ⟨vc, rfl, hrc, hac⟩
  have Oc := hide' (own_app Ob.out.2 (fun k e => (Ob.out.1.lt k e).1) hac hrc)
  have HTc := hide' (holdsB_app HTb.out.1 HTb.out.2 hac)
  clear hrc hac Ob HTb
  go_wp2_with fail
  refine (sectionRC vc u5 _ _ 5 wc (ext_row (rw_own Oc.out) (by have := l4.out; omega)) HTc.out.1 HTc.out.2 (by decide) (by have := l4.out; omega) (by rw [M6.out]; decide)).mono ?_
  rintro x wd ⟨vd, rfl, hrd, had⟩
  have Od := hide' (own_app Oc.out.2 (fun k e => (Oc.out.1.lt k e).1) had hrd)
  clear hrd had Oc HTc
  rw [← EB.out] at Od l5
  generalize OB ph = LL at Od l5 EL
  have cS := hide' (sumRC vd LL wd (holdsB_own Od.out) (by have := l5.out; omega))
  have SL := sumOf_lt LL
  have cN := hide' (number4RC (sumOf LL) wd SL)
  have L4 : Hid (∀ z, (beN 4 z).length = 4) := fun z => beN_len 4 z
  generalize sumOf LL = sm at cS cN SL EL
  go_wp2_with fail
  refine cS.out.mono ?_
  rintro x wz ⟨rfl, ew⟩
  rw [ew]
  clear ew wz
  go_wp2_with fail
  refine cN.out.mono ?_
  rintro x we ⟨ve, rfl, hoe⟩
  have Oe := hide' (own_mono Od.out hoe.2)
  have He := hide' (holdsB_own hoe)
  clear hoe Od
  go_wp2_with (at_builtin; refine appAllE rfl (.tmp 82) (.tmp 85) rfl vd _ rfl (rw_own Oe.out) ve _ rfl He.out (by have := l5.out; rw [L4.out]; omega) ?_; intro vf wf hrf haf; have Of := hide' (own_app Oe.out.2 (fun k e => (Oe.out.1.lt k e).1) haf hrf); clear hrf haf)
  exact bodyPost_ret (v := .tuple #[vf, .int .i64 0]) (by simp [results, Tryz.results16, go_sem]) rfl ⟨vf, by rw [EQ.out], by rw [EQ.out, EL.out]; exact own_base Of.out B0.out⟩
end Go.Proofs.YtenegcoapejbmaaGreatDoor
