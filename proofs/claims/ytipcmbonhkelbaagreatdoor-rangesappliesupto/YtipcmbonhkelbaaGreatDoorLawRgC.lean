/- The walk of RangesApplies. -/
import Derived.Test.YtipcmbonhkelbaaGreatDoorLawRgS
import Derived.Deep.RegionHeld3
import Derived.Deep.DeepCutAuto
import Derived.Deep.Cut
namespace Go.Proofs.YtipcmbonhkelbaaGreatDoor
open Go.RowKit
set_option maxHeartbeats 8000000 in
set_option maxRecDepth 20000 in
theorem appliesW (av : Value) (ask : FL) (s k : Int) (zr : List UInt8) (lv : Value) (fs : FL) (v : Value) (body : List UInt8) (w : World) (ha : HoldsF w av ask) (hv : HoldsF w lv fs) (hB : HoldsB w v body) (hb : bulkF ask + bulkF fs + body.length ≤ 1048576) (hz : zr.length ≤ 1048576) (E : EvD w) (T : Tab w) :
    Calls Tryz.prog 4 #[av, .agg #[.int .i64 s, .string ⟨zr.toArray⟩, .int .i64 k, lv], v] w fun e w' => e = .returned (.bool true) ∧ Below w.heap.size w w' := by
  have fl := bulkF_len fs
  have al := bulkF_len ask
  obtain ⟨l1, l2, l3⟩ := appR_len dtF ask fs s k zr body (by omega) (by omega)
  have c0 := hide' (fun W (h : Below w.heap.size w W) => aliveRg dtF W (parseIs W (evD_below E h)) (applyIs W (evD_below E h) (tab_below T h)))
  obtain ⟨r, hr⟩ : ∃ r, r = appR dtF ask s zr k fs body := ⟨_, rfl⟩
  rw [← hr] at l1 l2 l3
  have kA := hide' (fun (W W' : World) (ps : List (Nat × List Value)) (fl : List (Value × FL)) (bl : List (Value × List UInt8)) (S : RgSt w W ps fl bl) (a u x : Value) (h1 : (a, ask) ∈ fl) (h2 : (u, fs) ∈ fl) (h3 : (x, body) ∈ bl) (hW : W' = W.alloc (.cells #[.int .i64 0, .string ⟨#[]⟩, .int .i64 0, .slice none 0 0] 31) ∨ W' = (W.alloc (.cells #[.int .i64 0, .string ⟨#[]⟩, .int .i64 0, .slice none 0 0] 31)).drew) => gst_applyX (applyOwn w E T) S h1 h2 h3 s k zr (by omega) (by omega) r hr.symm hW)
  have kA2 := hide' (fun (W : World) (ps : List (Nat × List Value)) (fl : List (Value × FL)) (bl : List (Value × List UInt8)) (S : RgSt w W ps fl bl) (a u x : Value) (h1 : (a, ask) ∈ fl) (h2 : (u, fs) ∈ fl) (h3 : (x, body) ∈ bl) => gst_apply (applyIs w E T) S h1 h2 h3 s k zr (by omega) (by omega) r hr.symm)
  have kR := hide' (fun a u x W (h1 : HoldsF W a ask) (h2 : HoldsF W u fs) (h3 : HoldsB W x body) => applyRG s k zr a u x ask fs body dtF W h1 h2 h3 hb (dtF_spec _ (by have := getJ_len fs lmN; omega)).2 r hr.symm)
  have kF := hide' (fun u W (hu : HoldsF W u ask) => copyF u ask W hu (by omega))
  have kC := hide' (fun u W (hu : HoldsF W u fs) => copyRs s k zr fs u W hu (by omega))
  have kS := hide' (fun u x W (hu : HoldsF W u fs) (hx : HoldsF W x fs) => sameRs s k zr fs u x W hu hx (by omega))
  have kG := hide' (fun u x W (hu : HoldsF W u ask) (hx : HoldsF W x ask) => sameFv u x ask W hu hx (by omega))
  have kP := hide' (fun u W (hu : HoldsB W u body) => spareC u body W hu (by omega))
  have kQ := hide' (fun u x W (hu : HoldsB W u (body ++ mks)) (hx : HoldsB W x (body ++ mks)) => sameBe u x (body ++ mks) W hu hx (by rw [List.length_append, show mks.length = 8 from rfl]; omega))
  clear hr
  obtain ⟨rs, rz, rk, rf, rb⟩ := r
  dsimp only at l1 l2 l3 kA kA2 kR
  have kT := hide' (fun u x W (hu : HoldsF W u rf) (hx : HoldsF W x rf) => sameRs rs rk rz rf u x W hu hx (by omega))
  have kB := hide' (fun u x W (hu : HoldsB W u rb) (hx : HoldsB W x rb) => sameBe u x rb W hu hx (by omega))
  obtain ⟨la, lc, _, _, el, -⟩ := holdsF_parts hv
  obtain ⟨aa, ac, _, _, ea, -⟩ := holdsF_parts ha
  obtain ⟨ba, bc, eb, _⟩ := id hB
  subst el ea eb
  have H0 := hide' hv
  have HA := hide' ha
  have HB := hide' hB
  obtain ⟨n, hn⟩ : ∃ n, n = fs.length := ⟨_, rfl⟩
  have N := hide' hn.symm
  obtain ⟨na, hna⟩ : ∃ na, na = ask.length := ⟨_, rfl⟩
  have NA := hide' hna.symm
  obtain ⟨bl, hbl⟩ : ∃ bl, bl = body.length := ⟨_, rfl⟩
  have BL := hide' hbl.symm
  obtain ⟨nr, hnr⟩ : ∃ nr, nr = rf.length := ⟨_, rfl⟩
  have NR := hide' hnr.symm
  obtain ⟨nb, hnb⟩ : ∃ nb, nb = rb.length := ⟨_, rfl⟩
  have NB := hide' hnb.symm
  rw [N.out] at H0 ⊢
  rw [NA.out] at HA ⊢
  rw [BL.out] at HB ⊢
  clear hv ha hB hn hna hbl hnr hnb E T hz
  generalize (⟨zr.toArray⟩ : ByteArray) = Z at kA kA2 kR kC kS ⊢
  generalize (⟨rz.toArray⟩ : ByteArray) = RZ at kA kA2 kR kT
  have S0 := gst_alloc (w := w) (W := w) (ps := []) (fl := [(.slice aa na ac, ask), (.slice la n lc, fs)]) (bl := [(.slice ba bl bc, body)]) ⟨Below.refl _ _, fun p hp => (by cases hp), fun p hp => (by
    rcases List.mem_cons.1 hp with rfl | hp
    · exact HA.out
    · obtain rfl := List.mem_singleton.1 hp; exact H0.out), fun p hp => (by obtain rfl := List.mem_singleton.1 hp; exact HB.out)⟩ #[.int .i64 s, .string Z, .int .i64 k, .slice la n lc] 31
  obtain ⟨g0, hg0⟩ : ∃ g0, g0 = w.heap.size := ⟨_, rfl⟩
  obtain ⟨W1, hW1⟩ : ∃ W1, W1 = w.alloc (.cells #[.int .i64 s, .string Z, .int .i64 k, .slice la n lc] 31) := ⟨_, rfl⟩
  rw [← hW1] at S0
  rw [← hg0] at S0
  have S1 := hide' (show RgSt w W1 [(g0, [.int .i64 s, .string Z, .int .i64 k, .slice la n lc])] [(.slice aa na ac, ask), (.slice la n lc, fs)] [(.slice ba bl bc, body)] from by rw [hg0] at S0 ⊢; exact S0)
  have HW := hide' hW1
  have HG := hide' hg0
  clear S0 hW1 hg0 H0 HA HB
  go_enter Tryz.func4, Tryz.ntmps4
  go_upto_region 1 with fail
  rw [← HW.out, ← HG.out]
  go_wp2_with fail
  refine (c0.out _ S1.out.bel).mono ?_
  rintro e w2 ⟨rfl, b2⟩
  have S2 := hide' (gst_below S1.out b2)
  clear b2 S1 HW
  go_wp2_with fail
  refine (kF.out _ _ (S2.out.fld (.slice aa na ac, ask) (by simp))).mono ?_
  rintro e w3 ⟨u3, rfl, ho⟩
  have hx := holdsF_own ho
  obtain ⟨qa, qc, _, _, eq, -⟩ := holdsF_parts hx
  rw [NA.out] at eq
  rw [eq] at hx ⊢
  have S3 := hide' (gst_fld (gst_below S2.out ho.2) hx)
  clear ho hx eq S2
  obtain ⟨i0, i1, i2, i3, iz⟩ := blk4 (S3.out.blk _ List.mem_cons_self)
  go_wp2_with fail
  refine (kC.out _ _ (S3.out.fld (.slice la n lc, fs) (by simp))).mono ?_
  rintro e w4 ⟨u4, rfl, ho⟩
  have hx := holdsF_own ho
  obtain ⟨oa, oc, _, _, eo, -⟩ := holdsF_parts hx
  rw [N.out] at eo
  rw [eo] at hx ⊢
  have S4 := gst_alloc (gst_fld (gst_below S3.out ho.2) hx) #[.int .i64 s, .string Z, .int .i64 k, .slice oa n oc] 31
  obtain ⟨g8, hg8⟩ : ∃ g8, g8 = w4.heap.size := ⟨_, rfl⟩
  obtain ⟨W5, hW5⟩ : ∃ W5, W5 = w4.alloc (.cells #[.int .i64 s, .string Z, .int .i64 k, .slice oa n oc] 31) := ⟨_, rfl⟩
  rw [← hW5, ← hg8] at S4
  have S5 := hide' S4
  have HW5 := hide' hW5
  have HG8 := hide' hg8
  clear ho hx eo S3 i0 i1 i2 i3 iz S4 hW5 hg8
  go_upto_region 5 with fail
  rw [← HW5.out, ← HG8.out]
  go_wp2_with fail
  refine (kP.out _ _ (S5.out.byt (.slice ba bl bc, body) (by simp))).mono ?_
  rintro e w6 ⟨u6, rfl, ho⟩
  have hx := holdsB_own ho
  obtain ⟨pa, pc, ep, -⟩ := id hx
  obtain ⟨pn, hpn⟩ : ∃ pn, pn = (body ++ mks).length := ⟨_, rfl⟩
  rw [← hpn] at ep
  rw [ep] at hx ⊢
  obtain ⟨pv, hsl, hpv⟩ := takeB hx bl (by rw [List.length_append, BL.out]; omega)
  rw [List.take_left' BL.out] at hpv
  have S6 := hide' (gst_byt (gst_below S5.out ho.2) hx)
  have PV := hide' hpv
  obtain ⟨va, vn, vc, ev⟩ : ∃ va vn vc, pv = .slice va vn vc := by
    obtain ⟨q1, q2, e, _⟩ := hpv
    exact ⟨q1, _, q2, e⟩
  clear ho hx ep S5 hpn hpv HW5 HG8
  go_upto_region 6 with fail
  go_cut [10, 11] (fun tv bv wx => ∃ g10 uc ux, tv = .pointer (some ⟨g10, 0, none⟩) ∧ Hid (RgSt w wx ((g10, [.int .i64 rs, .string RZ, .int .i64 rk, .slice uc nr ux]) :: [(g8, [.int .i64 s, .string Z, .int .i64 k, .slice oa n oc]), (g0, [.int .i64 s, .string Z, .int .i64 k, .slice la n lc])]) ((.slice uc nr ux, rf) :: [(.slice oa n oc, fs), (.slice qa na qc, ask), (.slice aa na ac, ask), (.slice la n lc, fs)]) ((bv, rb) :: [(.slice pa pn pc, body ++ mks), (.slice ba bl bc, body)])))
  case first =>
    have kX : Hid (∀ W', (W' = w6.alloc (.cells #[.int .i64 0, .string ⟨#[]⟩, .int .i64 0, .slice none 0 0] 31) ∨ W' = (w6.alloc (.cells #[.int .i64 0, .string ⟨#[]⟩, .int .i64 0, .slice none 0 0] 31)).drew) → Calls Tryz.prog 16 #[.slice qa na qc, .agg #[.int .i64 s, .string Z, .int .i64 k, .slice oa n oc], pv] W' fun e w' => ∃ p q vb, e = .returned (.tuple #[.agg #[.int .i64 rs, .string RZ, .int .i64 rk, .slice p nr q], vb]) ∧ Hid (Below w6.heap.size w6 w') ∧ Hid (w'.ownsRow (w6.heap.size + 1) 46 2 (.slice p nr q) rf.length (cellsF rf)) ∧ Hid (w'.ownsRow (w6.heap.size + 1) 5 1 vb rb.length (rb.map B)) ∧ Hid (Quad w6.heap.size w' (.int .i64 0) (.string ⟨#[]⟩) (.int .i64 0) (.slice none 0 0)) ∧ ((w'.cell? ⟨w6.heap.size, 0, none⟩ = some (.int .i64 0) ∧ w'.cell? ⟨w6.heap.size, 1, none⟩ = some (.string ⟨#[]⟩) ∧ w'.cell? ⟨w6.heap.size, 2, none⟩ = some (.int .i64 0) ∧ w'.cell? ⟨w6.heap.size, 3, none⟩ = some (.slice none 0 0)) ∧ (w'.frozen? ⟨w6.heap.size, 0, none⟩ = false ∧ w'.frozen? ⟨w6.heap.size, 1, none⟩ = false ∧ w'.frozen? ⟨w6.heap.size, 2, none⟩ = false ∧ w'.frozen? ⟨w6.heap.size, 3, none⟩ = false)) ∧ (w'.cell? ⟨g8, 0, none⟩ = some (.int .i64 s) ∧ w'.cell? ⟨g8, 1, none⟩ = some (.string Z) ∧ w'.cell? ⟨g8, 2, none⟩ = some (.int .i64 k) ∧ w'.cell? ⟨g8, 3, none⟩ = some (.slice oa n oc))) := fun W' hW => by
      refine (kA.out w6 W' _ _ _ (gst_byt S6.out PV.out) (.slice qa na qc) (.slice oa n oc) pv (by simp) (by simp) List.mem_cons_self hW).mono ?_
      rintro e w' ⟨p, q, x, y, rfl, hb, h1, h2, hq⟩
      have s' := gst_below S6.out hb.out
      obtain ⟨i0, i1, i2, i3, -⟩ := blk4 (s'.blk _ List.mem_cons_self)
      obtain ⟨t0, t1, t2, t3, y0, y1, y2, y3, -⟩ := hq.out
      rw [NR.out] at h1 ⊢
      exact ⟨p, q, _, rfl, hb, h1, h2, hq, ⟨⟨t0, t1, t2, t3⟩, ⟨y0, y1, y2, y3⟩⟩, i0, i1, i2, i3⟩
    have kY : Hid (∀ W', Below w6.heap.size w6 W' → Calls Tryz.prog 16 #[.slice qa na qc, .agg #[.int .i64 s, .string Z, .int .i64 k, .slice oa n oc], pv] W' fun e w' => ∃ p q vb, e = .returned (.tuple #[.agg #[.int .i64 rs, .string RZ, .int .i64 rk, .slice p nr q], vb]) ∧ Hid (RgSt w w' [(g8, [.int .i64 s, .string Z, .int .i64 k, .slice oa n oc]), (g0, [.int .i64 s, .string Z, .int .i64 k, .slice la n lc])] ((.slice p nr q, rf) :: [(.slice oa n oc, fs), (.slice qa na qc, ask), (.slice aa na ac, ask), (.slice la n lc, fs)]) ((vb, rb) :: [(.slice pa pn pc, body ++ mks), (.slice ba bl bc, body)])) ∧ (w'.cell? ⟨g8, 0, none⟩ = some (.int .i64 s) ∧ w'.cell? ⟨g8, 1, none⟩ = some (.string Z) ∧ w'.cell? ⟨g8, 2, none⟩ = some (.int .i64 k) ∧ w'.cell? ⟨g8, 3, none⟩ = some (.slice oa n oc))) := fun W' hW => by
      refine (kA2.out W' _ _ _ (gst_byt (gst_below S6.out hW) (holdsB_mono PV.out hW)) (.slice qa na qc) (.slice oa n oc) pv (by simp) (by simp) List.mem_cons_self).mono ?_
      rintro e w' ⟨p, q, x, y, rfl, hs⟩
      have sx := hs.out
      obtain ⟨i0, i1, i2, i3, -⟩ := blk4 (sx.blk _ List.mem_cons_self)
      have hf := sx.fld _ List.mem_cons_self
      have hy := sx.byt _ List.mem_cons_self
      have s2 : RgSt w w' [(g8, [.int .i64 s, .string Z, .int .i64 k, .slice oa n oc]), (g0, [.int .i64 s, .string Z, .int .i64 k, .slice la n lc])] [(.slice oa n oc, fs), (.slice qa na qc, ask), (.slice aa na ac, ask), (.slice la n lc, fs)] [(.slice pa pn pc, body ++ mks), (.slice ba bl bc, body)] := ⟨sx.bel, sx.blk, fun p hp => sx.fld p (List.mem_cons_of_mem _ hp), fun p hp => sx.byt p (List.mem_cons_of_mem _ (List.mem_cons_of_mem _ hp))⟩
      rw [NR.out] at hf ⊢
      exact ⟨p, q, _, rfl, gst_byt (gst_fld s2 hf) hy, i0, i1, i2, i3⟩
    obtain ⟨i0, i1, i2, i3, -⟩ := blk4 (S6.out.blk _ List.mem_cons_self)
    have BA : Hid (Below w6.heap.size w6 w6) := Below.refl _ _
    have g8l := (S6.out.blk _ List.mem_cons_self).2
    have n8 : ¬ g8 = w6.heap.size := fun e => absurd g8l (by rw [e]; exact Nat.lt_irrefl _)
    have n9 : ¬ w6.heap.size = g8 := fun e => n8 e.symm
    clear g8l
    subst ev
    clear c0 kA kA2 kR kF kC kS kG kP kQ kT kB PV NB
    go_region_held3 (fun w' => w'.cell? ⟨g8, 0, none⟩ = some (.int .i64 s) ∧ w'.cell? ⟨g8, 1, none⟩ = some (.string Z) ∧ w'.cell? ⟨g8, 2, none⟩ = some (.int .i64 k) ∧ w'.cell? ⟨g8, 3, none⟩ = some (.slice oa n oc)) (go_keep)
      (first
        | (go_at_call 16; refine (kX.out _ (by first | exact .inl rfl | exact .inr rfl)).mono ?_; rintro e w7 ⟨p, q, vb, rfl, B7, RF, RB, Q7, ⟨⟨t0, t1, t2, t3⟩, ⟨y0, y1, y2, y3⟩⟩, j0, j1, j2, j3⟩)
        | (go_at_call 16; refine (kY.out _ (by first | with_reducible exact BA.out | with_reducible exact BA.out.drew)).mono ?_; rintro e w7 ⟨p, q, vb, rfl, S7, j0, j1, j2, j3⟩))
    all_goals
      go_wp2_with fail
      go_meet
      exact ⟨_, _, _, rfl, by first | exact gst_box S6.out B7.out Q7.out RF.out RB.out _ _ _ _ | exact gst_alloc S7.out #[.int .i64 rs, .string RZ, .int .i64 rk, .slice p nr q] 31 | exact gst_drew (gst_alloc S7.out #[.int .i64 rs, .string RZ, .int .i64 rk, .slice p nr q] 31) | exact gst_drew (gst_box S6.out B7.out Q7.out RF.out RB.out _ _ _ _)⟩
  case rest =>
    obtain ⟨g10, uc, ux, rfl, S7⟩ := hcut
    rename_i vb
    clear c0 kA kA2 kF kC PV ev hsl S6
    obtain ⟨i0, i1, i2, i3, iz⟩ := blk4 (S7.out.blk _ (List.mem_cons_of_mem _ (List.mem_cons_of_mem _ List.mem_cons_self)))
    go_wp2_with fail
    refine (kR.out _ _ _ _ (S7.out.fld (.slice aa na ac, ask) (by simp)) (S7.out.fld (.slice la n lc, fs) (by simp)) (S7.out.byt (.slice ba bl bc, body) (by simp))).mono ?_
    rintro e w8 ⟨u8, v8, rfl, h1, h2, b8⟩
    obtain ⟨ua, uy, _, _, eu, -⟩ := holdsF_parts h1
    rw [NR.out] at eu
    rw [eu] at h1 ⊢
    have S8 := gst_alloc (gst_byt (gst_fld (gst_below S7.out b8) h1) h2) #[.int .i64 rs, .string RZ, .int .i64 rk, .slice ua nr uy] 31
    obtain ⟨g12, hg12⟩ : ∃ g12, g12 = w8.heap.size := ⟨_, rfl⟩
    obtain ⟨W9, hW9⟩ : ∃ W9, W9 = w8.alloc (.cells #[.int .i64 rs, .string RZ, .int .i64 rk, .slice ua nr uy] 31) := ⟨_, rfl⟩
    rw [← hW9, ← hg12] at S8
    have S9 := hide' S8
    have HW9 := hide' hW9
    have HG12 := hide' hg12
    clear eu h1 h2 b8 kR S7 S8 hW9 hg12 i0 i1 i2 i3 iz
    go_upto_region 8 with fail
    rw [← HW9.out, ← HG12.out]
    obtain ⟨i0, i1, i2, i3, iz⟩ := blk4 (S9.out.blk _ (List.mem_cons_of_mem _ List.mem_cons_self))
    obtain ⟨j0, j1, j2, j3, jz⟩ := blk4 (S9.out.blk _ List.mem_cons_self)
    go_wp2_with fail
    refine (kT.out _ _ _ (S9.out.fld (.slice uc nr ux, rf) (by simp)) (S9.out.fld (.slice ua nr uy, rf) (by simp))).mono ?_
    rintro e w10 ⟨rfl, b⟩
    have S10 := hide' (gst_below S9.out b)
    clear b kT S9 HW9 HG12 i0 i1 i2 i3 iz j0 j1 j2 j3 jz
    go_wp2_with fail
    refine (kB.out _ _ _ (S10.out.byt (_, rb) (by simp)) (S10.out.byt (v8, rb) (by simp))).mono ?_
    rintro e w11 ⟨rfl, b⟩
    have S11 := hide' (gst_below S10.out b)
    clear b kB S10
    go_wp2_with fail
    refine (kG.out _ _ _ (S11.out.fld (.slice qa na qc, ask) (by simp)) (S11.out.fld (.slice aa na ac, ask) (by simp))).mono ?_
    rintro e w12 ⟨rfl, b⟩
    have S12 := hide' (gst_below S11.out b)
    clear b kG S11
    obtain ⟨i0, i1, i2, i3, iz⟩ := blk4 (S12.out.blk _ (List.mem_cons_of_mem _ (List.mem_cons_of_mem _ List.mem_cons_self)))
    obtain ⟨j0, j1, j2, j3, jz⟩ := blk4 (S12.out.blk _ (List.mem_cons_of_mem _ (List.mem_cons_of_mem _ (List.mem_cons_of_mem _ List.mem_cons_self))))
    go_wp2_with fail
    refine (kS.out _ _ _ (S12.out.fld (.slice oa n oc, fs) (by simp)) (S12.out.fld (.slice la n lc, fs) (by simp))).mono ?_
    rintro e w13 ⟨rfl, b⟩
    have S13 := hide' (gst_below S12.out b)
    clear b kS S12 i0 i1 i2 i3 iz j0 j1 j2 j3 jz
    go_wp2_with fail
    refine (kP.out _ _ (S13.out.byt (.slice ba bl bc, body) (by simp))).mono ?_
    rintro e w14 ⟨u14, rfl, ho⟩
    have S14 := hide' (gst_byt (gst_below S13.out ho.2) (holdsB_own ho))
    clear ho kP S13
    go_wp2_with fail
    refine (kQ.out _ _ _ (S14.out.byt (.slice pa pn pc, body ++ mks) (by simp)) (S14.out.byt (u14, body ++ mks) (by simp))).mono ?_
    rintro e w15 ⟨rfl, b⟩
    have S15 := hide' (gst_below S14.out b)
    clear b kQ S14
    go_wp2_with fail
    go_ret
    exact ⟨rfl, S15.out.bel⟩
end Go.Proofs.YtipcmbonhkelbaaGreatDoor
