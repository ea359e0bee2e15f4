/- DiskAgain's walk. -/
import Derived.Test.YtbpegpklbenblaaDmJ
namespace Go.Proofs.Ytbpegpklbenblaa
open Go.RowKit
/-- the blocks of the arguments that are structs -/
structure Bas3 (w : World) (fv : Value) (room : Int) (zv : Value) (power k1 : Int) (kv1 : Value) (k2 : Int) (kv2 : Value) (W : World) : Prop where
  p0 : Blk w.heap.size W [fv, .int .i64 room, zv, .int .i64 power]
  p1 : Blk (w.heap.size + 1) W [.int .i64 k1, kv1]
  p2 : Blk (w.heap.size + 1 + 1) W [.int .i64 k2, kv2]
  bel : Below w.heap.size w W
theorem bas3_start (w : World) (fv : Value) (room : Int) (zv : Value) (power k1 : Int) (kv1 : Value) (k2 : Int) (kv2 : Value) : Bas3 w fv room zv power k1 kv1 k2 kv2 (((w.alloc (.cells #[fv, .int .i64 room, zv, .int .i64 power] 25)).alloc (.cells #[.int .i64 k1, kv1] 55)).alloc (.cells #[.int .i64 k2, kv2] 55)) := by
  have z1 : (w.alloc (.cells #[fv, .int .i64 room, zv, .int .i64 power] 25)).heap.size = w.heap.size + 1 := by simp
  have z2 : ((w.alloc (.cells #[fv, .int .i64 room, zv, .int .i64 power] 25)).alloc (.cells #[.int .i64 k1, kv1] 55)).heap.size = w.heap.size + 1 + 1 := by simp
  have c0 := cells_lit w #[fv, .int .i64 room, zv, .int .i64 power] 25
  have c1 := cells_lit (w.alloc (.cells #[fv, .int .i64 room, zv, .int .i64 power] 25)) #[.int .i64 k1, kv1] 55
  have c2 := cells_lit ((w.alloc (.cells #[fv, .int .i64 room, zv, .int .i64 power] 25)).alloc (.cells #[.int .i64 k1, kv1] 55)) #[.int .i64 k2, kv2] 55
  rw [z1] at c1
  rw [z2] at c2
  have e1 := below_alloc' w (.cells #[fv, .int .i64 room, zv, .int .i64 power] 25)
  have e2 := below_alloc' (w.alloc (.cells #[fv, .int .i64 room, zv, .int .i64 power] 25)) (.cells #[.int .i64 k1, kv1] 55)
  have e3 := below_alloc' ((w.alloc (.cells #[fv, .int .i64 room, zv, .int .i64 power] 25)).alloc (.cells #[.int .i64 k1, kv1] 55)) (.cells #[.int .i64 k2, kv2] 55)
  exact ⟨cells_below (cells_below c0 e2) e3, cells_below c1 e3, c2, (e1.trans (e2.mono e1.size)).trans (e3.mono (by have := e1.size; have := e2.size; omega))⟩
theorem bas3_below {w : World} {fv : Value} {room : Int} {zv : Value} {power k1 : Int} {kv1 : Value} {k2 : Int} {kv2 : Value} {W W' : World} (h : Bas3 w fv room zv power k1 kv1 k2 kv2 W) (hb : Below W.heap.size W W') : Bas3 w fv room zv power k1 kv1 k2 kv2 W' :=
  ⟨cells_below h.p0 hb, cells_below h.p1 hb, cells_below h.p2 hb, h.bel.trans (hb.mono h.bel.size)⟩
theorem ho_slice {w : World} {ov : Value} {os : List OpT} (h : HoldsO w ov os) : ∃ ao cap, ov = .slice ao os.length cap ∧ (0 < os.length → ∃ b off, ao = some ⟨b, off, none⟩) := by
  obtain ⟨ao, cap, rfl, _, _, hc⟩ := h
  refine ⟨ao, cap, rfl, fun hp => ?_⟩
  obtain ⟨b, off, e, _⟩ := hc (fun e => by rw [e] at hp; cases hp)
  exact ⟨b, off, e⟩
theorem new_list (fs : FilL) (room : Int) : (newS fs room [] (-1)).list = fs.map (fun f => f.1) ∧ (newS fs room [] (-1)).n = 0 ∧ (newS fs room [] (-1)).down = false := by
  have hd : (newS fs room [] (-1)).down = false := by
    unfold Dk.down newS
    simp
  refine ⟨?_, rfl, hd⟩
  unfold Dk.list
  rw [hd]
  show (numbered fs).map (fun p => p.1) = _
  exact num_fst fs
theorem newE_left {fs fs' : FilL} {room : Int} (h : newE fs room = 0) (hk : filesOk fs' = true) : newE fs' room = 0 := by
  unfold newE at h ⊢
  split at h
  · cases h
  · rename_i hr
    rw [if_neg hr, if_pos hk]
theorem sameTe (va vb : Value) (xs : List (List UInt8)) (w : World) (ha : Holds w va xs) (hb : Holds w vb xs) (la : xs.length ≤ 1000000000000000) :
    Calls Try.prog 21 #[va, vb] w fun e w' => e = .returned (.bool true) ∧ Below w.heap.size w w' := by
  refine (sameTexts va vb xs xs w ha hb la la).mono ?_
  rintro e w' ⟨rfl, n, rfl⟩
  exact ⟨by simp, below_drewN _ _⟩
set_option maxRecDepth 20000 in
set_option maxHeartbeats 16000000 in
theorem againC {w : World} {fv zv ov kv1 kv2 : Value} {fs : FL} {fails : List Int} {os : List OpT} {keep1 keep2 : List Int} (room power k1 k2 : Int) (hf : HoldsFi w fv fs) (hz : HoldsI w zv fails) (ho : HoldsO w ov os) (h1 : HoldsI w kv1 keep1) (h2 : HoldsI w kv2 keep2) (b1 : bulkF fs ≤ 1048576) (b2 : fails.length ≤ 1048576) (b3 : bulkO os ≤ 1048576) (b4 : keep1.length ≤ 1048576) (b5 : keep2.length ≤ 1048576)
    (zb : ∀ z ∈ fails, -9223372036854775808 ≤ z ∧ z ≤ 9223372036854775807) (kb1 : ∀ z ∈ keep1, -9223372036854775808 ≤ z ∧ z ≤ 9223372036854775807) (kb2 : ∀ z ∈ keep2, -9223372036854775808 ≤ z ∧ z ≤ 9223372036854775807) (r1 : -9223372036854775808 ≤ k1 ∧ k1 ≤ 9223372036854775807) (r2 : -9223372036854775808 ≤ k2 ∧ k2 ≤ 9223372036854775807) :
    Calls Try.prog 7 #[.agg #[fv, .int .i64 room, zv, .int .i64 power], ov, .agg #[.int .i64 k1, kv1], .agg #[.int .i64 k2, kv2]] w fun e w' => e = .returned (.bool true) ∧ Below w.heap.size w w' := by
  obtain ⟨fa, fc, hfv, _⟩ := id hf
  obtain ⟨za, zc, hzv, _⟩ := id hz
  obtain ⟨ka, kc, hkv1, _⟩ := id h1
  obtain ⟨kd, ke, hkv2, _⟩ := id h2
  obtain ⟨oa, oc, hov, _⟩ := ho_slice ho
  have HF := hide' hf
  have HZ := hide' hz
  have HO := hide' ho
  have H1 := hide' h1
  have H2 := hide' h2
  have B1 := hide' b1
  have B2 := hide' b2
  have B3 := hide' b3
  have B4 := hide' b4
  have B5 := hide' b5
  have ZB := hide' zb
  have KB1 := hide' kb1
  have KB2 := hide' kb2
  have R1 := hide' r1
  have R2 := hide' r2
  have BS := hide' (bas3_start w fv room zv power k1 kv1 k2 kv2)
  subst hfv hzv hkv1 hkv2 hov
  rename_i y1 y2 y3 y4 y5
  clear y1 y2 y3 y4 y5 hf hz ho h1 h2 b1 b2 b3 b4 b5 zb kb1 kb2 r1 r2
  obtain ⟨nf, hnf⟩ : ∃ n, n = fs.length := ⟨_, rfl⟩
  obtain ⟨nz, hnz⟩ : ∃ n, n = fails.length := ⟨_, rfl⟩
  obtain ⟨n1, hn1⟩ : ∃ n, n = keep1.length := ⟨_, rfl⟩
  obtain ⟨n2, hn2⟩ : ∃ n, n = keep2.length := ⟨_, rfl⟩
  obtain ⟨no, hno⟩ : ∃ n, n = os.length := ⟨_, rfl⟩
  have NO := hide' hno
  rw [← hnf, ← hnz, ← hn1, ← hn2] at BS
  rw [← hnf] at HF
  rw [← hnz] at HZ
  rw [← hn1] at H1
  rw [← hn2] at H2
  rw [← hno] at HO
  rw [← hnf, ← hnz, ← hn1, ← hn2, ← hno]
  clear hnf hnz hn1 hn2 hno
  go_enter Try.func7, Try.ntmps7
  go_wp2_with fail
  generalize (((w.alloc (.cells #[.slice fa nf fc, .int .i64 room, .slice za nz zc, .int .i64 power] 25)).alloc (.cells #[.int .i64 k1, .slice ka n1 kc] 55)).alloc (.cells #[.int .i64 k2, .slice kd n2 ke] 55)) = W3 at BS ⊢
  refine (aliveC W3).mono ?_
  rintro e w1 ⟨rfl, hb1⟩
  have BS1 := hide' (bas3_below BS.out hb1)
  clear hb1 BS
  obtain ⟨⟨x0, x1, x2, x3⟩, _⟩ := cells_4 BS1.out.p0
  have CB := hide' (beginC (.slice fa nf fc) fs room (.slice za nz zc) fails power w1 (holdsFi_mono HF.out BS1.out.bel) (holdsI_mono HZ.out BS1.out.bel) (fun f h => by have := bulkF_mem fs f h; have := B1.out; omega) (by have := bulkF_len fs; have := B1.out; omega) (by have := B2.out; omega) ZB.out)
  go_wp2_with fail
  refine CB.out.mono ?_
  intro e w2 np
  clear x0 x1 x2 x3 CB
  obtain ⟨nb, ⟨ne, rfl⟩ | ⟨hne0, g, o, rfl, hD, hO⟩⟩ := np
  · have NB := hide' (BS1.out.bel.trans (nb.mono BS1.out.bel.size))
    have ne' : ((newE fs room) != 0) = true := by simpa using ne
    clear nb
    generalize newE fs room = er at ne ne' ⊢
    go_wp2_with fail
    go_ret
    exact ⟨rfl, NB.out⟩
  have L0 : Hid (Liv o g (newS fs room fails power) w1 w2) := ⟨hD, hO, nb⟩
  have NE := hide' hne0
  clear hD hO nb hne0
  have C0 := hide' (cutC (.slice oa no oc) os w2 (holdsO_mono HO.out (BS1.out.bel.trans (L0.out.bel.mono BS1.out.bel.size))) (by have := bulk_len os; have := B3.out; omega))
  go_wp2_with fail
  refine C0.out.mono ?_
  rintro e w3 ⟨u, rfl, hu, rfl⟩
  have hcut := hu w HO.out
  obtain ⟨ua, uc, huv, hpos⟩ := ho_slice hcut
  have CUT := hide' hcut
  have BT : Hid (bulkO (os.take 300) ≤ 1048576) := Nat.le_trans (bulk_take os 300) B3.out
  clear C0 hu hcut
  generalize os.take 300 = ot at CUT huv hpos BT
  subst huv
  obtain ⟨nt, hnt⟩ : ∃ n, n = ot.length := ⟨_, rfl⟩
  have NT := hide' hnt
  rw [← hnt] at hpos ⊢
  have lnt : nt ≤ 1048576 := by have := bulk_len ot; have := BT.out; omega
  have BDS : Hid (∀ j, Bd 3000000 (runD (newS fs room fails power) (ot.take j))) := fun j => bd_mono (bd_run (ot.take j) (bd_new fs room fails power 1048576 (by have := bulkF_len fs; have := B1.out; omega) (fun f h => by have := bulkF_mem fs f h; have := B1.out; omega))) (by have := bulk_take ot j; have := BT.out; omega)
  have BW : Hid (Below w.heap.size w w1) := BS1.out.bel
  have RUN : Hid (∀ j (h : j < ot.length), runD (newS fs room fails power) (ot.take (j + 1)) = ((runD (newS fs room fails power) (ot.take j)).step (dop ot[j])).1) := fun j h => run_snoc _ ot j h
  have EN : Hid (ot.take nt = ot) := List.take_of_length_le (by rw [NT.out]; exact Nat.le_refl _)
  clear hnt
  go_wp2_with fail
  go_loopw [11] (fun i wr => ∃ j : Nat, j ≤ nt ∧ i = .int .i64 j ∧ Hid (∃ o, Liv o g (runD (newS fs room fails power) (ot.take j)) w1 wr)) (fun i _ => nt - (intOf i).toNat)
  case atStart => exact ⟨0, by omega, rfl, o, L0.out⟩
  case round =>
    obtain ⟨j, hj, rfl, HL⟩ := hrel
    by_cases hlt : j < nt
    · have hj' : j < ot.length := by rw [← NT.out]; exact hlt
      obtain ⟨b, off, rfl⟩ := hpos (by omega)
      obtain ⟨o', hl⟩ := HL.out
      have hbw : Below w.heap.size w wr := BW.out.trans (hl.bel.mono BW.out.size)
      obtain ⟨da, dl, dc, ⟨q0, q1, q2, q3⟩, hdat⟩ := op_at (holdsO_mono CUT.out hbw) j hj'
      have hbo := bulk_mem ot _ (List.getElem_mem hj')
      have hbt := BT.out
      have HL' := hide' hl
      have CS := hide' (opC (ot[j]'hj').1 ⟨(ot[j]'hj').2.1.toArray⟩ ⟨(ot[j]'hj').2.2.1.toArray⟩ da dl dc wr)
      have CD : Hid (∀ wx, Below wr.heap.size wr wx → Calls Try.prog 15 #[.pointer (some ⟨g, 0, none⟩), .agg #[.int .i64 (meant (ot[j]'hj').1), .string ⟨(ot[j]'hj').2.1.toArray⟩, .string ⟨(ot[j]'hj').2.2.1.toArray⟩, .slice da dl dc]] wx fun e W' => ∃ z, e = .returned (.int .i64 z) ∧ Hid (∃ o', Liv o' g (runD (newS fs room fails power) (ot.take (j + 1))) w1 W')) := fun wx hb => by
        refine (doMC (liv_below hl hb) (ot[j]'hj') da dl dc (by omega) (by omega) (bd_mono (BDS.out j) (by omega)) (holdsB_mono hdat hb) (by omega)).mono ?_
        rintro e W' ⟨rfl, o2, l2, _⟩
        exact ⟨_, rfl, o2, by rw [RUN.out j hj']; exact l2⟩
      clear hdat hbo hbt hl hbw HL HL'
      generalize (ot[j]'hj').1 = oa0 at q0 CS CD
      generalize (ot[j]'hj').2.1.toArray = on0 at q1 CS CD
      generalize (ot[j]'hj').2.2.1.toArray = ot0 at q2 CS CD
      go_wp2_with fail
      refine CS.out.mono ?_
      rintro e w4 ⟨rfl, hb4⟩
      have CD4 := hide' (CD.out w4 hb4)
      clear CS CD hb4 q0 q1 q2 q3
      go_wp2_with fail
      refine CD4.out.mono ?_
      rintro e w5 ⟨z, rfl, L5⟩
      clear CD4
      go_wp2_with fail
      go_roundw
      case rel => exact ⟨j + 1, by omega, by go_num, L5⟩
      case measure => simp [intOf]; omega
    · have ej : j = nt := by omega
      subst ej
      rw [EN.out] at HL
      have BDE := BDS.out j
      rw [EN.out] at BDE
      have BD := hide' BDE
      clear BDE BDS RUN EN hj hlt L0 CUT hpos
      generalize runD (newS fs room fails power) ot = sE at HL BD
      obtain ⟨oE, hl⟩ := HL.out
      have HL1 := hide' hl
      have BSr := hide' (bas3_below BS1.out hl.bel)
      clear HL hl
      obtain ⟨⟨i0, i1⟩, _⟩ := cells_2 BSr.out.p1
      have C4 := hide' (copyFateC k1 (.slice ka n1 kc) keep1 wr (holdsI_mono H1.out BSr.out.bel) (by have := B4.out; omega))
      go_wp2_with fail
      refine C4.out.mono ?_
      rintro e w4 ⟨u, rfl, hu, hb4⟩
      have HL4 := hide' (liv_below HL1.out hb4)
      have BS4 := hide' (bas3_below BSr.out hb4)
      have C5 := hide' (leftC HL4.out.dsk k1 u keep1 hu R1.out KB1.out (bd_mono BD.out (by omega)))
      have LBD := hide' (left_bd HL4.out.dsk BD.out k1 keep1)
      have LOK := hide' (newE_left NE.out (left_ok (dsk_wf HL4.out.dsk).1 k1 keep1))
      clear C4 hu hb4 i0 i1 HL1 BSr
      generalize sE.left k1 keep1 = LF at C5 LBD LOK
      go_wp2_with fail
      refine C5.out.mono ?_
      rintro e w5 ⟨lv, rfl, hF, hb5⟩
      have hF5 := holdsFi_sub (mask_sub _ _) hF
      obtain ⟨la, lc, hlv, _⟩ := id hF5
      rename_i y1
      have BS5 := hide' (bas3_below BS4.out hb5)
      have HF5 := hide' hF5
      subst hlv
      have hlen := LBD.out.1
      clear C5 hF hb5 hF5 y1 HL4 BS4
      obtain ⟨nl, hnl⟩ : ∃ n, n = LF.length := ⟨_, rfl⟩
      have NL := hide' hnl
      rw [← hnl] at HF5 hlen ⊢
      clear hnl
      have KP : Hid (∀ Wx, Below w5.heap.size w5 Wx → Wx.cell? ⟨w.heap.size, 1, none⟩ = some (.int .i64 room)) := fun Wx hb => (cells_4 (cells_below BS5.out.p0 hb)).1.2.1
      have CF : Hid (∀ Wx, Below w5.heap.size w5 Wx → Calls Try.prog 39 #[.slice la nl lc] Wx fun e w' => ∃ va vl vc, e = .returned (.slice va vl vc) ∧ Hid (Below w5.heap.size w5 w' ∧ HoldsFi w' (.slice va vl vc) LF) ∧ w'.cell? ⟨w.heap.size, 1, none⟩ = some (.int .i64 room)) := fun Wx hb => by
        refine (copyFi _ LF Wx (holdsFi_mono HF5.out hb) (by rw [← NL.out]; omega) (fun f h => by have := (LBD.out.2 f h).2; omega)).mono ?_
        rintro e w' ⟨v, rfl, h1, h2⟩
        have h3 := holdsFi_sub (mask_sub _ _) h1
        obtain ⟨va, vc, hv, _⟩ := id h3
        subst hv
        have hb2 := hb.trans (h2.mono hb.size)
        exact ⟨va, _, vc, rfl, ⟨hb2, h3⟩, KP.out w' hb2⟩
      have CN : Hid (∀ Wx v', Below w5.heap.size w5 Wx → HoldsFi Wx v' LF → Calls Try.prog 38 #[v', .int .i64 room, .slice none 0 0, .int .i64 (-1)] Wx fun e w' => ∃ g2, e = .returned (.tuple #[.pointer (some ⟨g2, 0, none⟩), .int .i64 0]) ∧ Hid (∃ o2, Liv o2 g2 (newS LF room [] (-1)) w5 w') ∧ w'.cell? ⟨w.heap.size, 1, none⟩ = some (.int .i64 room)) := fun Wx v' hb h1 => by
        refine (newC v' LF room (.slice none 0 0) [] (-1) Wx h1 ⟨none, 0, rfl, fun _ => rfl, Nat.le_refl _, fun h => absurd rfl h⟩ (fun f h => by have := LBD.out.2 f h; omega) (by rw [← NL.out]; omega) (by decide) (fun z h => by cases h)).mono ?_
        rintro e w' ⟨nb, ⟨ne, _⟩ | ⟨_, g2, o2, rfl, hD, hO⟩⟩
        · exact absurd LOK.out ne
        · have hb2 := hb.trans (nb.mono hb.size)
          exact ⟨g2, rfl, ⟨o2, hD, fun k hk => Nat.le_trans hb.size (hO k hk), hb2⟩, KP.out w' hb2⟩
      have k0 := KP.out w5 (Below.refl _ _)
      go_wp2_with fail
      go_region_held3 (fun w' => w'.cell? ⟨w.heap.size, 1, none⟩ = some (.int .i64 room)) (go_keep)
        (first
          | (go_at_call 39; refine (CF.out _ ?_).mono ?_; (first | exact (Below.refl _ _).drew | exact Below.refl _ _); rintro e w6 ⟨va, vl, vc, rfl, B6, j6⟩)
          | (go_at_call 38; refine (CN.out _ _ B6.out.1 B6.out.2).mono ?_; rintro e w7 ⟨g2, rfl, L7, j7⟩))
      all_goals
        have NLs := new_list LF room
        have LN := left_new LF room [] (-1) k2 keep2
        have B7 : Bd 6000000 (newS LF room [] (-1)) := bd_new LF room [] (-1) 6000000 (by rw [← NL.out]; omega) (fun f h => by have := (LBD.out.2 f h).2; omega)
        clear k0 j6 j7 CN CF KP B6
        generalize newS LF room [] (-1) = sN at NLs LN B7 L7
        have HNL := hide' NLs
        have HLN := hide' LN
        have HB7 := hide' B7
        obtain ⟨o2, l7⟩ := L7.out
        have HL7 := hide' l7
        clear L7 NLs LN B7 l7
        have BS7 := hide' (bas3_below BS5.out HL7.out.bel)
        have HF7 := hide' (holdsFi_mono HF5.out HL7.out.bel)
        clear BS5 HF5
        obtain ⟨⟨i0, i1⟩, _⟩ := cells_2 BS7.out.p2
        have C8 := hide' (copyFateC k2 (.slice kd n2 ke) keep2 w7 (holdsI_mono H2.out BS7.out.bel) (by have := B5.out; omega))
        go_wp2_with fail
        refine C8.out.mono ?_
        rintro e w8 ⟨u8, rfl, hu8, hb8⟩
        have HL8 := hide' (liv_below HL7.out hb8)
        have HF8 := hide' (holdsFi_mono HF7.out hb8)
        have BL8 := hide' (BS7.out.bel.trans (hb8.mono BS7.out.bel.size))
        have C9 := hide' (leftC HL8.out.dsk k2 u8 keep2 hu8 R2.out KB2.out (bd_mono HB7.out (by omega)))
        rw [HLN.out] at C9
        clear C8 hu8 hb8 i0 i1 HL7 HF7 BS7
        go_wp2_with fail
        refine C9.out.mono ?_
        rintro e w9 ⟨lv9, rfl, hF9, hb9⟩
        have HL9 := hide' (liv_below HL8.out hb9)
        have HF9 := hide' (holdsFi_mono HF8.out hb9)
        have BL9 := hide' (BL8.out.trans (hb9.mono BL8.out.size))
        have CS := hide' (sameFi _ _ LF w9 (holdsFi_sub (mask_sub _ _) hF9) HF9.out (by rw [← NL.out]; omega) (fun f h => by have := (LBD.out.2 f h).2; omega))
        clear C9 hF9 hb9 HL8 HF8 BL8
        go_wp2_with fail
        refine CS.out.mono ?_
        rintro e w10 ⟨rfl, hb10⟩
        have HL10 := hide' (liv_below HL9.out hb10)
        have HF10 := hide' (holdsFi_mono HF9.out hb10)
        have BL10 := hide' (BL9.out.trans (hb10.mono BL9.out.size))
        have CL := hide' (listC HL10.out.dsk (bd_mono HB7.out (by omega)))
        rw [HNL.out.1] at CL
        clear CS hb10 HL9 HF9 BL9
        go_wp2_with fail
        refine CL.out.mono ?_
        rintro e w11 ⟨lv11, rfl, ho11⟩
        have HL11 := hide' (liv_below HL10.out ho11.2)
        have HF11 := hide' (holdsFi_mono HF10.out ho11.2)
        have BL11 := hide' (BL10.out.trans (ho11.2.mono BL10.out.size))
        have HO11 := hide' (holds_own ho11)
        have CM := hide' (namesC _ LF w11 HF11.out (by rw [← NL.out]; omega))
        clear CL ho11 HL10 HF10 BL10
        go_wp2_with fail
        refine CM.out.mono ?_
        rintro e w12 ⟨lv12, rfl, ho12⟩
        have HL12 := hide' (liv_below HL11.out ho12.2)
        have BL12 := hide' (BL11.out.trans (ho12.2.mono BL11.out.size))
        have CT := hide' (sameTe _ _ _ w12 (holds_mono HO11.out ho12.2) (holds_own ho12) (by rw [List.length_map, ← NL.out]; omega))
        clear CM ho12 HL11 HF11 BL11 HO11
        go_wp2_with fail
        refine CT.out.mono ?_
        rintro e w13 ⟨rfl, hb13⟩
        have HL13 := hide' (liv_below HL12.out hb13)
        have BL13 := hide' (BL12.out.trans (hb13.mono BL12.out.size))
        have CP := hide' (stepsC HL13.out.dsk)
        rw [HNL.out.2.1] at CP
        clear CT hb13 HL12 BL12
        go_wp2_with fail
        refine CP.out.mono ?_
        rintro e w14 ⟨rfl, rfl⟩
        have CW := hide' (downC HL13.out.dsk)
        rw [HNL.out.2.2] at CW
        clear CP
        go_wp2_with fail
        refine CW.out.mono ?_
        rintro e w15 ⟨rfl, nq, rfl⟩
        go_wp2_with fail
        go_ret
        exact ⟨rfl, below_drawn BL13.out nq⟩
end Go.Proofs.Ytbpegpklbenblaa
