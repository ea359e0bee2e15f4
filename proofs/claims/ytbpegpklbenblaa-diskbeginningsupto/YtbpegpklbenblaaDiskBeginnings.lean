/- In a life of Appends and Syncs alone each file that is left is a beginning of what is seen and holds what it held at first, and a loss that keeps everything leaves what is seen, for what is of bulk at most 1048576. -/
import Derived.Test.YtbpegpklbenblaaDmM
import Derived.Test.YtbpegpklbenblaaOpnS
import Derived.OpenShut
import Derived.ShutString
import Derived.ChangeOld
import Derived.Below
import Derived.SizedLaws
import Derived.Deep.DeepHandedRow
import Derived.Lib.LaidTab
namespace Go.Proofs.Ytbpegpklbenblaa
open Go.RowKit
set_option maxRecDepth 20000 in
set_option maxHeartbeats 16000000 in
theorem beginningsC {w : World} {fv zv ov kv1 : Value} {fs : FL} {fails : List Int} {os : List OpT} {keep1 : List Int} (room power k1 : Int) (hf : HoldsFi w fv fs) (hz : HoldsI w zv fails) (ho : HoldsO w ov os) (h1 : HoldsI w kv1 keep1) (b1 : bulkF fs ≤ 1048576) (b2 : fails.length ≤ 1048576) (b3 : bulkO os ≤ 1048576) (b4 : keep1.length ≤ 1048576)
    (zb : ∀ z ∈ fails, -9223372036854775808 ≤ z ∧ z ≤ 9223372036854775807) (kb1 : ∀ z ∈ keep1, -9223372036854775808 ≤ z ∧ z ≤ 9223372036854775807) (r1 : -9223372036854775808 ≤ k1 ∧ k1 ≤ 9223372036854775807) :
    Calls Try.prog 6 #[.agg #[fv, .int .i64 room, zv, .int .i64 power], ov, .agg #[.int .i64 k1, kv1]] w fun e w' => e = .returned (.bool true) ∧ Below w.heap.size w w' := by
  obtain ⟨fa, fc, hfv, _⟩ := id hf
  obtain ⟨za, zc, hzv, _⟩ := id hz
  obtain ⟨ka, kc, hkv1, _⟩ := id h1
  obtain ⟨oa, oc, hov, _⟩ := ho_slice ho
  have HF := hide' hf
  have HZ := hide' hz
  have HO := hide' ho
  have H1 := hide' h1
  have B1 := hide' b1
  have B2 := hide' b2
  have B3 := hide' b3
  have B4 := hide' b4
  have ZB := hide' zb
  have KB1 := hide' kb1
  have R1 := hide' r1
  have BS := hide' (bas2_start w fv room zv power k1 kv1)
  subst hfv hzv hkv1 hov
  rename_i y1 y2 y3 y4
  clear y1 y2 y3 y4 hf hz ho h1 b1 b2 b3 b4 zb kb1 r1
  obtain ⟨nf, hnf⟩ : ∃ n, n = fs.length := ⟨_, rfl⟩
  obtain ⟨nz, hnz⟩ : ∃ n, n = fails.length := ⟨_, rfl⟩
  obtain ⟨n1, hn1⟩ : ∃ n, n = keep1.length := ⟨_, rfl⟩
  obtain ⟨no, hno⟩ : ∃ n, n = os.length := ⟨_, rfl⟩
  have NF := hide' hnf
  rw [← hnf, ← hnz, ← hn1] at BS
  rw [← hnf] at HF
  rw [← hnz] at HZ
  rw [← hn1] at H1
  rw [← hno] at HO
  rw [← hnf, ← hnz, ← hn1, ← hno]
  clear hnf hnz hn1 hno
  go_enter Try.func6, Try.ntmps6
  go_wp2_with fail
  generalize ((w.alloc (.cells #[.slice fa nf fc, .int .i64 room, .slice za nz zc, .int .i64 power] 25)).alloc (.cells #[.int .i64 k1, .slice ka n1 kc] 55)) = W3 at BS ⊢
  refine (aliveC W3).mono ?_
  rintro e w1 ⟨rfl, hb1⟩
  have BS1 := hide' (bas2_below BS.out hb1)
  clear hb1 BS
  obtain ⟨⟨x0, x1, x2, x3⟩, _⟩ := cells_4 BS1.out.p0
  have CB := hide' (beginC (.slice fa nf fc) fs room (.slice za nz zc) fails power w1 (holdsFi_mono HF.out BS1.out.bel) (holdsI_mono HZ.out BS1.out.bel) (fun f h => by have := bulkF_mem fs f h; have := B1.out; omega) (by have := bulkF_len fs; have := B1.out; omega) (by have := B2.out; omega) ZB.out)
  go_wp2_with fail
  refine CB.out.mono ?_
  intro e w2 np
  clear x0 x1 x2 x3 CB
  obtain ⟨nb, ⟨ne, rfl⟩ | ⟨hne0, g, o, rfl, hD, hO⟩⟩ := np
  · have NB := hide' (BS1.out.bel.trans (nb.mono BS1.out.bel.size))
    have ne' : ((newE fs room) != 0) = true := by simpa using ne
    clear nb
    generalize newE fs room = er at ne ne' ⊢
    go_wp2_with fail
    go_ret
    exact ⟨rfl, NB.out⟩
  have L0 : Hid (Liv o g (newS fs room fails power) w1 w2) := ⟨hD, hO, nb⟩
  have BD0 : Hid (Bd 1048576 (newS fs room fails power)) := bd_new fs room fails power 1048576 (by have := bulkF_len fs; have := B1.out; omega) (fun f h => by have := bulkF_mem fs f h; have := B1.out; omega)
  have BG0 : Hid (Beg fs (newS fs room fails power)) := beg_new fs room fails power
  have lnf : nf ≤ 1048576 := by have := bulkF_len fs; have := B1.out; have := NF.out; omega
  clear hD hO nb hne0
  have C0 := hide' (cutC (.slice oa no oc) os w2 (holdsO_mono HO.out (BS1.out.bel.trans (L0.out.bel.mono BS1.out.bel.size))) (by have := bulk_len os; have := B3.out; omega))
  generalize newS fs room fails power = s0 at L0 BD0 BG0 ⊢
  go_wp2_with fail
  refine C0.out.mono ?_
  rintro e w3 ⟨u, rfl, hu, rfl⟩
  have hcut := hu w HO.out
  obtain ⟨ua, uc, huv, hpos⟩ := ho_slice hcut
  have CUT := hide' hcut
  have BT : Hid (bulkO (os.take 300) ≤ 1048576) := Nat.le_trans (bulk_take os 300) B3.out
  clear C0 hu hcut
  generalize os.take 300 = ot at CUT huv hpos BT
  subst huv
  obtain ⟨nt, hnt⟩ : ∃ n, n = ot.length := ⟨_, rfl⟩
  have NT := hide' hnt
  rw [← hnt] at hpos ⊢
  have lnt : nt ≤ 1048576 := by have := bulk_len ot; have := BT.out; omega
  have BDS : Hid (∀ j, Bd 3000000 (runB s0 (ot.take j))) := fun j => bd_mono (bd_runB (ot.take j) BD0.out) (by have := bulk_take ot j; have := BT.out; omega)
  have BW : Hid (Below w.heap.size w w1) := BS1.out.bel
  have RUN : Hid (∀ j (h : j < ot.length), runB s0 (ot.take (j + 1)) = stepB (runB s0 (ot.take j)) ot[j]) := fun j h => runB_snoc _ ot j h
  have BGS : Hid (Beg fs (runB s0 (ot.take nt))) := beg_runB _ BG0.out
  clear hnt BG0
  go_wp2_with fail
  go_loopw [9, 10] (fun i _ wr => ∃ j : Nat, j ≤ nt ∧ i = .int .i64 j ∧ Hid (∃ o, Liv o g (runB s0 (ot.take j)) w1 wr)) (fun i _ _ => nt - (intOf i).toNat)
  case atStart => exact ⟨0, by omega, rfl, ⟨_, L0.out⟩⟩
  case round =>
    obtain ⟨j, hj, rfl, HL⟩ := hrel
    by_cases hlt : j < nt
    · have hj' : j < ot.length := by rw [← NT.out]; exact hlt
      obtain ⟨b, off, rfl⟩ := hpos (by omega)
      obtain ⟨o1, hl⟩ := HL.out
      have HL1 := hide' hl
      have BDj := hide' (BDS.out j)
      have RUNj := hide' (RUN.out j hj')
      have hbw : Below w.heap.size w wr := BW.out.trans (hl.bel.mono BW.out.size)
      obtain ⟨da, dl, dc, ⟨q0, q1, q2, q3⟩, hdat⟩ := op_at (holdsO_mono CUT.out hbw) j hj'
      have hbo := bulk_mem ot _ (List.getElem_mem hj')
      have hbt := BT.out
      have CS := hide' (opC (ot[j]'hj').1 ⟨(ot[j]'hj').2.1.toArray⟩ ⟨(ot[j]'hj').2.2.1.toArray⟩ da dl dc wr)
      have CD : Hid (∀ wx, Below wr.heap.size wr wx → Calls Try.prog 15 #[.pointer (some ⟨g, 0, none⟩), .agg #[.int .i64 (meant (ot[j]'hj').1), .string ⟨(ot[j]'hj').2.1.toArray⟩, .string ⟨(ot[j]'hj').2.2.1.toArray⟩, .slice da dl dc]] wx fun e W' => ∃ z, e = .returned (.int .i64 z) ∧ Hid (∃ o', Liv o' g (((runB s0 (ot.take j))).step (dop (ot[j]'hj'))).1 w1 W')) := fun wx hb => by
        refine (doMC (liv_below HL1.out hb) (ot[j]'hj') da dl dc (by omega) (by omega) (bd_mono BDj.out (by omega)) (holdsB_mono hdat hb) (by omega)).mono ?_
        rintro e W' ⟨rfl, o2, l2, _⟩
        exact ⟨_, rfl, o2, l2⟩
      have SB : Hid (begOp (ot[j]'hj') = true → ((runB s0 (ot.take j)).step (dop (ot[j]'hj'))).1 = runB s0 (ot.take (j + 1))) := fun h => by rw [RUNj.out]; unfold stepB; rw [if_pos h]
      have SN : Hid (begOp (ot[j]'hj') = false → runB s0 (ot.take j) = runB s0 (ot.take (j + 1))) := fun h => by rw [RUNj.out]; unfold stepB; rw [if_neg (by rw [h]; decide)]
      have hcase : (meant (ot[j]'hj').1 = 2 ∧ begOp (ot[j]'hj') = true) ∨ (meant (ot[j]'hj').1 = 3 ∧ begOp (ot[j]'hj') = true) ∨ ((meant (ot[j]'hj').1 == 2) = false ∧ (meant (ot[j]'hj').1 == 3) = false ∧ begOp (ot[j]'hj') = false) := by
        unfold begOp
        by_cases h2 : meant (ot[j]'hj').1 = 2
        · left; exact ⟨h2, by simp [h2]⟩
        · by_cases h3 : meant (ot[j]'hj').1 = 3
          · right; left; exact ⟨h3, by simp [h3]⟩
          · right; right; exact ⟨by simpa using h2, by simpa using h3, by simp [h2, h3]⟩
      clear hdat hbo hbt hl hbw HL RUNj
      generalize begOp (ot[j]'hj') = bo at SB SN hcase
      generalize (ot[j]'hj').1 = oa0 at q0 CS CD hcase
      generalize (ot[j]'hj').2.1.toArray = on0 at q1 CS CD
      generalize (ot[j]'hj').2.2.1.toArray = ot0 at q2 CS CD
      obtain ⟨ma, hma⟩ : ∃ ma, ma = meant oa0 := ⟨_, rfl⟩
      rw [← hma] at CS CD hcase
      clear hma
      go_wp2_with fail
      refine CS.out.mono ?_
      rintro e w4 ⟨rfl, hb4⟩
      have hbx := hb4.trans ((below_alloc' w4 (.cells #[.int .i64 ma, .string ⟨on0⟩, .string ⟨ot0⟩, .slice da dl dc] 42)).mono hb4.size)
      have CD4 := hide' (CD.out _ hbx)
      have L4 := hide' (liv_below HL1.out hbx)
      clear CS CD hb4 q0 q1 q2 q3 hbx HL1
      rcases hcase with ⟨hm, hb⟩ | ⟨hm, hb⟩ | ⟨hm1, hm2, hb⟩
      · subst hm
        go_wp2_with fail
        refine CD4.out.mono ?_
        rintro e w5 ⟨z, rfl, L5⟩
        rw [SB.out hb] at L5
        clear CD4
        go_wp2_with fail
        go_roundw
        case rel => exact ⟨j + 1, by omega, by go_num, L5⟩
        case measure => simp [intOf]; omega
      · subst hm
        go_wp2_with fail
        refine CD4.out.mono ?_
        rintro e w5 ⟨z, rfl, L5⟩
        rw [SB.out hb] at L5
        clear CD4
        go_wp2_with fail
        go_roundw
        case rel => exact ⟨j + 1, by omega, by go_num, L5⟩
        case measure => simp [intOf]; omega
      · rw [SN.out hb] at L4
        clear CD4
        go_wp2_with fail
        go_roundw
        case rel => exact ⟨j + 1, by omega, by go_num, ⟨_, L4.out⟩⟩
        case measure => simp [intOf]; omega
    · have ej : j = nt := by omega
      subst ej
      have BDE := hide' (BDS.out j)
      clear BDS RUN hj hlt L0 CUT hpos
      generalize runB s0 (ot.take j) = sE at HL BDE BGS
      obtain ⟨oE, hl⟩ := HL.out
      have HL1 := hide' hl
      have BSr := hide' (bas2_below BS1.out hl.bel)
      have WF := hide' (dsk_wf hl.dsk).1
      have CDn := hide' (downC hl.dsk)
      clear HL hl
      cases hdn : sE.down with
      | true =>
        rw [hdn] at CDn
        have LST : Hid (sE.list.length = 0) := by unfold Hid Dk.list; rw [hdn]; rfl
        clear hdn
        go_wp2_with fail
        refine CDn.out.mono ?_
        rintro e w4 ⟨rfl, nq, rfl⟩
        have L4 := hide' (liv_below HL1.out (below_drewN wr nq))
        have CL := hide' (listC L4.out.dsk (bd_mono BDE.out (by omega)))
        clear CDn
        generalize wr.drewN nq = w4 at L4 CL ⊢
        go_wp2_with fail
        refine CL.out.mono ?_
        rintro e w5 ⟨lv, rfl, ho5⟩
        obtain ⟨la, lc, hlv, _⟩ := holds_own ho5
        rw [LST.out] at hlv
        subst hlv
        have BE := hide' (BSr.out.bel.trans ((below_drewN wr nq).mono BSr.out.bel.size))
        have L5 := hide' (liv_below L4.out ho5.2)
        rename_i y1
        clear y1 CL ho5
        go_wp2_with fail
        go_ret
        exact ⟨rfl, BW.out.trans (L5.out.bel.mono BW.out.size)⟩
      | false =>
        rw [hdn] at CDn
        have DN := hide' hdn
        clear hdn
        go_wp2_with fail
        refine CDn.out.mono ?_
        rintro e w4 ⟨rfl, nq, rfl⟩
        have L4 := hide' (liv_below HL1.out (below_drewN wr nq))
        have BS4 := hide' (bas2_below BSr.out (below_drewN wr nq))
        clear CDn HL1 BSr
        generalize wr.drewN nq = w4 at L4 BS4 ⊢
        obtain ⟨⟨i0, i1⟩, _⟩ := cells_2 BS4.out.p1
        have CF := hide' (copyFateC k1 (.slice ka n1 kc) keep1 w4 (holdsI_mono H1.out BS4.out.bel) (by have := B4.out; omega))
        go_wp2_with fail
        refine CF.out.mono ?_
        rintro e w5 ⟨u5, rfl, hu5, hb5⟩
        have L5 := hide' (liv_below L4.out hb5)
        have BS5 := hide' (bas2_below BS4.out hb5)
        have C6 := hide' (leftC L5.out.dsk k1 u5 keep1 hu5 R1.out KB1.out (bd_mono BDE.out (by omega)))
        have LBD := hide' (left_bd L5.out.dsk BDE.out k1 keep1)
        have BL := hide' (beg_left BGS.out WF.out k1 keep1)
        clear CF hu5 hb5 i0 i1 L4 BS4
        generalize sE.left k1 keep1 = LF at C6 LBD BL
        go_wp2_with fail
        refine C6.out.mono ?_
        rintro e w6 ⟨lv, rfl, hF, hb6⟩
        have hF6 := holdsFi_sub (mask_sub _ _) hF
        obtain ⟨la, lc, hlv, _⟩ := id hF6
        have hLn : LF.length = nf := by rw [BL.out.1]; exact NF.out.symm
        rw [hLn] at hlv
        rename_i y1
        subst hlv
        have HF6 := hide' hF6
        have L6 := hide' (liv_below L5.out hb6)
        have BS6 := hide' (bas2_below BS5.out hb6)
        have LN := hide' hLn
        clear y1 C6 hF hb6 hF6 hLn L5 BS5
        obtain ⟨⟨x0, x1, x2, x3⟩, _⟩ := cells_4 BS6.out.p0
        have CL := hide' (listC L6.out.dsk (bd_mono BDE.out (by omega)))
        rw [beg_list BGS.out DN.out] at CL
        go_wp2_with fail
        refine CL.out.mono ?_
        rintro e w7 ⟨lv7, rfl, ho7⟩
        have L7 := hide' (liv_below L6.out ho7.2)
        have BS7 := hide' (bas2_below BS6.out ho7.2)
        have HF7 := hide' (holdsFi_mono HF6.out ho7.2)
        have HO7 := hide' (holds_own ho7)
        have CN := hide' (namesC (.slice la nf lc) LF w7 HF7.out (by rw [LN.out]; omega))
        rw [BL.out.2.1] at CN
        clear CL ho7 x0 x1 x2 x3 L6 BS6 HF6
        go_wp2_with fail
        refine CN.out.mono ?_
        rintro e w8 ⟨lv8, rfl, ho8⟩
        have L8 := hide' (liv_below L7.out ho8.2)
        have BS8 := hide' (bas2_below BS7.out ho8.2)
        have HF8 := hide' (holdsFi_mono HF7.out ho8.2)
        have CT := hide' (sameTe _ _ _ w8 (holds_mono HO7.out ho8.2) (holds_own ho8) (by rw [List.length_map, ← NF.out]; omega))
        clear CN ho8 L7 BS7 HF7 HO7
        go_wp2_with fail
        refine CT.out.mono ?_
        rintro e w9 ⟨rfl, hb9⟩
        have L9 := hide' (liv_below L8.out hb9)
        have BS9 := hide' (bas2_below BS8.out hb9)
        have HF9 := hide' (holdsFi_mono HF8.out hb9)
        clear CT hb9 L8 BS8 HF8
        go_wp2_with fail
        go_loopw [12, 13, 14] (fun i _ _ wr => ∃ m : Nat, m ≤ nf ∧ i = .int .i64 m ∧ Hid (Below w9.heap.size w9 wr)) (fun i _ _ _ => nf - (intOf i).toNat)
        case atStart => exact ⟨0, by omega, rfl, Below.refl _ _⟩
        case round =>
          obtain ⟨m, hm, rfl, HB⟩ := hrel
          by_cases hlt : m < nf
          · have hm1 : m < LF.length := by rw [LN.out]; exact hlt
            have hm2 : m < fs.length := by rw [← NF.out]; exact hlt
            have Lr := hide' (liv_below L9.out HB.out)
            have BSr := hide' (bas2_below BS9.out HB.out)
            obtain ⟨b1, o1, rfl, hlt1, da1, dc1, y1, y2, y3⟩ := fi_at (holdsFi_mono HF9.out HB.out) m hm1
            obtain ⟨b2, o2, rfl, hlt2, da2, dc2, z1, z2, z3⟩ := fi_at (holdsFi_mono HF.out BSr.out.bel) m hm2
            obtain ⟨g1, g2, g3⟩ := BL.out.2.2 m hm1
            have en := left_fst BL.out.2.1 m hm1 hm2
            have RD := beg_read BGS.out WF.out DN.out m hm2
            rw [en] at y1
            have hsz : (⟨((fs[m]'hm2).1).toArray⟩ : ByteArray).size ≤ 140737488351232 := by rw [size_l]; have := bulkF_mem fs _ (List.getElem_mem hm2); have := B1.out; omega
            have CR := readC Lr.out.dsk ⟨((fs[m]'hm2).1).toArray⟩ hsz (bd_mono BDE.out (by omega))
            have edt : (⟨((fs[m]'hm2).1).toArray⟩ : ByteArray).data.toList = (fs[m]'hm2).1 := by simp
            rw [edt, RD] at CR
            have CRH := hide' CR
            have gf : ((fs.map (fun f => f.2)).getD m []) = (fs[m]'hm2).2 := by simp [List.getD, hm2]
            rw [gf] at g2
            have hdl : ((sE.data.getD m []).take (leftLen sE keep1 m)).length = leftLen sE keep1 m := by rw [List.length_take]; omega
            rw [g1, hdl] at y2 y3
            have hd3 := BDE.out.2.2.2.2.2 m
            have Y2 : Hid (∀ Wx, Below wr.heap.size wr Wx → Wx.cell? ⟨b1, o1 + m * 2 + 1, none⟩ = some (.slice da1 (leftLen sE keep1 m) dc1)) := fun Wx hb => (hb.cell (p := ⟨b1, o1 + m * 2 + 1, none⟩) hlt1).trans y2
            have Z2 : Hid (∀ Wx, Below wr.heap.size wr Wx → Wx.cell? ⟨b2, o2 + m * 2 + 1, none⟩ = some (.slice da2 (fs[m]'hm2).2.length dc2)) := fun Wx hb => (hb.cell (p := ⟨b2, o2 + m * 2 + 1, none⟩) hlt2).trans z2
            have Y3 := hide' y3
            obtain ⟨LL, hLL⟩ : ∃ LL, LL = leftLen sE keep1 m := ⟨_, rfl⟩
            obtain ⟨FF, hFF⟩ : ∃ FF, FF = (fs[m]'hm2).2.length := ⟨_, rfl⟩
            obtain ⟨DD, hDD⟩ : ∃ DD, DD = (sE.data.getD m []).length := ⟨_, rfl⟩
            have HDD := hide' hDD
            rw [← hLL] at Y2 Y3 g2 g3 y2
            rw [← hFF] at Z2 g2 z2
            rw [← hDD] at g3 hd3
            have p1 : decide ((DD : Int) < (LL : Int)) = false := by simp; omega
            have p2 : decide ((LL : Int) < (FF : Int)) = false := by simp; omega
            generalize (⟨((fs[m]'hm2).1).toArray⟩ : ByteArray) = yn at y1 CRH
            generalize sE.data.getD m [] = bs at CRH HDD Y3
            clear hLL hFF hDD z1 z3 RD en CR edt gf hdl hsz y3 g1
            go_wp2_with fail
            refine CRH.out.mono ?_
            rintro e w10 ⟨rv, rfl, ho10⟩
            obtain ⟨ra, rc, hrv, pa, pc, hsl, hB2⟩ := own_take ho10 LL (by rw [← HDD.out]; omega)
            rw [← HDD.out] at hrv hsl
            subst hrv
            have B10 := hide' ho10.2
            obtain ⟨⟨v0, v1, v2, v3⟩, _⟩ := cells_4 (bas2_below BSr.out ho10.2).p0
            have c1 := Y2.out w10 ho10.2
            have c2 := Z2.out w10 ho10.2
            have CSB : Hid (∀ q, Calls Try.prog 26 #[.slice da1 LL dc1, .slice pa LL pc] (w10.drewN q) fun e w' => e = .returned (.bool true) ∧ ∃ z, w' = (w10.drewN q).drewN z) := fun q => by
              have h1 := holdsB_mono (holdsB_mono Y3.out B10.out) (below_drewN w10 q)
              have h2 := holdsB_mono hB2 (below_drewN w10 q)
              have := sameB _ _ _ _ (w10.drewN q) h1 h2 (by rw [List.length_take]; omega) (by rw [List.length_take]; omega)
              simpa using this
            have qi0 : (0 : Int) ≤ (m : Int) := by omega
            have qi1 : (m : Int) < (nf : Int) := by omega
            clear CRH ho10 hB2 y2 z2 Y2 Z2
            go_wp2_with fail
            go_quiet (first | (go_at_call 26; exact Calls.quiet_of (CSB.out _)))
            go_wp2_with fail
            go_roundw
            case rel => exact ⟨m + 1, by omega, by go_num, below_drawn (HB.out.trans (B10.out.mono HB.out.size)) _⟩
            case measure => simp [intOf]; omega
          · have em : m = nf := by omega
            obtain ⟨wP, hwP⟩ : ∃ x, x = wr := ⟨_, rfl⟩
            subst hwP
            have Lr := hide' (liv_below L9.out HB.out)
            have BSr := hide' (bas2_below BS9.out HB.out)
            clear em L9 BS9 HF9 BL
            go_wp2_with fail
            clear hlt hm
            have FB : Hid (Blk wP.heap.size (wP.alloc (.cells #[.int .i64 1099511627776, .slice none 0 0] 55)) [.int .i64 1099511627776, .slice none 0 0]) := by unfold Hid; simpa using cells_lit wP #[.int .i64 1099511627776, .slice none 0 0] 55
            have FL0 : Hid (Below wP.heap.size wP (wP.alloc (.cells #[.int .i64 1099511627776, .slice none 0 0] 55))) := below_alloc' _ _
            have FS0 : Hid ((wP.alloc (.cells #[.int .i64 1099511627776, .slice none 0 0] 55)).heap.size = wP.heap.size + 1) := by unfold Hid; simp
            generalize wP.alloc (.cells #[.int .i64 1099511627776, .slice none 0 0] 55) = wF at FB FL0 FS0 ⊢
            go_loopw [16] (fun i wx => ∃ (t : Nat) (ra : Option Addr) (rc : Nat), t ≤ nf ∧ i = .int .i64 t ∧ Hid (Blk wP.heap.size wx [.int .i64 1099511627776, .slice ra t rc]) ∧ Hid (wx.ownsRow (wP.heap.size + 1) 3 1 (.slice ra t rc) t (List.replicate t (.int .i64 1099511627776))) ∧ Hid (Below wP.heap.size wP wx)) (fun i _ => nf - (intOf i).toNat)
            case atStart => exact ⟨0, none, 0, by omega, rfl, FB, World.ownsRow_nil _ _ _ _, FL0⟩
            case round =>
              obtain ⟨t, ra, rc, ht, rfl, KB, KR, KL⟩ := hrel
              obtain ⟨wx, hwx⟩ : ∃ x, x = wr := ⟨_, rfl⟩
              subst hwx
              have BSx := hide' (bas2_below BSr.out KL.out)
              by_cases hlt : t < nf
              · obtain ⟨⟨v0, v1, v2, v3⟩, _⟩ := cells_4 BSx.out.p0
                obtain ⟨⟨u0, u1⟩, u2, u3⟩ := cells_2 KB.out
                have RP : Hid (List.replicate t (Value.int .i64 1099511627776) ++ [.int .i64 1099511627776] = List.replicate (t + 1) (.int .i64 1099511627776)) := by unfold Hid; rw [← List.replicate_succ']
                have hrow : Hid (∀ k, (Value.slice ra t rc).ownBlock = some k → wP.heap.size + 1 ≤ k) := fun k e => (KR.out.lt k e).1
                have FIN : Hid (∀ v6 w6, w6.ownsRow (wP.heap.size + 1) 3 1 v6 (t + 1) (List.replicate t (.int .i64 1099511627776) ++ [.int .i64 1099511627776]) → (wx.alloc (.cells #[.int .i64 1099511627776] 3)).grownBy w6 (Value.slice ra t rc).ownBlock → ∃ va vc, v6 = .slice va (t + 1) vc ∧ w6.ownsRow (wP.heap.size + 1) 3 1 (.slice va (t + 1) vc) (t + 1) (List.replicate (t + 1) (.int .i64 1099511627776)) ∧ Blk wP.heap.size w6 [.int .i64 1099511627776, .slice ra t rc] ∧ Below wP.heap.size wP w6) := fun v6 w6 r6 g6 => by
                  rw [RP.out] at r6
                  obtain ⟨va, vc, hv6⟩ := row_sl r6
                  subst hv6
                  exact ⟨va, vc, rfl, r6, blk_grownR (cells_below KB.out (below_alloc' wx (.cells #[.int .i64 1099511627776] 3))) g6 hrow.out (Nat.lt_succ_self _), Below.grown (KL.out.trans ((below_alloc' wx (.cells #[.int .i64 1099511627776] 3)).mono KL.out.size)) g6 (by have := KL.out.size; simp; omega) (fun k e => by have := hrow.out k e; omega)⟩
                go_wp2_with (at_builtin; refine appRow rfl (.tmp 159) (.tmp 160) 23 3 (.int .i64 0) 1 8 Try.underlying23 Try.info3 rfl (by decide) rfl (wP.heap.size + 1) _ t _ rfl (by have := KB.out.2; simp; omega) (row_below KR.out (below_alloc' _ _)) _ 1 [.int .i64 1099511627776] rfl (held_lit _ #[.int .i64 1099511627776] _ 1 1 rfl) (by intro x hx; simp at hx; subst hx; rfl) (by unfold maxLen; omega) (by omega) ?_; intro v6 w6 r6 g6; obtain ⟨va, vc, hv6, r7, kb7, kl7⟩ := FIN.out v6 w6 r6 g6; clear r6 g6; subst hv6; have R6 := hide' r7; have KB6 := hide' kb7; have KL6 := hide' kl7; clear r7 kb7 kl7; obtain ⟨⟨t0, t1⟩, t2, t3⟩ := cells_2 KB6.out)
                go_roundw
                case rel =>
                  have b7 := cells_set KB6.out (show 1 < 2 by decide) (.slice va (t + 1) vc)
                  exact ⟨t + 1, va, vc, by omega, by go_num, b7, row_poke R6.out (Nat.lt_succ_self _), KL6.out.setCell (Nat.le_refl _) _⟩
                case measure => simp [intOf]; omega
              · have et : t = nf := by omega
                subst et
                obtain ⟨⟨v0, v1, v2, v3⟩, _⟩ := cells_4 BSx.out.p0
                obtain ⟨⟨u0, u1⟩, u2, u3⟩ := cells_2 KB.out
                have Lx := hide' (liv_below Lr.out KL.out)
                have hk9 : HoldsI wx (.slice ra t rc) (List.replicate t 1099511627776) := by
                  have := holdsI_row (base := wP.heap.size + 1) (w := wx) (v := .slice ra t rc) (zs := List.replicate t 1099511627776) (by rw [List.length_replicate, List.map_replicate]; exact KR.out)
                  exact this
                have C9 := hide' (leftC Lx.out.dsk 1099511627776 (.slice ra t rc) (List.replicate t 1099511627776) hk9 (by decide) (fun z hz => by have := List.eq_of_mem_replicate hz; omega) (bd_mono BDE.out (by omega)))
                have LB9 := hide' (left_bd Lx.out.dsk BDE.out 1099511627776 (List.replicate t 1099511627776))
                have BL9 := hide' (beg_left BGS.out WF.out 1099511627776 (List.replicate t 1099511627776))
                have BH9 : Hid (∀ i (hi : i < (sE.left 1099511627776 (List.replicate t 1099511627776)).length), ((sE.left 1099511627776 (List.replicate t 1099511627776))[i]).2 = sE.data.getD i []) := fun i hi => beg_whole BGS.out WF.out (fun i => by have := BDE.out.2.2.2.2.2 i; omega) t NF.out i hi
                generalize sE.left 1099511627776 (List.replicate t 1099511627776) = LW at C9 LB9 BL9 BH9
                clear hk9 v1 v2 v3
                go_wp2_with fail
                refine C9.out.mono ?_
                rintro e w10 ⟨lv, rfl, hF, hb10⟩
                have hF10 := holdsFi_sub (mask_sub _ _) hF
                obtain ⟨wa, wc, hlv, _⟩ := id hF10
                have hLn : LW.length = t := by rw [BL9.out.1]; exact NF.out.symm
                rw [hLn] at hlv
                rename_i y1
                subst hlv
                have HW := hide' hF10
                have L10 := hide' (liv_below Lx.out hb10)
                have LN9 := hide' hLn
                clear y1 C9 hF hb10 hF10 hLn u0 u1 u2 u3 v0
                go_wp2_with fail
                go_loopw [18, 19, 20] (fun i _ _ wy => ∃ m : Nat, m ≤ t ∧ i = .int .i64 m ∧ Hid (Below w10.heap.size w10 wy)) (fun i _ _ _ => t - (intOf i).toNat)
                case atStart => exact ⟨0, by omega, rfl, Below.refl _ _⟩
                case round =>
                  obtain ⟨m, hm, rfl, HBy⟩ := hrel
                  obtain ⟨wy, hwy⟩ : ∃ x, x = wr := ⟨_, rfl⟩
                  subst hwy
                  by_cases hlt : m < t
                  · have hm1 : m < LW.length := by rw [LN9.out]; exact hlt
                    have hm2 : m < fs.length := by rw [← NF.out]; exact hlt
                    have Ly := hide' (liv_below L10.out HBy.out)
                    obtain ⟨b1, o1, rfl, hlt1, da1, dc1, y1, y2, y3⟩ := fi_at (holdsFi_mono HW.out HBy.out) m hm1
                    have en := left_fst BL9.out.2.1 m hm1 hm2
                    have RD := beg_read BGS.out WF.out DN.out m hm2
                    rw [en] at y1
                    have hsz : (⟨((fs[m]'hm2).1).toArray⟩ : ByteArray).size ≤ 140737488351232 := by rw [size_l]; have := bulkF_mem fs _ (List.getElem_mem hm2); have := B1.out; omega
                    have CR := readC Ly.out.dsk ⟨((fs[m]'hm2).1).toArray⟩ hsz (bd_mono BDE.out (by omega))
                    have edt : (⟨((fs[m]'hm2).1).toArray⟩ : ByteArray).data.toList = (fs[m]'hm2).1 := by simp
                    rw [edt, RD] at CR
                    have CRH := hide' CR
                    have hd3 := BDE.out.2.2.2.2.2 m
                    rw [BH9.out m hm1] at y2 y3
                    have Y2 : Hid (∀ Wx, Below wy.heap.size wy Wx → Wx.cell? ⟨b1, o1 + m * 2 + 1, none⟩ = some (.slice da1 (sE.data.getD m []).length dc1)) := fun Wx hb => (hb.cell (p := ⟨b1, o1 + m * 2 + 1, none⟩) hlt1).trans y2
                    have Y3 := hide' y3
                    obtain ⟨DD, hDD⟩ : ∃ DD, DD = (sE.data.getD m []).length := ⟨_, rfl⟩
                    have HDD := hide' hDD
                    rw [← hDD] at Y2 Y3 hd3
                    generalize (⟨((fs[m]'hm2).1).toArray⟩ : ByteArray) = yn at y1 CRH
                    generalize sE.data.getD m [] = bs at CRH HDD Y3
                    clear hDD RD en CR edt hsz y3 y2
                    go_wp2_with fail
                    refine CRH.out.mono ?_
                    rintro e w11 ⟨rv, rfl, ho11⟩
                    have c1 := Y2.out w11 ho11.2
                    have B11 := hide' ho11.2
                    have CSB := hide' (sameB _ _ _ _ w11 (holdsB_own ho11) (holdsB_mono Y3.out ho11.2) (by rw [← HDD.out]; omega) (by rw [← HDD.out]; omega))
                    rw [show decide (bs = bs) = true by simp] at CSB
                    clear CRH Y2
                    go_wp2_with fail
                    refine CSB.out.mono ?_
                    rintro e w12 ⟨rfl, nz2, rfl⟩
                    go_wp2_with fail
                    go_roundw
                    case rel => exact ⟨m + 1, by omega, by go_num, below_drawn (HBy.out.trans (B11.out.mono HBy.out.size)) _⟩
                    case measure => simp [intOf]; omega
                  · have Ly := hide' (liv_below L10.out HBy.out)
                    go_wp2_with fail
                    go_ret
                    exact ⟨rfl, BW.out.trans (Ly.out.bel.mono BW.out.size)⟩
end Go.Proofs.Ytbpegpklbenblaa
namespace Go.Proofs.Ytbpegpklbenblaa.diskBeginnings
open Go.ChangeShapes Go.WideShapes Go.ChangeAt Go.RowKit
open Go.ChangeMaps (open_string shut_string)

theorem own : ownKnob Try.prog.godebug = none := by kernel_rfl
set_option maxRecDepth 100000 in
theorem contract (H : Type) (enc : TypeId × Value → H) (W : World) (base : Nat) (args : Array Value) (ds gs : List (DataW H)) (before : List MemPlace)
    (hval : ∀ (j : Nat) t v, Try.f6.params[j]? = some t → args[j]? = some v → Value.okWide Try.prog W .any base t v)
    (hW : DataW.Whole enc Try.prog Try.f6.params.toList Rows.diskBeginningsSpec.vars false W args.toList ds gs before) (hk0 : Rows.uptoSmall H (ds ++ gs) = true) :
    Calls Try.prog 6 args W fun e W' => ∃ v, e = .returned v ∧ Rows.diskBeginningsSpec.post enc Try.prog Try.f6 false true false false W args v W' := by
  have hW' := hW
  obtain ⟨p, q, hA0, hV, rfl, hfz, hnd⟩ := hW
  have hA : DataW.TrodAll enc Try.prog W 0 (fun _ => true) true Try.f6.params.toList args.toList ds p := hA0
  rw [Try.params6] at hA hval
  obtain ⟨v0, vs0, d0, ds0, p0, q0, hargs, rfl, rfl, h0, r0⟩ := trodAll_cons hA
  obtain ⟨v1, vs1, d1, ds1, p1, q1, rfl, rfl, rfl, h1, r1⟩ := trodAll_cons r0
  obtain ⟨v2, vs2, d2, ds2, p2, q2, rfl, rfl, rfl, h2, r2⟩ := trodAll_cons r1
  obtain ⟨rfl, rfl, rfl⟩ := trodAll_nil r2
  obtain rfl : args = #[v0, v1, v2] := by cases args; simp_all
  obtain ⟨rfl, rfl⟩ := trodVars_none hV
  have hk := of_decide_eq_true hk0
  simp only [List.append_nil, Rows.uptoBulkAll] at hk
  have lt0 : ∀ x ∈ p0, x.block < W.heap.size := by obtain ⟨m, hm⟩ := h0; exact DataW.trod_lt m _ _ _ hm
  obtain ⟨fv0, fs0, rm0, zv0, zs0, pw0, rfl, H0, G0, K0, w0, x0, z0⟩ := open_start (hval 0 25 v0 rfl rfl) h0
  have lt1 : ∀ x ∈ p1, x.block < W.heap.size := by obtain ⟨m, hm⟩ := h1; exact DataW.trod_lt m _ _ _ hm
  obtain ⟨os1, H1, K1, w1⟩ := open_script (hval 1 26 v1 rfl rfl) h1
  have lt2 : ∀ x ∈ p2, x.block < W.heap.size := by obtain ⟨m, hm⟩ := h2; exact DataW.trod_lt m _ _ _ hm
  obtain ⟨k2, kv2, zs2, rfl, H2, K2, w2, z2⟩ := open_fate (hval 2 55 v2 rfl rfl) h2
  clear hA0
  refine (beginningsC rm0 pw0 k2 H0 G0 H1 H2 (by omega) (by omega) (by omega) (by omega) z0 z2 w2).mono fun e W' ⟨he, bel⟩ => ?_
  subst he
  exact ⟨_, rfl, _, _, _, [], _, [], hW', trodAll_mk1 (shut_bool Try.underlying4 _), (trodAll_cons_mk (Below.trod laidOut (by kernel_rfl) (of_decide_eq_true (by kernel_rfl)) h0 bel lt0) (trodAll_cons_mk (Below.trod laidOut (by kernel_rfl) (of_decide_eq_true (by kernel_rfl)) h1 bel lt1) (trodAll_cons_mk (Below.trod laidOut (by kernel_rfl) (of_decide_eq_true (by kernel_rfl)) h2 bel lt2) trodAll_mk0))), rfl, bel.frame _, fun h => by cases h⟩

/-- a world whose listed variables hold what their text lays -/
def laying (w : World) : World :=
  { w with heap := w.heap }
theorem laid_met (os : Os) : laidMet Try.prog Rows.diskBeginningsUptoRow.laid ((laying (World.holding Try.prog os ⟨#[], #[], []⟩)).forCall (fun _ _ => 0) ⟨#[], #[.agg #[.slice none 0 0, .int .i64 0, .slice none 0 0, .int .i64 0], .slice none 0 0, .agg #[.int .i64 0, .slice none 0 0]], []⟩).memory :=
  laidMet_of_run' 8 (by kernel_rfl) (by kernel_rfl)
theorem reads (os : Os) {H : Type} (enc : TypeId × Value → H) : ∃ places, DataW.whole enc Try.prog ((laying (World.holding Try.prog os ⟨#[], #[], []⟩)).forCall (fun _ _ => 0) ⟨#[], #[.agg #[.slice none 0 0, .int .i64 0, .slice none 0 0, .int .i64 0], .slice none 0 0, .agg #[.int .i64 0, .slice none 0 0]], []⟩).memory Try.f6.params.toList Rows.diskBeginningsSpec.vars false #[Value.agg #[.slice none 0 0, .int .i64 0, .slice none 0 0, .int .i64 0], Value.slice none 0 0, Value.agg #[.int .i64 0, .slice none 0 0]].toList 8 = some ([.agg [.nil, .lit (.int .i64 0), .nil, .lit (.int .i64 0)], .nil, .agg [.lit (.int .i64 0), .nil]], [], places) :=
  ⟨[], by kernel_rfl⟩

set_option maxRecDepth 100000 in
theorem lifted (os : Os) (started : os.Started) (H : Type) (enc : TypeId × Value → H) (F : Stop.Interp) :
    ReturnsInHanded {} Try.checked os 6 .any ((Rows.OpenSpec.upto Rows.diskBeginningsSpec).preRow enc Try.prog Try.f6 Rows.diskBeginningsUptoRow.domain false Rows.diskBeginningsUptoRow.laid) (((Rows.OpenSpec.upto Rows.diskBeginningsSpec).at F).post enc Try.prog Try.f6 false true false false) := by
  obtain ⟨places, hx⟩ := reads os enc
  refine returnsInHanded_of_row (C := Try.checked) (s := Rows.OpenSpec.upto Rows.diskBeginningsSpec) own started (by kernel_rfl) Try.func6
    (witness_row_at (enc := enc) (C := Try.checked) false (laying (World.holding Try.prog os ⟨#[], #[], []⟩)) #[.agg #[.slice none 0 0, .int .i64 0, .slice none 0 0, .int .i64 0], .slice none 0 0, .agg #[.int .i64 0, .slice none 0 0]] rfl (by kernel_rfl) (by kernel_rfl) (by kernel_rfl)
      (OpenSpec.preRow_of_cond 8 hx (by kernel_rfl) (fun k hk => by cases hk; kernel_rfl) (by kernel_rfl) (laid_met os))) ?_
  intro W base args ds gs before hval hW _ hcond _ _ _ _
  exact contract H enc W base args ds gs before hval hW (hcond _ rfl)

theorem said : Rows.DiskBeginningsUptoSaid :=
  OpenClaim.holds_of_cond 6 Try.f6 rfl rfl rfl rfl rfl rfl rfl ⟨rfl, rfl, rfl, rfl, rfl⟩ rfl rfl rfl rfl rfl (by kernel_rfl) Try.func6 (by kernel_rfl)
    (of_decide_eq_true (by kernel_rfl)) (by unfold Func.isWrapper; first | (rw [if_pos (by decide +kernel)]; kernel_rfl) | (rw [if_neg (by decide +kernel)]; exact ⟨rfl, rfl⟩))
    (fun os started H enc _ F => by rw [OpenClaim.pre_eq_preRow]; exact lifted os started H enc F)
end Go.Proofs.Ytbpegpklbenblaa.diskBeginnings
namespace Go.Proofs.Ytbpegpklbenblaa
theorem diskBeginnings_holds : Rows.DiskBeginningsUptoSaid := diskBeginnings.said
#print axioms diskBeginnings_holds
end Go.Proofs.Ytbpegpklbenblaa
