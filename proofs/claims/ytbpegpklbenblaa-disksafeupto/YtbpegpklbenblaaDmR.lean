/- DiskSafe's walk. -/
import Derived.Test.YtbpegpklbenblaaBdF
import Derived.Test.YtbpegpklbenblaaOpnL
import Derived.Test.YtbpegpklbenblaaShw
namespace Go.Proofs.Ytbpegpklbenblaa
open Go.RowKit
theorem bas2_set {w : World} {fv : Value} {room : Int} {zv : Value} {power k1 : Int} {kv1 : Value} {W : World} (h : Bas2 w fv room zv power k1 kv1 W) : Bas2 w fv room (.slice none 0 0) (-1) k1 kv1 ((W.setCell ⟨w.heap.size, 2, none⟩ (.slice none 0 0)).setCell ⟨w.heap.size, 3, none⟩ (.int .i64 (-1))) := by
  refine ⟨?_, ?_, (h.bel.setCell (Nat.le_refl _) _).setCell (Nat.le_refl _) _⟩
  · have h1 := cells_set (cells_set h.p0 (j := 2) (by simp) (.slice none 0 0)) (j := 3) (by simp) (.int .i64 (-1))
    exact h1
  · exact cells_other (cells_other h.p1 (by omega) _) (by omega) _
theorem l_at {w : World} {ao : Option Addr} {n cap : Nat} {xs : List (List UInt8)} (h : HoldsL w (.slice ao n cap) xs) (j : Nat) (hj : j < xs.length) : ∃ b off, ao = some ⟨b, off, none⟩ ∧ ∃ da dn dc, w.cell? ⟨b, off + j, none⟩ = some (.slice da dn dc) ∧ HoldsB w (.slice da dn dc) xs[j] := by
  obtain ⟨ao', cap', e, _, _, hc⟩ := h
  simp only [Value.slice.injEq] at e
  obtain ⟨rfl, _, rfl⟩ := e
  obtain ⟨b, off, rfl, hlt, hcell⟩ := hc (fun e => by rw [e] at hj; cases hj)
  obtain ⟨u, h2, h3⟩ := hcell j hj
  obtain ⟨da, dc, hu, _⟩ := id h3
  subst hu
  exact ⟨b, off, rfl, da, _, dc, h2, h3⟩
/-- what lies outside of the disk's blocks is as it was behind its work -/
theorem far_step {o o' : Ow} {W W' : World} {v : Value} {bs : List UInt8} (h : HoldsB (mask o.has W) v bs) (hg : Grow o W o' W') : HoldsB (mask o'.has W') v bs := holdsB_sub (off_mask hg.off hg.new) h
theorem far_below {o : Ow} {W W' : World} {v : Value} {bs : List UInt8} (h : HoldsB (mask o.has W) v bs) (hb : Below W.heap.size W W') : HoldsB (mask o.has W') v bs := holdsB_sub (off_mask (S := o.has) (S' := o.has) (off_of hb) (fun _ hk => .inl hk)) h
theorem own_apart {o : Ow} {g : Nat} {s : Dk} {W W' : World} {v : Value} {bs : List UInt8} (h : Dsk o g s W) (ho : Own W v bs W') : ∀ ad n c, v = .slice (some ad) n c → o ad.block = none := by
  intro ad n c e
  rcases ho.1.2 with ⟨e2, _⟩ | ⟨x, cap, cur, e2, hx, _⟩
  · rw [e2] at e; cases e
  · rw [e2] at e
    simp only [Value.slice.injEq, Option.some.injEq] at e
    rw [← e.1]
    exact none_of_lt (dsk_lt h) hx
theorem extra_size (O : ByteArray) : ((⟨#[101, 120, 116, 114, 97]⟩ : ByteArray) ++ O).size = 5 + O.size := by rw [ByteArray.size_append]; rfl
set_option maxRecDepth 20000 in
set_option maxHeartbeats 16000000 in
theorem safeC {w : World} {fv zv dv mv kv1 : Value} {fs : FL} {fails : List Int} {bs : List UInt8} {xs : List (List UInt8)} {keep1 : List Int} (room power k1 : Int) (nm : ByteArray) (hf : HoldsFi w fv fs) (hd : HoldsB w dv bs) (hm : HoldsL w mv xs) (h1 : HoldsI w kv1 keep1) (hz : HoldsI w zv fails) (b1 : bulkF fs ≤ 1048576) (b2 : nm.size ≤ 1048576) (b3 : bs.length ≤ 1048576) (b5 : bulkT xs ≤ 1048576) (b4 : keep1.length ≤ 1048576)
    (kb1 : ∀ z ∈ keep1, -9223372036854775808 ≤ z ∧ z ≤ 9223372036854775807) (r1 : -9223372036854775808 ≤ k1 ∧ k1 ≤ 9223372036854775807) :
    Calls Try.prog 5 #[.agg #[fv, .int .i64 room, zv, .int .i64 power], .string nm, dv, mv, .agg #[.int .i64 k1, kv1]] w fun e w' => e = .returned (.bool true) ∧ Below w.heap.size w w' := by
  obtain ⟨fa, fc, hfv, _⟩ := id hf
  obtain ⟨za, zc, hzv, _⟩ := id hz
  obtain ⟨ka, kc, hkv1, _⟩ := id h1
  obtain ⟨da, dc, hdv, _⟩ := id hd
  obtain ⟨ma, mc, hmv, _⟩ := id hm
  have HF := hide' hf
  have HD := hide' hd
  have HM := hide' hm
  have H1 := hide' h1
  have B1 := hide' b1
  have B2 := hide' b2
  have B3 := hide' b3
  have B4 := hide' b4
  have B5 := hide' b5
  have KB1 := hide' kb1
  have R1 := hide' r1
  have BS := hide' (bas2_start w fv room zv power k1 kv1)
  subst hfv hzv hkv1 hdv hmv
  rename_i y1 y2 y3 y4 y5
  clear y1 y2 y3 y4 y5 hf hz hd hm h1 b1 b2 b3 b4 b5 kb1 r1
  obtain ⟨nf, hnf⟩ : ∃ n, n = fs.length := ⟨_, rfl⟩
  obtain ⟨nz, hnz⟩ : ∃ n, n = fails.length := ⟨_, rfl⟩
  obtain ⟨n1, hn1⟩ : ∃ n, n = keep1.length := ⟨_, rfl⟩
  obtain ⟨nb, hnb⟩ : ∃ n, n = bs.length := ⟨_, rfl⟩
  obtain ⟨nx, hnx⟩ : ∃ n, n = xs.length := ⟨_, rfl⟩
  have NX := hide' hnx
  rw [← hnf, ← hnz, ← hn1] at BS
  rw [← hnf] at HF
  rw [← hn1] at H1
  rw [← hnb] at HD
  rw [← hnx] at HM
  rw [← hnf, ← hnz, ← hn1, ← hnb, ← hnx]
  clear hnf hnz hn1 hnb hnx
  go_enter Try.func5, Try.ntmps5
  go_wp2_with fail
  generalize ((w.alloc (.cells #[.slice fa nf fc, .int .i64 room, .slice za nz zc, .int .i64 power] 25)).alloc (.cells #[.int .i64 k1, .slice ka n1 kc] 55)) = W3 at BS ⊢
  refine (aliveC W3).mono ?_
  rintro e w0 ⟨rfl, hb1⟩
  have BS0 := hide' (bas2_below BS.out hb1)
  clear hb1 BS
  obtain ⟨⟨x0, x1, x2, x3⟩, f0, f1, f2, f3⟩ := cells_4 BS0.out.p0
  have BS1 := hide' (bas2_set BS0.out)
  have CB := hide' (beginC (.slice fa nf fc) fs room (.slice none 0 0) [] (-1) _ (holdsFi_mono HF.out BS1.out.bel) ⟨none, 0, rfl, fun _ => rfl, Nat.le_refl _, fun h => absurd rfl h⟩ (fun f h => by have := bulkF_mem fs f h; have := B1.out; omega) (by have := bulkF_len fs; have := B1.out; omega) (by decide) (fun z h => by cases h))
  go_wp2_with fail
  generalize ((w0.setCell ⟨w.heap.size, 2, none⟩ (.slice none 0 0)).setCell ⟨w.heap.size, 3, none⟩ (.int .i64 (-1))) = w1 at BS1 CB ⊢
  refine CB.out.mono ?_
  intro e w2 np
  clear x0 x1 x2 x3 f0 f1 f2 f3 CB BS0
  obtain ⟨nbb, ⟨ne, rfl⟩ | ⟨hne0, g, o, rfl, hD, hO⟩⟩ := np
  · have NB := hide' (BS1.out.bel.trans (nbb.mono BS1.out.bel.size))
    have ne' : ((newE fs room) != 0) = true := by simpa using ne
    clear nbb
    generalize newE fs room = er at ne ne' ⊢
    go_wp2_with fail
    go_ret
    exact ⟨rfl, NB.out⟩
  have L0 : Hid (Liv o g (newS fs room [] (-1)) w1 w2) := ⟨hD, hO, nbb⟩
  have BD0 : Hid (Bd 1048576 (newS fs room [] (-1))) := bd_new fs room [] (-1) 1048576 (by have := bulkF_len fs; have := B1.out; omega) (fun f h => by have := bulkF_mem fs f h; have := B1.out; omega)
  have PW0 : Hid ((newS fs room [] (-1)).power < 0) := by unfold Hid; show (-1 : Int) < 0; decide
  have BW : Hid (Below w.heap.size w w1) := BS1.out.bel
  clear hD hO nbb hne0
  generalize newS fs room [] (-1) = s0 at L0 BD0 PW0
  have hns : nm.size ≤ 140737488351232 := by have := B2.out; omega
  have C1 := hide' (createC L0.out.dsk nm [] [] hns (bd_mono BD0.out (by omega)))
  go_wp2_with fail
  refine C1.out.mono ?_
  intro e w3 sp
  obtain ⟨o1, l1, _⟩ := liv_step L0.out sp
  have L1 := hide' l1
  have BD1 : Hid (Bd 1048600 (s0.step ⟨1, nm.data.toList, [], []⟩).1) := bd_mono (bd_step BD0.out _) (by show 1048576 + 2 + 0 ≤ 1048600; decide)
  have PW1 : Hid ((s0.step ⟨1, nm.data.toList, [], []⟩).1.power < 0) := by unfold Hid; rw [step_power]; exact PW0.out
  obtain ⟨rfl, _⟩ := sp
  rename_i r1 r2
  clear r1 r2 l1 L0 C1 BD0 PW0
  generalize s0.step ⟨1, nm.data.toList, [], []⟩ = p1 at L1 BD1 PW1 ⊢
  obtain ⟨s1, er0⟩ := p1
  have C2 := hide' (copyB (.slice da nb dc) bs w3 (holdsB_mono HD.out (BW.out.trans (L1.out.bel.mono BW.out.size))) (by have := B3.out; omega))
  go_wp2_with fail
  refine C2.out.mono ?_
  rintro e w4 ⟨cv, rfl, ho4⟩
  have L1b := hide' (liv_below L1.out ho4.2)
  obtain ⟨ca, cc, hcv, _⟩ := holdsB_own ho4
  rename_i r1
  subst hcv
  have C3 := hide' (appendC L1b.out.dsk nm [] _ bs hns (bd_mono BD1.out (by show 1048600 ≤ 900000000; omega)) (holdsB_own ho4) (by have := B3.out; omega) (own_apart L1.out.dsk ho4))
  clear r1 ho4 C2
  go_wp2_with fail
  refine C3.out.mono ?_
  intro e w5 sp
  obtain ⟨o2, l2, _⟩ := liv_step L1b.out sp
  have L2 := hide' l2
  have BD2 : Hid (Bd 3000000 (s1.step ⟨2, nm.data.toList, [], bs⟩).1) := bd_mono (bd_step BD1.out _) (by have := B3.out; show 1048600 + 2 + bs.length ≤ 3000000; omega)
  have PW2 : Hid ((s1.step ⟨2, nm.data.toList, [], bs⟩).1.power < 0) := by unfold Hid; rw [step_power]; exact PW1.out
  obtain ⟨rfl, _⟩ := sp
  rename_i r1 r2
  clear r1 r2 l2 L1 L1b C3 BD1 PW1
  dsimp only at L2 BD2 PW2 ⊢
  generalize s1.step ⟨2, nm.data.toList, [], bs⟩ = p2 at L2 BD2 PW2 ⊢
  obtain ⟨s2, er1⟩ := p2
  dsimp only at L2 BD2 PW2 ⊢
  have WF2 := hide' (dsk_wf L2.out.dsk).1
  have C4 := hide' (syncC L2.out.dsk nm [] [] hns (bd_mono BD2.out (by omega)))
  go_wp2_with fail
  refine C4.out.mono ?_
  intro e w6 sp
  obtain ⟨o3, l3, _⟩ := liv_step L2.out sp
  have L3 := hide' l3
  have BD3 : Hid (Bd 3000002 (s2.step ⟨3, nm.data.toList, [], []⟩).1) := bd_mono (bd_step BD2.out _) (by show 3000000 + 2 + 0 ≤ 3000002; decide)
  have KS := hide' (@kept_start s2 WF2.out PW2.out nm.data.toList [] [] [] [] [])
  obtain ⟨rfl, _⟩ := sp
  rename_i r1 r2
  clear r1 r2 l3 L2 C4 BD2 PW2 WF2
  generalize s2.step ⟨3, nm.data.toList, [], []⟩ = p3 at L3 BD3 KS ⊢
  obtain ⟨s3, er2⟩ := p3
  dsimp only at L3 BD3 KS ⊢
  by_cases he2 : er2 = 0
  · subst he2
    have C5 := hide' (syncNamesC L3.out.dsk [] [] [] (bd_mono BD3.out (by omega)))
    go_wp2_with fail
    refine C5.out.mono ?_
    intro e w7 sp
    obtain ⟨o4, l4, _⟩ := liv_step L3.out sp
    have L4 := hide' l4
    have BD4 : Hid (Bd 3000004 (s3.step ⟨4, [], [], []⟩).1) := bd_mono (bd_step BD3.out _) (by show 3000002 + 2 + 0 ≤ 3000004; decide)
    obtain ⟨rfl, _⟩ := sp
    rename_i r1 r2
    clear r1 r2 l4 L3 C5 BD3
    generalize s3.step ⟨4, [], [], []⟩ = p4 at L4 BD4 KS ⊢
    obtain ⟨s4, er3⟩ := p4
    dsimp only at L4 BD4 KS ⊢
    by_cases he3 : er3 = 0
    · subst he3
      obtain ⟨k, held, hkept, hread, _⟩ := KS.out trivial rfl
      have KP := hide' hkept
      have CR := readC L4.out.dsk nm hns (bd_mono BD4.out (by omega))
      rw [hread] at CR
      have CRH := hide' CR
      have hhl : held.length ≤ 3000004 := by
        have h1 := hkept.data.length_le
        have h2 := BD4.out.2.2.2.2.2 k
        omega
      clear KS hkept hread CR
      go_wp2_with fail
      refine CRH.out.mono ?_
      rintro e w8 ⟨rv, rfl, ho8⟩
      obtain ⟨ra, rc, hrv, _⟩ := holdsB_own ho8
      rename_i r1
      have L8 := hide' (liv_below L4.out ho8.2)
      have FAR : Hid (HoldsB (mask o4.has w8) rv held) := holdsB_sub (mask_mono (dsk_lt L4.out.dsk)) (own_mask ho8 (Nat.le_refl _))
      subst hrv
      obtain ⟨nh, hnh⟩ : ∃ n, n = held.length := ⟨_, rfl⟩
      have NH := hide' hnh
      rw [← hnh] at FAR hhl ⊢
      have lnx : nx ≤ 1048576 := by have := bulkT_len xs; have := B5.out; have := NX.out; omega
      clear r1 ho8 CRH L4 hnh
      have BI : Hid (∀ j (h : j < xs.length), xs[j].length ≤ 1048576) := fun j h => by have := bulkT_mem xs _ (List.getElem_mem h); have := B5.out; omega
      go_wp2_with fail
      go_loopw [14] (fun i wr => ∃ j : Nat, j ≤ nx ∧ j ≤ 50 ∧ i = .int .i64 j ∧ Hid (∃ o s, Liv o g s w1 wr ∧ Kept s nm.data.toList k held ∧ Bd (3000004 + j * 1048600) s ∧ HoldsB (mask o.has wr) (.slice ra nh rc) held)) (fun i _ => nx - (intOf i).toNat)
      case atStart => exact ⟨0, by omega, by omega, rfl, o4, s4, L8.out, KP.out, BD4.out, FAR.out⟩
      case round =>
        obtain ⟨j, hj, hj50, rfl, INV⟩ := hrel
        by_cases hgo : j < nx ∧ j < 50
        · obtain ⟨hlt, hl50⟩ := hgo
          have hj' : j < xs.length := by rw [← NX.out]; exact hlt
          · obtain ⟨o5, s5, l5, kp5, bd5, far5⟩ := INV.out
            obtain ⟨b, off, rfl, ea, en, ec, q0, hB⟩ := l_at (holdsL_mono HM.out (BW.out.trans (l5.bel.mono BW.out.size))) j hj'
            have L5 := hide' l5
            have KP5 := hide' kp5
            have BD5 := hide' bd5
            have FAR5 := hide' far5
            have hbj := BI.out j hj'
            have CC := hide' (copyB (.slice ea en ec) _ wr hB (by omega))
            have g50 : (j : Int) < 50 := by omega
            have qd : decide ((j : Int) < 50) = true := by simpa using g50
            obtain ⟨r3, hr3⟩ : ∃ r : Nat, r = j % 3 := ⟨_, rfl⟩
            have t1 : (j : Int).tmod 3 = (r3 : Int) := by rw [Int.tmod_eq_emod_of_nonneg (by omega), hr3]; omega
            have t2 : IntKind.i64.wrap (r3 : Int) = (r3 : Int) := wrap_small _ (by omega) (by omega)
            generalize xs[j]'hj' = ex at CC hbj
            clear hB l5 kp5 bd5 far5 INV hr3
            go_wp2_with fail
            refine CC.out.mono ?_
            rintro e w9 ⟨cv, rfl, ho9⟩
            have L9 := hide' (liv_below L5.out ho9.2)
            have FAR9 := hide' (far_below FAR5.out ho9.2)
            obtain ⟨ca9, cc9, hcv, _⟩ := holdsB_own ho9
            rename_i y1
            subst hcv
            have CA := hide' (appendC L9.out.dsk nm [] _ ex hns (bd_mono BD5.out (by omega)) (holdsB_own ho9) (by omega) (own_apart L5.out.dsk ho9))
            clear y1 ho9 CC L5 FAR5 q0
            go_wp2_with fail
            refine CA.out.mono ?_
            intro e w10 sp
            obtain ⟨o6, l6, g6⟩ := liv_step L9.out sp
            have L10 := hide' l6
            have FAR10 := hide' (far_step FAR9.out g6)
            have KP10 : Hid (Kept (s5.step ⟨2, nm.data.toList, [], ex⟩).1 nm.data.toList k held) := kept_step (dsk_wf L9.out.dsk).1 KP5.out _ (.inr rfl)
            have BD10 : Hid (Bd (3000004 + j * 1048600 + 1048580) (s5.step ⟨2, nm.data.toList, [], ex⟩).1) := bd_mono (bd_step BD5.out _) (by show 3000004 + j * 1048600 + 2 + ex.length ≤ _; omega)
            obtain ⟨rfl, _⟩ := sp
            rename_i y2
            clear y2 l6 g6 CA L9 FAR9 KP5 BD5
            generalize s5.step ⟨2, nm.data.toList, [], ex⟩ = p5 at L10 KP10 BD10 ⊢
            obtain ⟨s6, er5⟩ := p5
            dsimp only at L10 KP10 BD10 ⊢
            by_cases hr1 : r3 = 1
            · subst hr1
              have CSh := hide' (showInt (j : Int) (by omega) (by omega) w10)
              have hsh : (Lib.itoa (j : Int)).length ≤ 1000 := by
                have e1 : Lib.itoa (j : Int) = Lib.decDigits j := by unfold Lib.itoa; rw [if_neg (by omega), show (j : Int).toNat = j by omega]
                rw [e1]
                by_cases h0 : j = 0
                · subst h0; rw [Lib.decDigits_one (by decide)]; simp
                · have := decE_len 2 j (by omega)
                  unfold decE at this
                  rw [if_neg h0] at this
                  omega
              have hsz5 : (⟨(Lib.itoa (j : Int)).toArray⟩ : ByteArray).size ≤ 1000 := by rw [size_l]; exact hsh
              generalize (⟨(Lib.itoa (j : Int)).toArray⟩ : ByteArray) = O at CSh hsz5
              have a1 : ∀ W, (Op.stringOp .add ⟨#[101, 120, 116, 114, 97]⟩ O).run Try.prog W = .ok (.string (⟨#[101, 120, 116, 114, 97]⟩ ++ O)) W := fun W => run_string_add_sum W _ _ (by show 5 + O.size ≤ _; omega)
              have hsz6 : ((⟨#[101, 120, 116, 114, 97]⟩ : ByteArray) ++ O).size ≤ 140737488351232 := by rw [extra_size]; omega
              clear hsh
              go_wp2_with fail
              refine CSh.out.mono ?_
              rintro e w11 ⟨rfl, hb11⟩
              have L11 := hide' (liv_below L10.out hb11)
              have FAR11 := hide' (far_below FAR10.out hb11)
              have CC2 := hide' (createC L11.out.dsk (⟨#[101, 120, 116, 114, 97]⟩ ++ O) [] [] hsz6 (bd_mono BD10.out (by omega)))
              generalize (⟨#[101, 120, 116, 114, 97]⟩ : ByteArray) ++ O = O2 at a1 CC2 hsz6
              clear CSh hb11 L10 FAR10
              go_wp2_with fail
              refine CC2.out.mono ?_
              intro e w12 sp
              obtain ⟨o7, l7, g7⟩ := liv_step L11.out sp
              have L12 := hide' l7
              have FAR12 := hide' (far_step FAR11.out g7)
              have KP12 : Hid (Kept (s6.step ⟨1, O2.data.toList, [], []⟩).1 nm.data.toList k held) := kept_step (dsk_wf L11.out.dsk).1 KP10.out _ (.inl rfl)
              have BD12 : Hid (Bd (3000004 + (j + 1) * 1048600) (s6.step ⟨1, O2.data.toList, [], []⟩).1) := bd_mono (bd_step BD10.out _) (by show 3000004 + j * 1048600 + 1048580 + 2 + 0 ≤ _; omega)
              obtain ⟨rfl, _⟩ := sp
              rename_i y2
              clear y2 l7 g7 CC2 L11 FAR11 KP10 BD10
              go_wp2_with fail
              go_roundw
              case rel => exact ⟨j + 1, by omega, by omega, by go_num, o7, _, L12.out, KP12.out, BD12.out, FAR12.out⟩
              case measure => simp [intOf]; omega
            · have qr : ((r3 : Int) == 1) = false := by simp; omega
              have BD12 : Hid (Bd (3000004 + (j + 1) * 1048600) s6) := bd_mono BD10.out (by omega)
              go_wp2_with fail
              go_roundw
              case rel => exact ⟨j + 1, by omega, by omega, by go_num, o6, _, L10.out, KP10.out, BD12.out, FAR10.out⟩
              case measure => simp [intOf]; omega
        · have hx : ¬ j < nx ∨ (j < nx ∧ decide ((j : Int) < 50) = false) := by
            by_cases h : j < nx
            · right; exact ⟨h, by simp; omega⟩
            · left; exact h
          obtain ⟨o5, s5, l5, kp5, bd5, far5⟩ := INV.out
          have L5 := hide' l5
          have FAR5 := hide' far5
          have BD5 : Hid (Bd 80000000 s5) := bd_mono bd5 (by omega)
          have BS5 := hide' (bas2_below BS1.out l5.bel)
          have KF := hide' (kept_found (dsk_wf l5.dsk).1 kp5 k1 keep1)
          clear INV l5 kp5 bd5 far5 L8 KP FAR BD4 hgo
          rcases hx with qx | ⟨qx, qd⟩
          all_goals
            obtain ⟨⟨i0, i1⟩, _⟩ := cells_2 BS5.out.p1
            have CF := hide' (copyFateC k1 (.slice ka n1 kc) keep1 wr (holdsI_mono H1.out BS5.out.bel) (by have := B4.out; omega))
            go_wp2_with fail
            refine CF.out.mono ?_
            rintro e w9 ⟨u9, rfl, hu9, hb9⟩
            have L9 := hide' (liv_below L5.out hb9)
            have FAR9 := hide' (far_below FAR5.out hb9)
            have C6 := hide' (leftC L9.out.dsk k1 u9 keep1 hu9 R1.out KB1.out (bd_mono BD5.out (by omega)))
            have LBD := hide' (left_bd L9.out.dsk BD5.out k1 keep1)
            clear CF hu9 hb9 i0 i1 L5 BS5 FAR5
            generalize s5.left k1 keep1 = LF at C6 LBD KF
            go_wp2_with fail
            refine C6.out.mono ?_
            rintro e w10 ⟨lv, rfl, hF, hb10⟩
            have hF10 := holdsFi_sub (mask_sub _ _) hF
            obtain ⟨la, lc, hlv, _⟩ := id hF10
            rename_i y1
            subst hlv
            have HF10 := hide' hF10
            have L10 := hide' (liv_below L9.out hb10)
            have HR := hide' (holdsB_sub (mask_sub _ _) (far_below FAR9.out hb10))
            obtain ⟨nl, hnl⟩ : ∃ n, n = LF.length := ⟨_, rfl⟩
            have NL := hide' hnl
            have hnl2 : nl ≤ 160000000 := by have := LBD.out.1; omega
            rw [← hnl] at HF10 ⊢
            clear y1 C6 hF hb10 hF10 L9 FAR9 hnl
            go_wp2_with fail
            go_loopw [16] (fun i wx => ∃ m : Nat, m ≤ nl ∧ i = .int .i64 m ∧ Hid (∀ i (hi : i < LF.length), i < m → (LF[i]).1 ≠ nm.data.toList) ∧ Hid (Below w10.heap.size w10 wx)) (fun i _ => nl - (intOf i).toNat)
            case atStart => exact ⟨0, by omega, rfl, fun i hi h => absurd h (Nat.not_lt_zero _), Below.refl _ _⟩
            case round =>
              obtain ⟨m, hm, rfl, NOT, HB⟩ := hrel
              by_cases hlt : m < nl
              · have hm1 : m < LF.length := by rw [← NL.out]; exact hlt
                obtain ⟨b1, o1, rfl, hlt1, da1, dc1, y1, y2, y3⟩ := fi_at (holdsFi_mono HF10.out HB.out) m hm1
                have HR2 := hide' (holdsB_mono HR.out HB.out)
                by_cases heq : (LF[m]'hm1).1 = nm.data.toList
                · have hpre := KF.out.1 m hm1 heq
                  have q1 : ((⟨((LF[m]'hm1).1).toArray⟩ : ByteArray).toList == nm.toList) = true := by rw [Lib.toList_data, Lib.toList_data, heq]; simp
                  have hle := hpre.length_le
                  have hld := (LBD.out.2 _ (List.getElem_mem hm1)).2
                  obtain ⟨pa, pc, hsl, hB3⟩ := takeB_any wr da1 _ dc1 _ y3 rfl nh (by rw [NH.out]; exact hle)
                  have hte : ((LF[m]'hm1).2).take nh = held := by
                    obtain ⟨t, ht⟩ := hpre
                    rw [← ht, NH.out, List.take_left]
                  rw [hte] at hB3
                  have CSB := hide' (sameB _ _ _ _ wr hB3 HR2.out (by rw [← NH.out]; omega) (by rw [← NH.out]; omega))
                  rw [show decide (held = held) = true by simp] at CSB
                  rw [← NH.out] at hle
                  generalize (LF[m]'hm1).2.length = DL at y2 hle hsl hld
                  have q2 : decide ((nh : Int) ≤ (DL : Int)) = true := by simp; omega
                  generalize (⟨((LF[m]'hm1).1).toArray⟩ : ByteArray) = yn at y1 q1
                  clear y3 hB3 hte hpre
                  go_wp2_with fail
                  refine CSB.out.mono ?_
                  rintro e w11 ⟨rfl, nz2, rfl⟩
                  go_wp2_with fail
                  go_ret
                  exact ⟨rfl, below_drawn (BW.out.trans ((L10.out.bel.trans (HB.out.mono L10.out.bel.size)).mono BW.out.size)) _⟩
                · have q1 : ((⟨((LF[m]'hm1).1).toArray⟩ : ByteArray).toList == nm.toList) = false := by rw [Lib.toList_data, Lib.toList_data]; simpa using heq
                  have NOT2 : Hid (∀ i (hi : i < LF.length), i < m + 1 → (LF[i]).1 ≠ nm.data.toList) := fun i hi h => by
                    by_cases e : i = m
                    · subst e; exact heq
                    · exact NOT.out i hi (by omega)
                  generalize (⟨((LF[m]'hm1).1).toArray⟩ : ByteArray) = yn at y1 q1
                  clear y2 y3 heq
                  go_wp2_with fail
                  go_roundw
                  case rel => exact ⟨m + 1, by omega, by go_num, NOT2, HB⟩
                  case measure => simp [intOf]; omega
              · obtain ⟨i, hi, e⟩ := KF.out.2
                exact absurd e (NOT.out i hi (by have := NL.out; omega))
    · have ne' : (er3 != 0) = true := by simpa using he3
      go_wp2_with fail
      go_ret
      exact ⟨rfl, BW.out.trans (L4.out.bel.mono BW.out.size)⟩
  · have ne' : (er2 != 0) = true := by simpa using he2
    go_wp2_with fail
    go_ret
    exact ⟨rfl, BW.out.trans (L3.out.bel.mono BW.out.size)⟩
end Go.Proofs.Ytbpegpklbenblaa
