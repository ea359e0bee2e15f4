/- The walk of SwaplogSurvives. -/
import Derived.Test.YtmejbgnaoaiooaaGreatSwSv
import Derived.Test.YtmejbgnaoaiooaaGreatBdE
import Derived.Deep.DeepCutAuto
namespace Go.Proofs.YtmejbgnaoaiooaaGreat
open Go.RowKit Go.Shelf
set_option maxRecDepth 20000
/-- between two rounds: all that was tried is in the log -/
def LoopS (w0 : World) (g lb : Nat) (pw : Int) (i : Nat) (tv fv : Value) (W : World) : Prop :=
  ∃ (o : Ow) (nn : Nat) (bs : List UInt8) (f : Nat) (T : RL) (fm : Nat), fv = .int .i64 (fm : Int) ∧ SvS w0 g lb o (sL 1048576 pw nn bs f) (T.length : Int) tv T W ∧ Lif T bs f fm ∧ T.length ≤ i ∧ Bd (2000 + 13000 * i) (sL 1048576 pw nn bs f)
theorem loop_fin {w0 : World} {g lb : Nat} {pw : Int} {i : Nat} {tv fv : Value} {W : World} (h : LoopS w0 g lb pw i tv fv W) (hi : i ≤ 100) : FinS w0 g tv fv W := by
  obtain ⟨o, nn, bs, f, T, fm, h1, h2, h3, h4, h5⟩ := h
  exact ⟨o, _, T, T, fm, h1, h2.log.dsk, h2.own, h2.bel, h2.row, bd_mono h5 (by omega), fun k keep => left_l h3 _ _ _ k keep, List.prefix_refl _, by omega, by omega⟩
set_option maxHeartbeats 8000000 in
theorem survivesW (pw : Int) (av : Value) (adds : RL) (k : Int) (kv : Value) (zs : List Int) (W : World) (ha : HoldsR W av adds) (hid : ∀ r ∈ adds, r.2.2.2.length ≤ 1000000000) (hal : adds.length ≤ 1000000000) (hz : HoldsI W kv zs) (hzl : zs.length ≤ 1000000000) (hkr : -9223372036854775808 ≤ k ∧ k ≤ 9223372036854775807) (hkb : ∀ z ∈ zs, -9223372036854775808 ≤ z ∧ z ≤ 9223372036854775807) :
    Calls Tryz.prog 5 #[.int .i64 pw, av, .agg #[.int .i64 k, kv]] W fun e w' => e = .returned (.bool true) ∧ Below W.heap.size W w' := by
  obtain ⟨aa, ac, b, off, rfl, hac⟩ := holdsR_parts ha
  obtain ⟨ka, kc, hkv, _⟩ := id hz
  subst hkv
  obtain ⟨n, hn⟩ : ∃ n, n = adds.length := ⟨_, rfl⟩
  have N1 : Hid (adds.length = n) := hn.symm
  obtain ⟨nz, hnz⟩ : ∃ nz, nz = zs.length := ⟨_, rfl⟩
  have NZ : Hid (zs.length = nz) := hnz.symm
  rw [N1.out] at hal ⊢
  rw [NZ.out] at hzl hz ⊢
  have bX := bel_a W (.cells #[.int .i64 k, .slice ka nz kc] 37)
  have fX : Blk W.heap.size (W.alloc (.cells #[.int .i64 k, .slice ka nz kc] 37)) [.int .i64 k, .slice ka nz kc] := by simpa using cells_lit W #[.int .i64 k, .slice ka nz kc] 37
  have HZ := hide' hz
  have HAC := hide' hac
  have HID := hide' hid
  have BX := hide' bX
  have FX := hide' fX
  clear ha hz hac hid hn hnz bX fX
  go_enter Tryz.func5, Tryz.ntmps5
  go_wp2_with fail
  refine (aliveL _).mono ?_
  rintro e w0 ⟨rfl, b0⟩
  have BW := hide' (BX.out.trans (b0.mono BX.out.size))
  have HZ0 := hide' (holdsI_mono HZ.out BW.out)
  have fb := blk_below FX.out b0
  have f0 := (fb.1 0 (by simp)).1
  have f1 := (fb.1 1 (by simp)).1
  have FL : Hid (W.heap.size < w0.heap.size) := fb.2
  have FB := hide' fb
  clear b0 fb
  by_cases hbig : 100 < n
  · have q : decide ((100 : Int) < (n : Int)) = true := by rw [decide_eq_true_iff]; omega
    have q' : (100 : Int) < (n : Int) := by omega
    go_wp2_with fail
    go_ret
    exact ⟨rfl, BW.out⟩
  · have q : decide ((100 : Int) < (n : Int)) = false := by rw [decide_eq_false_iff_not]; omega
    have q' : ¬ (100 : Int) < (n : Int) := by omega
    have hn100 : n ≤ 100 := by omega
    have CN := hide' (newC (.slice none 0 0) [] 1048576 (.slice none 0 0) [] pw w0 ⟨none, 0, rfl, fun _ => rfl, Nat.le_refl _, fun h => absurd rfl h⟩ ⟨none, 0, rfl, fun _ => rfl, Nat.le_refl _, fun h => absurd rfl h⟩ (fun f h => by cases h) (by decide) (by decide) (fun z h => by cases h))
    clear hbig
    go_wp2_with fail
    refine CN.out.mono ?_
    intro e w1 np
    obtain ⟨nb, ⟨ne, _⟩ | ⟨_, g, o, rfl, hD, hO⟩⟩ := np
    · exact absurd rfl ne
    have CO := hide' (openL (s := sE 1048576 pw 0) hD 100 (bd_new [] 1048576 [] pw 100 (by decide) (fun f h => by cases h)) (by decide))
    have OF := hide' (open_fresh 1048576 pw 0)
    have NB := hide' nb
    have HO := hide' hO
    clear CN hD hO nb
    go_wp2_with fail
    refine CO.out.mono ?_
    rintro e w2 ⟨op, hbd⟩
    obtain ⟨lpo, lv, y, rfl, UC⟩ : ∃ lpo lv y, e = .returned (.tuple #[.pointer lpo, lv, .int .i64 y]) ∧ Hid ((y ≠ 0 ∧ (openT rdT (sE 1048576 pw 0)).2 ≠ 0 ∧ ∃ o2, Dsk o2 g (openT rdT (sE 1048576 pw 0)).1.1.1 w2 ∧ Grow o w1 o2 w2) ∨ (y = 0 ∧ (openT rdT (sE 1048576 pw 0)).2 = 0 ∧ ∃ lb o2, lpo = some ⟨lb, 0, none⟩ ∧ LogS o2 g lb (openT rdT (sE 1048576 pw 0)).1.1.1 ((openT rdT (sE 1048576 pw 0)).1.2.length : Int) w2 ∧ Grow o w1 o2 w2 ∧ w1.heap.size ≤ lb)) := by
      obtain ⟨ne, he, o2, hD2, hg2⟩ | ⟨ok, lb, lv, o2, he, hl2, hg2, hlb2, _⟩ := op
      · exact ⟨none, _, _, he, .inl ⟨ne, ne, o2, hD2, hg2⟩⟩
      · exact ⟨some ⟨lb, 0, none⟩, _, _, he, .inr ⟨rfl, ok, lb, o2, rfl, hl2, hg2, hlb2⟩⟩
    have HBD := hide' hbd
    clear op hbd CO
    go_wp2_with fail
    rename_i KK hKK
    have RESTH : ∀ {x0 x1 x2 x3 x4 x6 x8 x9 x10 x13 x14 x15 x16 x17 x18 x19 x20 x21 x22 x23 x24 x25 x26 x27 x28 x29 x30 x31 x32 x33 x34 x35 x36 x37 x38 x39 x40 x41 x42 x43 x44 x45 x46 x47 x48 x49 x50 x51 x52 x53 x54 x55 x56 x57 x58 x59 x60 x61 x62 x63 x64 x65 x66 x67 x68 x69 x70 x71 x72 x73 x74 x75 x76 x77 x78 x79 x80 x81 x82 x83 x84 x85 x86 x87 x88 x89 x90 x91 x92 x93 x94 x95 x96 x97 x98 x99 x100 x101 x102 x103 x104 x105 x106 x107 x108 x109 x110 x111 x112 x113 x114 x115 x116 x117 x118 x119 x120 x121 x122 x123 x124 x125 x126 x127 x128 x129 x130 x131 x132 x133 x134 x135 x136 x137 x138 x139 x140 x141 x142 x143 x144 x145 x146 x147 x148 x149 : Value} {tv fv : Value} {wc : World}, Hid (FinS w0 g tv fv wc) → KK { tmps := #[x0, x1, x2, x3, x4, .pointer (some ⟨W.heap.size, 0, none⟩), x6, .pointer (some ⟨g, 0, none⟩), x8, x9, x10, tv, fv, x13, x14, x15, x16, x17, x18, x19, x20, x21, x22, x23, x24, x25, x26, x27, x28, x29, x30, x31, x32, x33, x34, x35, x36, x37, x38, x39, x40, x41, x42, x43, x44, x45, x46, x47, x48, x49, x50, x51, x52, x53, x54, x55, x56, x57, x58, x59, x60, x61, x62, x63, x64, x65, x66, x67, x68, x69, x70, x71, x72, x73, x74, x75, x76, x77, x78, x79, x80, x81, x82, x83, x84, x85, x86, x87, x88, x89, x90, x91, x92, x93, x94, x95, x96, x97, x98, x99, x100, x101, x102, x103, x104, x105, x106, x107, x108, x109, x110, x111, x112, x113, x114, x115, x116, x117, x118, x119, x120, x121, x122, x123, x124, x125, x126, x127, x128, x129, x130, x131, x132, x133, x134, x135, x136, x137, x138, x139, x140, x141, x142, x143, x144, x145, x146, x147, x148, x149], defers := [] } wc := by
      intro x0 x1 x2 x3 x4 x6 x8 x9 x10 x13 x14 x15 x16 x17 x18 x19 x20 x21 x22 x23 x24 x25 x26 x27 x28 x29 x30 x31 x32 x33 x34 x35 x36 x37 x38 x39 x40 x41 x42 x43 x44 x45 x46 x47 x48 x49 x50 x51 x52 x53 x54 x55 x56 x57 x58 x59 x60 x61 x62 x63 x64 x65 x66 x67 x68 x69 x70 x71 x72 x73 x74 x75 x76 x77 x78 x79 x80 x81 x82 x83 x84 x85 x86 x87 x88 x89 x90 x91 x92 x93 x94 x95 x96 x97 x98 x99 x100 x101 x102 x103 x104 x105 x106 x107 x108 x109 x110 x111 x112 x113 x114 x115 x116 x117 x118 x119 x120 x121 x122 x123 x124 x125 x126 x127 x128 x129 x130 x131 x132 x133 x134 x135 x136 x137 x138 x139 x140 x141 x142 x143 x144 x145 x146 x147 x148 x149 tv fv wc HF
      refine hKK _ _ ?_
      clear hKK UC HBD HO NB OF HAC
      obtain ⟨o9, s9, T9, tr9, fm9, hfv, hd9, ho9, hb9, hrow9, hbd9, hlf9, hpre9, hT9, htr9⟩ := HF.out
      subst hfv
      have k0 := (hb9.cell (p := ⟨W.heap.size, 0, none⟩) FL.out).trans f0
      have k1 := (hb9.cell (p := ⟨W.heap.size, 1, none⟩) FL.out).trans f1
      have CF := hide' (copyFateC k (.slice ka nz kc) zs wc (holdsI_mono HZ0.out hb9) (by rw [NZ.out]; omega))
      have D9 := hide' hd9
      have O9 := hide' ho9
      have B9 := hide' hb9
      have R9 := hide' hrow9
      have BD9 := hide' hbd9
      have LF9 := hide' hlf9
      have PR9 := hide' hpre9
      obtain ⟨ta, tc, hte⟩ : ∃ a c, tv = .slice a tr9.length c := by obtain ⟨a, c, e, _⟩ := holdsR_row hrow9; exact ⟨a, c, e⟩
      obtain ⟨NT, hNT⟩ : ∃ NT, NT = tr9.length := ⟨_, rfl⟩
      rw [← hNT] at hte htr9
      subst hte
      have HNT := hide' hNT
      clear hd9 ho9 hb9 hrow9 hbd9 hlf9 hpre9 HF hNT
      go_wp2_with fail
      refine CF.out.mono ?_
      rintro e w11 ⟨u, rfl, hu, b11⟩
      have CL := hide' (leftC (dsk_below D9.out b11) k u zs hu hkr hkb (bd_mono BD9.out (by decide)))
      have B11 := hide' b11
      clear hu b11 CF
      go_wp2_with fail
      refine CL.out.mono ?_
      rintro e w12 ⟨fv2, rfl, hf12, b12⟩
      have LFT := hide' (LF9.out k zs)
      obtain ⟨fb1, fb2⟩ := lft_bd LFT.out hT9
      have CN := hide' (newC fv2 (s9.left k zs) 1048576 (.slice none 0 0) [] (-1) w12 (holdsFi_sub (mask_sub _ _) hf12) ⟨none, 0, rfl, fun _ => rfl, Nat.le_refl _, fun h => absurd rfl h⟩ (fun f hf => ⟨(fb2 f hf).1, by have := (fb2 f hf).2; omega⟩) (by omega) (by decide) (fun z h => by cases h))
      have BDN := hide' (bd_new (s9.left k zs) 1048576 [] (-1) 411200 fb1 (fun f hf => (fb2 f hf).2))
      have NE := hide' (newE_left (dsk_wf D9.out).1 k zs)
      have B12 := hide' (B11.out.trans (b12.mono B11.out.size))
      obtain ⟨fa, fn, fc, hfv⟩ : ∃ a n c, fv2 = .slice a n c := by obtain ⟨a, c, e, _⟩ := hf12; exact ⟨a, _, c, e⟩
      subst hfv
      clear hf12 b12 CL fb1 fb2
      go_wp2_with fail
      refine CN.out.mono ?_
      intro e w13 np
      obtain ⟨nb, ⟨ne, _⟩ | ⟨_, g2, o2, rfl, hD2, hO2⟩⟩ := np
      · exact absurd NE.out ne
      have CO := hide' (openL hD2 411200 BDN.out (by decide))
      obtain ⟨OK2, K2, hK1, hK2, hK3⟩ := open_left LFT.out 1048576 (by omega)
      have B13 := hide' (B12.out.trans (nb.mono B12.out.size))
      have HO2 : Hid (∀ x, o2.has x → w12.heap.size ≤ x) := hO2
      have SZ : Hid (wc.heap.size ≤ w12.heap.size) := B12.out.size
      have SZ13 : Hid (w12.heap.size ≤ w13.heap.size) := nb.size
      clear CN hD2 hO2 nb
      go_wp2_with fail
      refine CO.out.mono ?_
      rintro e w14 ⟨op2, _⟩
      obtain ⟨ne, _⟩ | ⟨_, lb2, lv2, o4, rfl, hl4, hg4, hlb4, hr4⟩ := op2
      · exact absurd OK2 ne
      have hr4' := hr4.1
      rw [hK3] at hr4' hl4
      obtain ⟨ra, rc, hlv, _⟩ := id hr4'
      have KL : (T9.take K2).length = K2 := by rw [List.length_take]; omega
      rw [KL] at hlv hl4
      subst hlv
      have CC := hide' (countL hl4)
      have row13 := row_offS (S := fun _ => False) R9.out (off_of (S := fun _ => False) B13.out) (fun rb e hh => hh)
      have row14 := row_offS row13 hg4.off (fun rb e hh => by
        have h1 := HO2.out rb hh
        have h2 := (R9.out.lt rb e).2
        have h3 := SZ.out
        omega)
      have hR14 := holdsR_row row14
      have hpt : T9.take K2 = tr9.take K2 := by
        obtain ⟨q, hq⟩ := PR9.out
        rw [← hq, List.take_append_of_le_length (by omega)]
      obtain ⟨rs14, hP14⟩ := takeRx hR14 K2 (by have h1 := PR9.out.length_le; omega)
      rw [← hpt] at hP14
      have CS := hide' (sameRC _ _ _ _ w14 hr4' hP14 (by rw [KL]; omega))
      have hNTK : K2 ≤ NT := by have h1 := PR9.out.length_le; have h2 := HNT.out; omega
      have g0 : decide ((fm9 : Int) ≤ (K2 : Int)) = true := by simpa using hK1
      have g1 : decide ((K2 : Int) ≤ (NT : Int)) = true := by simpa using hNTK
      have g2' : (fm9 : Int) ≤ (K2 : Int) := by omega
      have g3 : (K2 : Int) ≤ (NT : Int) := by omega
      have B14 := hide' (B9.out.trans ((B13.out.trans (hg4.off.below (C := wc.heap.size) B13.out.size (fun x hx => Nat.le_trans SZ.out (HO2.out x hx)))).mono B9.out.size))
      clear hl4 hg4 hr4 hr4' CO row13 row14 hR14 hP14 hK3 hpt
      go_wp2_with fail
      refine CC.out.mono ?_
      rintro e w15 ⟨rfl, ew⟩
      rw [ew]
      clear ew w15
      go_wp2_with fail
      refine CS.out.mono ?_
      rintro e w16 ⟨rfl, nn, ew⟩
      have B16 : Hid (Below w0.heap.size w0 w16) := by rw [ew]; exact B14.out.trans ((below_drewN w14 nn).mono B14.out.size)
      clear ew CS
      go_wp2_with fail
      go_ret
      exact ⟨rfl, BW.out.trans (B16.out.mono BW.out.size)⟩

    clear hKK
    obtain ⟨ne, nq, o2, hD2, hg2⟩ | ⟨rfl, ok, lb, o2, rfl, hl2, hg2, hlb2⟩ := UC.out
    · have FS : Hid (FinS w0 g (.slice (some ⟨w2.heap.size, 0, none⟩) 0 0) (.int .i64 ((0 : Nat) : Int)) (w2.alloc (.cells #[] 59))) := by
        have hb2 := bel_a w2 (.cells #[] 59)
        have hB2 : Below w0.heap.size w0 w2 := NB.out.trans (hg2.off.below NB.out.size HO.out)
        refine ⟨o2, _, [], [], 0, rfl, dsk_below hD2 hb2, fun x hx => ?_, hB2.trans (hb2.mono hB2.size), World.ownsRow_lit w2 #[] 0 hB2.size (by decide) rfl, bd_mono HBD.out (by decide), fun kk keep => ?_, List.prefix_refl _, by decide, by decide⟩
        · rcases hg2.new x hx with h1 | h1
          · exact HO.out x h1
          · exact Nat.le_trans NB.out.size h1
        · rcases OF.out with ⟨h1, _⟩ | ⟨_, _, h3 | ⟨j, h3⟩⟩
          · exact absurd h1 nq
          · rw [h3]; exact left_e _ _ _ kk keep
          · rw [h3]; exact left_c _ _ _ kk keep
      have y0 : decide (y = 0) = false := by simpa using ne
      have y1 : ¬ y = 0 := ne
      clear hD2 hg2 OF HO NB HBD UC nq
      by_cases hn0 : n = 0
      · subst hn0
        go_rounds 1
        exact FS
      · have q0 : (0 : Int) < (n : Int) := by omega
        have q1 : decide ((0 : Int) < (n : Int)) = true := by simpa using q0
        go_rounds 1
        exact FS
    · have SV : Hid (LoopS w0 g lb pw 0 (.slice (some ⟨w2.heap.size, 0, none⟩) 0 0) (.int .i64 ((0 : Nat) : Int)) (w2.alloc (.cells #[] 59))) := by
        have hb2 := bel_a w2 (.cells #[] 59)
        have hB2 : Below w0.heap.size w0 w2 := NB.out.trans (hg2.off.below NB.out.size HO.out)
        obtain ⟨_, g2, g3⟩ | ⟨h1, _⟩ := OF.out
        · rw [g2, g3] at hl2
          have hbd0 := HBD.out
          rw [g3] at hbd0
          refine ⟨o2, _, [], 0, [], 0, rfl, ⟨logS_below hl2 hb2, fun x hx => ?_, Nat.le_trans NB.out.size hlb2, hB2.trans (hb2.mono hB2.size), World.ownsRow_lit w2 #[] 0 hB2.size (by decide) rfl, fun rb e => ?_⟩, lif_nil, Nat.le_refl _, bd_mono hbd0 (by decide)⟩
          · rcases hg2.new x hx with h1 | h1
            · exact HO.out x h1
            · exact Nat.le_trans NB.out.size h1
          · have e' : w2.heap.size = rb := by simpa [Value.ownBlock] using e
            rw [← e']
            exact ⟨none_of_lt (dsk_lt hl2.dsk) (Nat.le_refl _), by have := hl2.blk.2; omega⟩
        · exact absurd ok h1
      clear hl2 hg2 OF HO NB HBD UC ok hlb2
      go_loopw [11, 12, 13] (fun tv fv iv wr => ∃ i : Nat, iv = .int .i64 (i : Int) ∧ i ≤ n ∧ Hid (LoopS w0 g lb pw i tv fv wr)) (fun _ _ iv _ => n - (intOf iv).toNat)
      case atStart => exact ⟨0, rfl, Nat.zero_le _, SV⟩
      case round =>
        obtain ⟨i, rfl, hi, HLS⟩ := hrel
        by_cases hlt : i < n
        · obtain ⟨o3, nn, bs, f, T, fm, hfv, hsv, hlif, hTi, hbd3⟩ := HLS.out
          subst hfv
          have G : i < adds.length := by rw [N1.out]; exact hlt
          obtain ⟨haa, hblt, hcell⟩ := HAC.out (by rw [N1.out]; omega)
          subst haa
          obtain ⟨c0, c1, c2, c3⟩ := hcell i G
          have bww := BW.out.trans (hsv.bel.mono BW.out.size)
          replace c0 := (bww.cell (p := ⟨b, off + i * 4, none⟩) hblt).trans c0
          replace c1 := (bww.cell (p := ⟨b, off + i * 4 + 1, none⟩) hblt).trans c1
          replace c2 := (bww.cell (p := ⟨b, off + i * 4 + 2, none⟩) hblt).trans c2
          replace c3 := (bww.cell (p := ⟨b, off + i * 4 + 3, none⟩) hblt).trans c3
          have hidr := HID.out _ (List.getElem_mem G)
          obtain ⟨r, hr⟩ : ∃ r, r = adds[i] := ⟨_, rfl⟩
          rw [← hr] at c0 c1 c2 c3 hidr
          obtain ⟨q0, q1, q2, q3⟩ := r
          dsimp only at c0 c1 c2 c3 hidr
          unfold S at c3
          have sv1 := sv_below hsv (bel_a wr (.cells #[.int .i64 q0, .int .i64 q1, .int .i64 q2, .string ⟨q3.toArray⟩] 59))
          have RB := hide' (cells_lit wr #[.int .i64 q0, .int .i64 q1, .int .i64 q2, .string ⟨q3.toArray⟩] 59)
          have CC1 := hide' (countL sv1.log)
          have CA := hide' (addC sv1.log (2000 + 13000 * i) hbd3 q1 q2 q3 (by omega) (by omega))
          have SV1 := hide' sv1
          have LIF := hide' hlif
          have HTI := hide' hTi
          have NB0 : Hid (o3 wr.heap.size = none) := none_of_lt (dsk_lt hsv.log.dsk) (Nat.le_refl _)
          have NB1 : Hid (wr.heap.size ≠ lb) := by unfold Hid; have := hsv.log.blk.2; omega
          obtain ⟨TL, hTL⟩ : ∃ TL : Int, TL = (T.length : Int) := ⟨_, rfl⟩
          have HTL := hide' hTL
          rw [← hTL] at CC1 CA
          have hTL0 : 0 ≤ TL ∧ TL ≤ 1000 := by rw [hTL]; omega
          clear hsv hlif hTi hbd3 hblt hcell bww hr sv1 G HLS hidr hTL
          go_wp2_with fail
          refine CC1.out.mono ?_
          rintro e w4 ⟨rfl, ew⟩
          rw [ew]
          clear ew w4
          go_wp2_with fail
          refine CA.out.mono ?_
          rintro e w5 ⟨⟨rfl, o5, hl5, hg5⟩, hbd5⟩
          have rb5 := blk_offL RB.out hg5.off (fun hh => by
            rcases hh with hh | hh
            · exact hh NB0.out
            · exact NB1.out hh)
          have r1 := (rb5.1 1 (by simp)).1
          have r2 := (rb5.1 2 (by simp)).1
          have r3 := (rb5.1 3 (by simp)).1
          simp only [List.getElem_cons_succ, List.getElem_cons_zero] at r1 r2 r3
          have HBD5 := hide' hbd5
          have HG5 := hide' hg5
          have HL5 := hide' hl5
          clear hbd5 hg5 hl5 CA CC1
          have AST := add_step LIF.out 1048576 pw nn q1 q2 q3
          rw [← HTL.out] at AST
          rcases AST with ⟨z0, z93, kk, hst⟩ | ⟨z93, kk, hst⟩ | ⟨z93, kk, x, hst, hlf⟩ | ⟨z0, kk, x, hst, hlf⟩
          · have hl6 := HL5.out
            have hb6 := HBD5.out
            rw [hst] at hl6 hb6
            have CC2 := hide' (countL hl6)
            have SV6 := hide' (sv_grow (HTL.out ▸ SV1.out) hl6 HG5.out)
            have HB6 := hide' hb6
            obtain ⟨y, hy⟩ : ∃ y, y = (addT q1 q2 q3 (sL 1048576 pw nn bs f, TL)).2 := ⟨_, rfl⟩
            rw [← hy] at z0 z93 ⊢
            have y0 : decide (y = 0) = false := by simpa using z0
            have y9 : decide (y = 93) = false := by simpa using z93
            have y91 : (y == 93) = false := by simpa using z93
            clear hl6 hb6 hst hy
            go_wp2_with fail
            refine CC2.out.mono ?_
            rintro e w6 ⟨rfl, ew⟩
            rw [ew]
            clear ew w6
            go_wp2_with fail
            go_roundw
            case rel => exact ⟨i + 1, by go_num, hlt, o5, kk, bs, f, T, fm, rfl, HTL.out ▸ SV6.out, LIF.out, by have := HTI.out; omega, bd_mono HB6.out (by omega)⟩
            case measure => simp only [intOf]; omega
          · have hl6 := HL5.out
            have hb6 := HBD5.out
            rw [hst] at hl6 hb6
            have CC2 := hide' (countL hl6)
            have SV6 := hide' (sv_grow (HTL.out ▸ SV1.out) hl6 HG5.out)
            have HB6 := hide' hb6
            rw [z93]
            clear hl6 hb6 hst z93
            go_wp2_with fail
            refine CC2.out.mono ?_
            rintro e w6 ⟨rfl, ew⟩
            rw [ew]
            clear ew w6
            go_wp2_with (at_builtin; refine appRX rfl (.tmp 79) (.tmp 88) rfl rfl SV6.out (TL, q1, q2, q3) rfl rfl rfl rfl rfl (by simp) (by have := HTI.out; omega) ?_; intro v7 w7 sv7; have SV7 := hide' sv7; clear sv7)
            exact ⟨o5, _, T, T ++ [(TL, q1, q2, q3)], fm, rfl, SV7.out.log.dsk, SV7.out.own, SV7.out.bel, SV7.out.row, bd_mono HB6.out (by omega), fun k9 keep => left_l LIF.out _ _ _ k9 keep, List.prefix_append _ _, by have := HTI.out; omega, by have := HTI.out; rw [List.length_append]; show T.length + 1 ≤ 101; omega⟩
          · have hl6 := HL5.out
            have hb6 := HBD5.out
            rw [hst] at hl6 hb6
            have CC2 := hide' (countL hl6)
            have SV6 := hide' (sv_grow (HTL.out ▸ SV1.out) hl6 HG5.out)
            have HB6 := hide' hb6
            have HLF := hide' hlf
            have g1 : TL < TL + 1 := by omega
            have g2 : decide (TL < TL + 1) = true := by simpa using g1
            rw [z93]
            clear hl6 hb6 hst z93 hlf
            go_wp2_with fail
            refine CC2.out.mono ?_
            rintro e w6 ⟨rfl, ew⟩
            rw [ew]
            clear ew w6
            go_wp2_with (at_builtin; refine appRX rfl (.tmp 79) (.tmp 88) rfl rfl SV6.out (TL, q1, q2, q3) rfl rfl rfl rfl rfl (by simp) (by have := HTI.out; omega) ?_; intro v7 w7 sv7; have SV7 := hide' sv7; clear sv7)
            exact ⟨o5, _, T ++ [(TL, q1, q2, q3)], T ++ [(TL, q1, q2, q3)], fm, rfl, SV7.out.log.dsk, SV7.out.own, SV7.out.bel, SV7.out.row, bd_mono HB6.out (by omega), fun k9 keep => left_l HLF.out _ _ _ k9 keep, List.prefix_refl _, by have := HTI.out; rw [List.length_append]; show T.length + 1 ≤ 100; omega, by have := HTI.out; rw [List.length_append]; show T.length + 1 ≤ 101; omega⟩
          · have hl6 := HL5.out
            have hb6 := HBD5.out
            rw [hst] at hl6 hb6
            have CC2 := hide' (countL hl6)
            have SV6 := hide' (sv_grow (HTL.out ▸ SV1.out) hl6 HG5.out)
            have HB6 := hide' hb6
            have HLF := hide' hlf
            have g1 : TL < TL + 1 := by omega
            have g2 : decide (TL < TL + 1) = true := by simpa using g1
            rw [z0]
            clear hl6 hb6 hst z0 hlf
            go_wp2_with fail
            refine CC2.out.mono ?_
            rintro e w6 ⟨rfl, ew⟩
            rw [ew]
            clear ew w6
            go_wp2_with (at_builtin; refine appRX rfl (.tmp 79) (.tmp 88) rfl rfl SV6.out (TL, q1, q2, q3) rfl rfl rfl rfl rfl (by simp) (by have := HTI.out; omega) ?_; intro v7 w7 sv7; have SV7 := hide' sv7; clear sv7)
            refine (countL SV7.out.log).mono ?_
            rintro e w8 ⟨rfl, ew⟩
            rw [ew]
            clear ew w8
            go_wp2_with fail
            go_roundw
            case rel => exact ⟨i + 1, by go_num, hlt, o5, kk, bs ++ x, (bs ++ x).length, T ++ [(TL, q1, q2, q3)], T.length + 1, by rw [HTL.out]; push_cast; rfl, by have h := SV7.out; rw [HTL.out] at h ⊢; simpa using h, HLF.out, by have := HTI.out; rw [List.length_append]; show T.length + 1 ≤ i + 1; omega, bd_mono HB6.out (by omega)⟩
            case measure => simp only [intOf]; omega
        · obtain rfl : i = n := by omega
          have FS := hide' (loop_fin HLS.out hn100)
          go_wp2_with fail
          exact FS
end Go.Proofs.YtmejbgnaoaiooaaGreat
