/- SwaplogSteps' walk. -/
import Derived.Test.YtijnjgnckipghaaGreatSwEb
import Derived.Test.YtijnjgnckipghaaGreatSwV
import Derived.Test.YtijnjgnckipghaaGreatDrT
import Derived.Test.YtijnjgnckipghaaGreatBdI
import Derived.Deep.RegionHeld3
namespace Go.Proofs.YtijnjgnckipghaaGreat
open Go.RowKit
set_option maxRecDepth 20000 in
set_option maxHeartbeats 16000000 in
theorem stepsSW {w : World} {fv zv ov kv : Value} {fs : FL} {fails keep : List Int} {os : List StT} (room power k1 : Int) (hf : HoldsFi w fv fs) (hz : HoldsI w zv fails) (ho : HoldsSt w ov os) (hk : HoldsI w kv keep) (b1 : bulkF fs ≤ 1048576) (b2 : fails.length ≤ 1048576) (b3 : bulkZ os ≤ 1048576) (b4 : keep.length ≤ 1048576)
    (zb : ∀ z ∈ fails, -9223372036854775808 ≤ z ∧ z ≤ 9223372036854775807) (r1 : -9223372036854775808 ≤ k1 ∧ k1 ≤ 9223372036854775807) (kb : ∀ z ∈ keep, -9223372036854775808 ≤ z ∧ z ≤ 9223372036854775807) :
    Calls Tryz.prog 3 #[.agg #[fv, .int .i64 room, zv, .int .i64 power], ov, .agg #[.int .i64 k1, kv]] w fun e w' => e = .returned (.bool true) ∧ Below w.heap.size w w' := by
  obtain ⟨fa, fc, hfv, -⟩ := id hf
  obtain ⟨za, zc, hzv, -⟩ := id hz
  obtain ⟨ka, kc, hkv, -⟩ := id hk
  obtain ⟨oa, oc, hov, -⟩ := st_slice ho
  subst hfv hzv hov hkv
  have HF := hide' hf
  have HZ := hide' hz
  have HO := hide' ho
  have HK := hide' hk
  have B1 := hide' b1
  have B2 := hide' b2
  have B3 := hide' b3
  have B4 := hide' b4
  have ZB := hide' zb
  have R1 := hide' r1
  have KB := hide' kb
  clear hf hz ho hk b1 b2 b3 b4 zb r1 kb
  obtain ⟨nf, hnf⟩ : ∃ n, n = fs.length := ⟨_, rfl⟩
  obtain ⟨nz, hnz⟩ : ∃ n, n = fails.length := ⟨_, rfl⟩
  obtain ⟨no, hno⟩ : ∃ n, n = os.length := ⟨_, rfl⟩
  obtain ⟨nk, hnk⟩ : ∃ n, n = keep.length := ⟨_, rfl⟩
  have ENF := hide' hnf
  have ENZ := hide' hnz
  rw [← hnf] at HF
  rw [← hnz] at HZ
  rw [← hno] at HO
  rw [← hnk] at HK
  rw [← hnf, ← hnz, ← hno, ← hnk]
  clear hnf hnz hno hnk
  have BS : Hid (Blk w.heap.size ((w.alloc (.cells #[.slice fa nf fc, .int .i64 room, .slice za nz zc, .int .i64 power] 25)).alloc (.cells #[.int .i64 k1, .slice ka nk kc] 28)) [.slice fa nf fc, .int .i64 room, .slice za nz zc, .int .i64 power] ∧ Blk (w.heap.size + 1) ((w.alloc (.cells #[.slice fa nf fc, .int .i64 room, .slice za nz zc, .int .i64 power] 25)).alloc (.cells #[.int .i64 k1, .slice ka nk kc] 28)) [.int .i64 k1, .slice ka nk kc] ∧ Below w.heap.size w ((w.alloc (.cells #[.slice fa nf fc, .int .i64 room, .slice za nz zc, .int .i64 power] 25)).alloc (.cells #[.int .i64 k1, .slice ka nk kc] 28))) := by
    have x1 := below_alloc' w (.cells #[.slice fa nf fc, .int .i64 room, .slice za nz zc, .int .i64 power] 25)
    have x2 := below_alloc' (w.alloc (.cells #[.slice fa nf fc, .int .i64 room, .slice za nz zc, .int .i64 power] 25)) (.cells #[.int .i64 k1, .slice ka nk kc] 28)
    have x3 := cells_lit (w.alloc (.cells #[.slice fa nf fc, .int .i64 room, .slice za nz zc, .int .i64 power] 25)) #[.int .i64 k1, .slice ka nk kc] 28
    have z1 : (w.alloc (.cells #[.slice fa nf fc, .int .i64 room, .slice za nz zc, .int .i64 power] 25)).heap.size = w.heap.size + 1 := by simp
    rw [z1] at x3
    exact ⟨blk_below (by simpa using cells_lit w #[.slice fa nf fc, .int .i64 room, .slice za nz zc, .int .i64 power] 25) x2, by simpa using x3, x1.trans (x2.mono x1.size)⟩
  go_enter Tryz.func3, Tryz.ntmps3
  go_wp2_with fail
  generalize ((w.alloc (.cells #[.slice fa nf fc, .int .i64 room, .slice za nz zc, .int .i64 power] 25)).alloc (.cells #[.int .i64 k1, .slice ka nk kc] 28)) = W3 at BS ⊢
  obtain ⟨fb, hfb⟩ : ∃ q, q = w.heap.size + 1 := ⟨_, rfl⟩
  have FBL : Hid (w.heap.size ≤ fb) := by unfold Hid; omega
  rw [← hfb] at BS ⊢
  clear hfb
  refine (aliveL W3).mono ?_
  rintro e w1 ⟨rfl, hb1⟩
  have BS1 : Hid (Blk w.heap.size w1 [.slice fa nf fc, .int .i64 room, .slice za nz zc, .int .i64 power] ∧ Blk fb w1 [.int .i64 k1, .slice ka nk kc] ∧ Below w.heap.size w w1) := ⟨blk_below BS.out.1 hb1, blk_below BS.out.2.1 hb1, BS.out.2.2.trans (hb1.mono BS.out.2.2.size)⟩
  clear hb1 BS
  obtain ⟨⟨x0, x1, x2, x3⟩, _⟩ := cells_4 BS1.out.1
  have CB := begin11C fa fc fs room za zc fails power w1 (by rw [← ENF.out]; exact holdsFi_mono HF.out BS1.out.2.2) (by rw [← ENZ.out]; exact holdsI_mono HZ.out BS1.out.2.2) (fun f h => by have := bulkF_mem fs f h; have := B1.out; omega) (by have := bulkF_len fs; have := B1.out; omega) (by have := B2.out; omega) ZB.out
  rw [← ENF.out, ← ENZ.out] at CB
  replace CB := hide' CB
  go_wp2_with fail
  refine CB.out.mono ?_
  intro e w2 np
  clear x0 x1 x2 x3 CB
  obtain ⟨nb, hor⟩ := np
  have BS2 : Hid (Blk w.heap.size w2 [.slice fa nf fc, .int .i64 room, .slice za nz zc, .int .i64 power] ∧ Blk fb w2 [.int .i64 k1, .slice ka nk kc] ∧ Below w.heap.size w w2) := ⟨blk_below BS1.out.1 nb, blk_below BS1.out.2.1 nb, BS1.out.2.2.trans (nb.mono BS1.out.2.2.size)⟩
  obtain ⟨⟨x0, x1, x2, x3⟩, _⟩ := cells_4 BS2.out.1
  obtain ⟨ne, rfl⟩ | ⟨hne0, g, o, rfl, hD, hO⟩ := hor
  · have CN := hide' (newRC (Sx := fun _ => False) (w := w2) (fun _ e => e.elim) (.slice fa nf fc) fs room (.slice za nz zc) fails power (holdsFi_mono HF.out BS2.out.2.2) (holdsI_sub (no_mask w2) (holdsI_mono HZ.out BS2.out.2.2)) (fun f h => by have := bulkF_mem fs f h; have := B1.out; omega) (by have := bulkF_len fs; have := B1.out; omega))
    have ne' : ((newE fs room) != 0) = true := by simpa using ne
    clear nb
    generalize newE fs room = er at ne ne' CN ⊢
    go_wp2_with fail
    refine CN.out.mono ?_
    rintro e w3 ⟨v0, v1, v2, v3, v4, v5, v6, v7, v8, rfl, hb3, -, hzz⟩
    have hzz := hzz ne
    simp only [List.cons.injEq, and_true] at hzz
    obtain ⟨rfl, rfl, rfl, rfl, rfl, rfl, rfl, rfl, rfl⟩ := hzz
    have NB := hide' (BS2.out.2.2.trans (hb3.mono BS2.out.2.2.size))
    clear hb3 x0 x1 x2 x3 CN
    go_wp2_with fail
    go_ret
    exact ⟨rfl, NB.out.trans ((below_alloc' _ _).mono NB.out.size)⟩
  have CN := hide' (newRC (Sx := o.has) (w := w2) (dsk_lt hD) (.slice fa nf fc) fs room (.slice za nz zc) fails power (holdsFi_mono HF.out BS2.out.2.2) (holdsI_sub (in_sub BS1.out.2.2 nb hO) HZ.out) (fun f h => by have := bulkF_mem fs f h; have := B1.out; omega) (by have := bulkF_len fs; have := B1.out; omega))
  have FO : Hid (o fb = none) := by
    show o fb = none
    cases e : o fb with
    | none => rfl
    | some r => exact absurd (hO _ (has_of e)) (by have := BS1.out.2.1.2; omega)
  have OWN : Hid (∀ k, o.has k → w.heap.size ≤ k) := fun k e => Nat.le_trans BS1.out.2.2.size (hO k e)
  have HD := hide' hD
  have BF2 : Hid (Blk fb w2 [.int .i64 k1, .slice ka nk kc] ∧ Below w.heap.size w w2) := BS2.out.2
  rw [hne0] at CN
  clear hD hO nb hne0 BS1 BS2
  go_wp2_with fail
  refine CN.out.mono ?_
  rintro e w3 ⟨v0, v1, v2, v3, v4, v5, v6, v7, v8, rfl, hb3, hr, -⟩
  obtain ⟨⟨a0, n0, c0⟩, ⟨a1, n1, c1⟩, ⟨a2, n2, c2⟩, ⟨a3, n3, c3⟩, ⟨a4, n4, c4⟩, ⟨a6, n6, c6⟩, ev, hv⟩ := id (hr (by first | rfl | trivial))
  have hr := hr (by first | rfl | trivial)
  unfold stV at ev
  dsimp only at ev
  obtain ⟨rfl, rfl, rfl, rfl, rfl, rfl, rfl, rfl, rfl⟩ := agg9_inj ev
  obtain ⟨S0, hS0⟩ : ∃ S, S = newS fs room fails power := ⟨_, rfl⟩
  rw [← hS0] at hr HD ⊢
  have BD0 : Hid (Bd 1048576 S0) := by
    rw [hS0]
    exact bd_new fs room fails power 1048576 (by have := bulkF_len fs; have := B1.out; omega) (fun f h => by have := bulkF_mem fs f h; have := B1.out; omega)
  have FL0 : Hid (S0.fails.length ≤ 1048576) := by rw [hS0]; exact B2.out
  have WF0 := hide' (dsk_wf HD.out).1
  have ba4 := below_alloc' w3 (.cells #[.slice a0 n0 c0, .slice a1 n1 c1, .slice a2 n2 c2, .slice a3 n3 c3, .slice a4 n4 c4, .int .i64 S0.room, .slice a6 n6 c6, .int .i64 S0.power, .int .i64 (S0.n : Int)] 38)
  have DK4 : Hid (Dsk o g S0 (w3.alloc (.cells #[.slice a0 n0 c0, .slice a1 n1 c1, .slice a2 n2 c2, .slice a3 n3 c3, .slice a4 n4 c4, .int .i64 S0.room, .slice a6 n6 c6, .int .i64 S0.power, .int .i64 (S0.n : Int)] 38))) := dsk_below (dsk_below HD.out hb3) ba4
  have RF4 : Hid (RefS (mask o.has (w3.alloc (.cells #[.slice a0 n0 c0, .slice a1 n1 c1, .slice a2 n2 c2, .slice a3 n3 c3, .slice a4 n4 c4, .int .i64 S0.room, .slice a6 n6 c6, .int .i64 S0.power, .int .i64 (S0.n : Int)] 38))) (.agg #[.slice a0 n0 c0, .slice a1 n1 c1, .slice a2 n2 c2, .slice a3 n3 c3, .slice a4 n4 c4, .int .i64 S0.room, .slice a6 n6 c6, .int .i64 S0.power, .int .i64 (S0.n : Int)]) S0) := refS_sub hr (off_mask (S := o.has) (S' := o.has) (off_of ba4) (fun _ e => .inl e))
  have QB4 : Hid (Blk w3.heap.size (w3.alloc (.cells #[.slice a0 n0 c0, .slice a1 n1 c1, .slice a2 n2 c2, .slice a3 n3 c3, .slice a4 n4 c4, .int .i64 S0.room, .slice a6 n6 c6, .int .i64 S0.power, .int .i64 (S0.n : Int)] 38)) [.slice a0 n0 c0, .slice a1 n1 c1, .slice a2 n2 c2, .slice a3 n3 c3, .slice a4 n4 c4, .int .i64 S0.room, .slice a6 n6 c6, .int .i64 S0.power, .int .i64 (S0.n : Int)]) := hide' (by simpa using cells_lit w3 #[.slice a0 n0 c0, .slice a1 n1 c1, .slice a2 n2 c2, .slice a3 n3 c3, .slice a4 n4 c4, .int .i64 S0.room, .slice a6 n6 c6, .int .i64 S0.power, .int .i64 (S0.n : Int)] 38)
  have QO : Hid (o w3.heap.size = none) := by
    show o w3.heap.size = none
    cases e : o w3.heap.size with
    | none => rfl
    | some r => exact absurd (dsk_lt (dsk_below HD.out hb3) _ (has_of e)) (by omega)
  have BF4 : Hid (Blk fb (w3.alloc (.cells #[.slice a0 n0 c0, .slice a1 n1 c1, .slice a2 n2 c2, .slice a3 n3 c3, .slice a4 n4 c4, .int .i64 S0.room, .slice a6 n6 c6, .int .i64 S0.power, .int .i64 (S0.n : Int)] 38)) [.int .i64 k1, .slice ka nk kc] ∧ Below w.heap.size w (w3.alloc (.cells #[.slice a0 n0 c0, .slice a1 n1 c1, .slice a2 n2 c2, .slice a3 n3 c3, .slice a4 n4 c4, .int .i64 S0.room, .slice a6 n6 c6, .int .i64 S0.power, .int .i64 (S0.n : Int)] 38))) := by
    have b := BF2.out.2.trans (hb3.mono BF2.out.2.size)
    exact ⟨blk_below (blk_below BF2.out.1 hb3) ba4, b.trans (ba4.mono b.size)⟩
  clear hv ev hr hb3 CN x0 x1 x2 x3 ba4 HD BF2 hS0
  obtain ⟨S1, d1, L1, e1, hQ⟩ : ∃ S1 d1 L1 e1, refOpen S0 = ((S1, d1), L1, e1) := ⟨_, _, _, _, rfl⟩
  have CO := hide' (openX DK4.out 1048576 BD0.out (by omega) hQ)
  have KP1 := refOpen_keeps WF0.out BD0.out
  have LN1 := refOpen_len BD0.out
  have NO1 := refOpen_none S0
  rw [hQ] at KP1 LN1 NO1
  dsimp only at KP1 LN1 NO1
  replace KP1 := hide' KP1
  replace LN1 := hide' LN1
  replace NO1 := hide' NO1
  have HQ := hide' hQ
  clear hQ
  go_wp2_with fail
  generalize (w3.alloc (.cells #[.slice a0 n0 c0, .slice a1 n1 c1, .slice a2 n2 c2, .slice a3 n3 c3, .slice a4 n4 c4, .int .i64 S0.room, .slice a6 n6 c6, .int .i64 S0.power, .int .i64 (S0.n : Int)] 38)) = w4 at DK4 RF4 QB4 BF4 CO ⊢
  obtain ⟨q, hq⟩ : ∃ q, q = w3.heap.size := ⟨_, rfl⟩
  rw [← hq] at QB4 QO ⊢
  clear hq
  refine CO.out.mono ?_
  rintro e w5 op
  clear CO
  obtain ⟨ne, rfl, o5, hd5, hg5⟩ | ⟨ok, lb, lv, o5, rfl, hl5, hg5, hlb, hrs⟩ := op
  · have ne' : (e1 != 0) = true := by simpa using ne
    have hlt5 : ∀ k, o5.has k → k < w5.heap.size := dsk_lt hd5
    have hr5 : RefS (mask o5.has w5) (.agg #[.slice a0 n0 c0, .slice a1 n1 c1, .slice a2 n2 c2, .slice a3 n3 c3, .slice a4 n4 c4, .int .i64 S0.room, .slice a6 n6 c6, .int .i64 S0.power, .int .i64 (S0.n : Int)]) S0 := refS_sub RF4.out (off_mask (S := o.has) (S' := o5.has) hg5.off hg5.new)
    obtain ⟨z0, z1, z2, z3, z4, z5, z6, z7, z8⟩ := cells_9 (blk_offL QB4.out hg5.off (fun e => e QO.out))
    have FB5 : Hid (Blk fb w5 [.int .i64 k1, .slice ka nk kc]) := blk_offL BF4.out.1 hg5.off (fun e => e FO.out)
    have FO5 : Hid (o5 fb = none) := none_grow FO.out BF4.out.1.2 hg5.new
    have OW5 : Hid (∀ k, o5.has k → w.heap.size ≤ k) := fun k e => (hg5.new k e).elim (OWN.out k) (fun e => Nat.le_trans BF4.out.2.size e)
    have BW5 : Hid (Below w.heap.size w w5) := BF4.out.2.trans (hg5.off.below BF4.out.2.size (fun k e => OWN.out k e))
    have CR := openRC (S := o5.has) (W0 := w5) hlt5 hr5 WF0.out 1048576 BD0.out (by have := FL0.out; omega) (by omega)
    rw [HQ.out] at CR
    replace CR := hide' CR
    have D5 := hide' hd5
    clear hd5 hg5 hr5 hlt5 RF4 QB4 QO DK4 BF4 FO OWN
    go_wp2_with fail
    refine CR.out.mono ?_
    rintro e w6 ⟨⟨ra0, rn0, rc0⟩, ⟨ra1, rn1, rc1⟩, ⟨ra2, rn2, rc2⟩, ⟨ra3, rn3, rc3⟩, ⟨ra4, rn4, rc4⟩, ⟨ra6, rn6, rc6⟩, s', lw, es', rfl, hlw, hr6, hb6⟩
    dsimp only at *
    replace es' := es'.symm
    subst es'
    have a7 := below_alloc' w6 (.cells #[.slice ra0 rn0 rc0, .slice ra1 rn1 rc1, .slice ra2 rn2 rc2, .slice ra3 rn3 rc3, .slice ra4 rn4 rc4, .int .i64 S1.room, .slice ra6 rn6 rc6, .int .i64 S1.power, .int .i64 (S1.n : Int), .int .i64 d1] 46)
    have k7 : Blk w6.heap.size (w6.alloc (.cells #[.slice ra0 rn0 rc0, .slice ra1 rn1 rc1, .slice ra2 rn2 rc2, .slice ra3 rn3 rc3, .slice ra4 rn4 rc4, .int .i64 S1.room, .slice ra6 rn6 rc6, .int .i64 S1.power, .int .i64 (S1.n : Int), .int .i64 d1] 46)) [.slice ra0 rn0 rc0, .slice ra1 rn1 rc1, .slice ra2 rn2 rc2, .slice ra3 rn3 rc3, .slice ra4 rn4 rc4, .int .i64 S1.room, .slice ra6 rn6 rc6, .int .i64 S1.power, .int .i64 (S1.n : Int), .int .i64 d1] := by simpa using cells_lit w6 #[.slice ra0 rn0 rc0, .slice ra1 rn1 rc1, .slice ra2 rn2 rc2, .slice ra3 rn3 rc3, .slice ra4 rn4 rc4, .int .i64 S1.room, .slice ra6 rn6 rc6, .int .i64 S1.power, .int .i64 (S1.n : Int), .int .i64 d1] 46
    have BW6 := BW5.out.trans (hb6.mono BW5.out.size)
    have HW7 := hide' (holdsR_mono hlw a7)
    have FB7 := hide' (blk_below (blk_below FB5.out hb6) a7)
    have D7 := hide' (dsk_below (dsk_below D5.out hb6) a7)
    have RF7 : Hid (RefS (w6.alloc (.cells #[.slice ra0 rn0 rc0, .slice ra1 rn1 rc1, .slice ra2 rn2 rc2, .slice ra3 rn3 rc3, .slice ra4 rn4 rc4, .int .i64 S1.room, .slice ra6 rn6 rc6, .int .i64 S1.power, .int .i64 (S1.n : Int), .int .i64 d1] 46)) (.agg #[.slice ra0 rn0 rc0, .slice ra1 rn1 rc1, .slice ra2 rn2 rc2, .slice ra3 rn3 rc3, .slice ra4 rn4 rc4, .int .i64 S1.room, .slice ra6 rn6 rc6, .int .i64 S1.power, .int .i64 (S1.n : Int)]) S1) := refS_sub (refS_sub hr6 (mask_sub _ _)) (sub_below a7)
    have BW7 := hide' (BW6.trans (a7.mono BW6.size))
    have K7 := hide' k7
    clear hlw hr6 hb6 a7 k7 BW6 z0 z1 z2 z3 z4 z5 z6 z7 z8 CR
    go_wp2_with fail
    generalize w6.alloc (.cells #[.slice ra0 rn0 rc0, .slice ra1 rn1 rc1, .slice ra2 rn2 rc2, .slice ra3 rn3 rc3, .slice ra4 rn4 rc4, .int .i64 S1.room, .slice ra6 rn6 rc6, .int .i64 S1.power, .int .i64 (S1.n : Int), .int .i64 d1] 46) = w7 at FB7 D7 RF7 BW7 K7 HW7 ⊢
    obtain ⟨rb, hrb⟩ : ∃ q, q = w6.heap.size := ⟨_, rfl⟩
    rw [← hrb] at K7 ⊢
    clear hrb
    refine (sameRX (.slice none 0 0) lw L1 w7 (by rw [NO1.out ne]; exact holdsR_nil _) HW7.out (by have := LN1.out; omega)).mono ?_
    rintro e w8 ⟨rfl, hb8⟩
    have FB8 := hide' (blk_below FB7.out hb8)
    have D8 := hide' (dsk_below D7.out hb8)
    have RF8 := hide' (refS_sub RF7.out (sub_below hb8))
    have BW8 := hide' (BW7.out.trans (hb8.mono BW7.out.size))
    have K8 := hide' (blk_below K7.out hb8)
    have CSM := hide' (sameLC D8.out RF8.out (bd_mono KP1.out.2.1 (by omega)) k1 ka nk kc keep (holdsI_mono HK.out BW8.out) B4.out R1.out KB.out)
    obtain ⟨⟨k0, k1', k2, k3, k4, k5, k6, k7, k8, k9⟩, -⟩ := cells_ten K8.out
    obtain ⟨⟨m0, m1⟩, -⟩ := cells_2 FB8.out
    clear FB7 D7 RF7 BW7 K7 HW7 hb8
    go_wp2_with fail
    refine CSM.out.mono ?_
    rintro e w9 ⟨rfl, hb9⟩
    have BW9 := hide' (BW8.out.trans (hb9.mono BW8.out.size))
    clear CSM hb9 k0 k1' k2 k3 k4 k5 k6 k7 k8 k9 m0 m1 FB8 D8 RF8 BW8 K8
    have C0 := hide' (cut11C (.slice oa no oc) os w9 (holdsSt_mono HO.out BW9.out) (by have := bulkZ_len os; have := B3.out; omega))
    go_wp2_with fail
    refine C0.out.mono ?_
    rintro e w10 ⟨u, rfl, hu, rfl⟩
    have hcut := hu w HO.out
    obtain ⟨ua, uc, huv, hpos⟩ := st_slice hcut
    have CUT := hide' hcut
    clear C0 hu hcut
    subst huv
    obtain ⟨nt, hnt⟩ : ∃ n, n = (os.take 100).length := ⟨_, rfl⟩
    rw [← hnt] at hpos ⊢
    clear CUT hpos hnt
    go_wp2_with fail
    go_loopw [15] (fun i wr => i = .int .i64 0 ∧ Hid (Below w.heap.size w wr)) (fun i _ => 0)
    case atStart => exact ⟨rfl, BW9⟩
    case round =>
      obtain ⟨rfl, BR⟩ := hrel
      by_cases hlt : 0 < nt
      · go_wp2_with fail
        go_ret
        exact ⟨rfl, BR.out⟩
      · obtain rfl : nt = 0 := by omega
        go_wp2_with fail
        go_ret
        exact ⟨rfl, BR.out⟩
  subst ok
  have hlt5 : ∀ k, (o5.has k ∨ k = lb) → k < w5.heap.size := fun k e => e.elim (dsk_lt hl5.dsk k) (fun e => by rw [e]; exact hl5.blk.2)
  have hr5 : RefS (mask (fun k => o5.has k ∨ k = lb) w5) (.agg #[.slice a0 n0 c0, .slice a1 n1 c1, .slice a2 n2 c2, .slice a3 n3 c3, .slice a4 n4 c4, .int .i64 S0.room, .slice a6 n6 c6, .int .i64 S0.power, .int .i64 (S0.n : Int)]) S0 := refS_sub RF4.out (off_mask (S := o.has) (S' := fun k => o5.has k ∨ k = lb) hg5.off (fun k e => e.elim (hg5.new k) (fun e => .inr (by omega))))
  obtain ⟨z0, z1, z2, z3, z4, z5, z6, z7, z8⟩ := cells_9 (blk_offL QB4.out hg5.off (fun e => e QO.out))
  have FB5 : Hid (Blk fb w5 [.int .i64 k1, .slice ka nk kc]) := blk_offL BF4.out.1 hg5.off (fun e => e FO.out)
  have FO5 : Hid (o5 fb = none) := none_grow FO.out BF4.out.1.2 hg5.new
  have OW5 : Hid (∀ k, o5.has k → w.heap.size ≤ k) := fun k e => (hg5.new k e).elim (OWN.out k) (fun e => Nat.le_trans BF4.out.2.size e)
  have BW5 : Hid (Below w.heap.size w w5) := BF4.out.2.trans (hg5.off.below BF4.out.2.size (fun k e => OWN.out k e))
  have LB5 : Hid (w.heap.size ≤ lb ∧ fb ≠ lb) := ⟨Nat.le_trans BF4.out.2.size hlb, fun e => by have := BF4.out.1.2; omega⟩
  have CR := openRC (S := fun k => o5.has k ∨ k = lb) (W0 := w5) hlt5 hr5 WF0.out 1048576 BD0.out (by have := FL0.out; omega) (by omega)
  rw [HQ.out] at CR
  replace CR := hide' CR
  have D5 := hide' hl5
  have R5 := hide' hrs
  clear hl5 hg5 hr5 hlt5 hrs hlb RF4 QB4 QO DK4 BF4 FO OWN
  go_wp2_with fail
  refine CR.out.mono ?_
  rintro e w6 ⟨⟨ra0, rn0, rc0⟩, ⟨ra1, rn1, rc1⟩, ⟨ra2, rn2, rc2⟩, ⟨ra3, rn3, rc3⟩, ⟨ra4, rn4, rc4⟩, ⟨ra6, rn6, rc6⟩, s', lw, es', rfl, hlw, hr6, hb6⟩
  dsimp only at *
  replace es' := es'.symm
  subst es'
  have a7 := below_alloc' w6 (.cells #[.slice ra0 rn0 rc0, .slice ra1 rn1 rc1, .slice ra2 rn2 rc2, .slice ra3 rn3 rc3, .slice ra4 rn4 rc4, .int .i64 S1.room, .slice ra6 rn6 rc6, .int .i64 S1.power, .int .i64 (S1.n : Int), .int .i64 d1] 46)
  have k7 : Blk w6.heap.size (w6.alloc (.cells #[.slice ra0 rn0 rc0, .slice ra1 rn1 rc1, .slice ra2 rn2 rc2, .slice ra3 rn3 rc3, .slice ra4 rn4 rc4, .int .i64 S1.room, .slice ra6 rn6 rc6, .int .i64 S1.power, .int .i64 (S1.n : Int), .int .i64 d1] 46)) [.slice ra0 rn0 rc0, .slice ra1 rn1 rc1, .slice ra2 rn2 rc2, .slice ra3 rn3 rc3, .slice ra4 rn4 rc4, .int .i64 S1.room, .slice ra6 rn6 rc6, .int .i64 S1.power, .int .i64 (S1.n : Int), .int .i64 d1] := by simpa using cells_lit w6 #[.slice ra0 rn0 rc0, .slice ra1 rn1 rc1, .slice ra2 rn2 rc2, .slice ra3 rn3 rc3, .slice ra4 rn4 rc4, .int .i64 S1.room, .slice ra6 rn6 rc6, .int .i64 S1.power, .int .i64 (S1.n : Int), .int .i64 d1] 46
  have BW6 := BW5.out.trans (hb6.mono BW5.out.size)
  have HW7 := hide' (holdsR_mono hlw a7)
  have SX7 := hide' (sx_start (w := w) (logS_below D5.out hb6) OW5.out LB5.out.1 BW6 hr6 a7 k7)
  have KZ7 := hide' (kz_start (w := w) FO5.out LB5.out.2 FBL.out (blk_below FB5.out hb6) a7)
  have R7 := hide' (holdsR_mono (holdsR_mono R5.out hb6) a7)
  clear hlw hr6 hb6 a7 k7 BW6 z0 z1 z2 z3 z4 z5 z6 z7 z8 CR
  go_wp2_with fail
  generalize w6.alloc (.cells #[.slice ra0 rn0 rc0, .slice ra1 rn1 rc1, .slice ra2 rn2 rc2, .slice ra3 rn3 rc3, .slice ra4 rn4 rc4, .int .i64 S1.room, .slice ra6 rn6 rc6, .int .i64 S1.power, .int .i64 (S1.n : Int), .int .i64 d1] 46) = w7 at SX7 KZ7 R7 HW7 ⊢
  obtain ⟨rb, hrb⟩ : ∃ q, q = w6.heap.size := ⟨_, rfl⟩
  rw [← hrb] at SX7 KZ7 ⊢
  clear hrb
  refine (sameRX (lv) lw L1 w7 (R7.out) HW7.out (by have := LN1.out; omega)).mono ?_
  rintro e w8 ⟨rfl, hb8⟩
  have SX8 := hide' (sx_below SX7.out hb8)
  have KZ8 := hide' (kz_below KZ7.out hb8)
  have CSM := hide' (sameLC SX8.out.log.dsk (sx_refS SX8.out) (bd_mono KP1.out.2.1 (by omega)) k1 ka nk kc keep (holdsI_mono HK.out SX8.out.bel) B4.out R1.out KB.out)
  obtain ⟨⟨k0, k1', k2, k3, k4, k5, k6, k7, k8, k9⟩, -⟩ := cells_ten SX8.out.blk
  obtain ⟨⟨m0, m1⟩, -⟩ := cells_2 KZ8.out.blk
  clear SX7 KZ7 R7 HW7 hb8
  go_wp2_with fail
  refine CSM.out.mono ?_
  rintro e w9 ⟨rfl, hb9⟩
  have LQ9 : Hid (Lq g lb rb fb [.slice ra0 rn0 rc0, .slice ra1 rn1 rc1, .slice ra2 rn2 rc2, .slice ra3 rn3 rc3, .slice ra4 rn4 rc4, .int .i64 S1.room, .slice ra6 rn6 rc6, .int .i64 S1.power, .int .i64 (S1.n : Int), .int .i64 d1] [.int .i64 k1, .slice ka nk kc] (.agg #[.slice ra0 rn0 rc0, .slice ra1 rn1 rc1, .slice ra2 rn2 rc2, .slice ra3 rn3 rc3, .slice ra4 rn4 rc4, .int .i64 S1.room, .slice ra6 rn6 rc6, .int .i64 S1.power, .int .i64 (S1.n : Int)]) S1 d1 S1 w w9) := ⟨o5, sx_below SX8.out hb9, kz_below KZ8.out hb9⟩
  clear CSM hb9 k0 k1' k2 k3 k4 k5 k6 k7 k8 k9 m0 m1 SX8 KZ8
  have C0 := hide' (cut11C (.slice oa no oc) os w9 (holdsSt_mono HO.out (lq_bel LQ9.out)) (by have := bulkZ_len os; have := B3.out; omega))
  go_wp2_with fail
  refine C0.out.mono ?_
  rintro e w10 ⟨u, rfl, hu, rfl⟩
  have hcut := hu w HO.out
  obtain ⟨ua, uc, huv, hpos⟩ := st_slice hcut
  have CUT := hide' hcut
  clear C0 hu hcut
  have BT : Hid (bulkZ (os.take 100) ≤ 1048576) := Nat.le_trans (bulkZ_take os 100) B3.out
  have LT : Hid ((os.take 100).length ≤ 100) := by unfold Hid; rw [List.length_take]; omega
  generalize os.take 100 = ot at CUT huv hpos BT LT
  subst huv
  obtain ⟨nt, hnt⟩ : ∃ n, n = ot.length := ⟨_, rfl⟩
  have NT := hide' hnt
  rw [← hnt] at hpos ⊢
  have lnt : nt ≤ 100 := by have := LT.out; omega
  have KPS : Hid (∀ j, Wf (runZ (S1, d1) (ot.take j)).1 ∧ Bd 7000000 (runZ (S1, d1) (ot.take j)).1 ∧ (runZ (S1, d1) (ot.take j)).1.fails.length ≤ 1048576) := fun j => by
    obtain ⟨h1, h2, h3⟩ := runZ_keeps (ot.take j) (st := (S1, d1)) KP1.out.1 KP1.out.2.1
    refine ⟨h1, bd_mono h2 ?_, ?_⟩
    · have := bulkZ_take ot j
      have := BT.out
      have := LT.out
      have : (ot.take j).length ≤ ot.length := by rw [List.length_take]; omega
      omega
    · rw [h3]
      show S1.fails.length ≤ _
      rw [KP1.out.2.2]
      exact FL0.out
  have RUN : Hid (∀ j (h : j < ot.length), runZ (S1, d1) (ot.take (j + 1)) = stZ ot[j] (runZ (S1, d1) (ot.take j))) := fun j h => runZ_snoc ot (S1, d1) j h
  have SD : Hid (∃ (y0 y1 y2 y3 y4 y6 : Sl), Lq g lb rb fb [.slice y0.a y0.n y0.c, .slice y1.a y1.n y1.c, .slice y2.a y2.n y2.c, .slice y3.a y3.n y3.c, .slice y4.a y4.n y4.c, .int .i64 S1.room, .slice y6.a y6.n y6.c, .int .i64 S1.power, .int .i64 (S1.n : Int), .int .i64 d1] [.int .i64 k1, .slice ka nk kc] (.agg #[.slice y0.a y0.n y0.c, .slice y1.a y1.n y1.c, .slice y2.a y2.n y2.c, .slice y3.a y3.n y3.c, .slice y4.a y4.n y4.c, .int .i64 S1.room, .slice y6.a y6.n y6.c, .int .i64 S1.power, .int .i64 (S1.n : Int)]) S1 d1 S1 w w10) := ⟨⟨ra0, rn0, rc0⟩, ⟨ra1, rn1, rc1⟩, ⟨ra2, rn2, rc2⟩, ⟨ra3, rn3, rc3⟩, ⟨ra4, rn4, rc4⟩, ⟨ra6, rn6, rc6⟩, LQ9.out⟩
  clear hnt LQ9
  go_wp2_with fail
  go_loopw [15] (fun i wr => ∃ j : Nat, j ≤ nt ∧ i = .int .i64 j ∧ Hid (∃ (y0 y1 y2 y3 y4 y6 : Sl) (s : Dk) (c : Int), runZ (S1, d1) (ot.take j) = (s, c) ∧ Lq g lb rb fb [.slice y0.a y0.n y0.c, .slice y1.a y1.n y1.c, .slice y2.a y2.n y2.c, .slice y3.a y3.n y3.c, .slice y4.a y4.n y4.c, .int .i64 s.room, .slice y6.a y6.n y6.c, .int .i64 s.power, .int .i64 (s.n : Int), .int .i64 c] [.int .i64 k1, .slice ka nk kc] (.agg #[.slice y0.a y0.n y0.c, .slice y1.a y1.n y1.c, .slice y2.a y2.n y2.c, .slice y3.a y3.n y3.c, .slice y4.a y4.n y4.c, .int .i64 s.room, .slice y6.a y6.n y6.c, .int .i64 s.power, .int .i64 (s.n : Int)]) s c s w wr)) (fun i _ => nt - (intOf i).toNat)
  case atStart =>
    obtain ⟨y0, y1, y2, y3, y4, y6, h⟩ := SD.out
    exact ⟨0, by omega, rfl, ⟨y0, y1, y2, y3, y4, y6, S1, d1, rfl, h⟩⟩
  case round =>
    obtain ⟨j, hj, rfl, HL⟩ := hrel
    by_cases hlt : j < nt
    · have hj' : j < ot.length := by rw [← NT.out]; exact hlt
      obtain ⟨b, off, rfl⟩ := hpos (by omega)
      obtain ⟨⟨ra0, rn0, rc0⟩, ⟨ra1, rn1, rc1⟩, ⟨ra2, rn2, rc2⟩, ⟨ra3, rn3, rc3⟩, ⟨ra4, rn4, rc4⟩, ⟨ra6, rn6, rc6⟩, s, c, hrun, o, hT, hK⟩ := HL.out
      dsimp only at hT
      have hbw : Below w.heap.size w wr := hT.bel
      have CUT' := CUT.out
      rw [← NT.out] at CUT'
      obtain ⟨xa, xc, ⟨q0, q1, q2, q3, q4⟩, hxl⟩ := st_at (by rw [← NT.out]; exact CUT') j hj'
      replace q0 := (hbw.cell (cell_lt q0)).trans q0
      replace q1 := (hbw.cell (cell_lt q1)).trans q1
      replace q2 := (hbw.cell (cell_lt q2)).trans q2
      replace q3 := (hbw.cell (cell_lt q3)).trans q3
      replace q4 := (hbw.cell (cell_lt q4)).trans q4
      have hbo := bulkZ_mem ot _ (List.getElem_mem hj')
      have hbt := BT.out
      have KJ := KPS.out j
      have KJ2 := KPS.out (j + 1)
      have RJ := RUN.out j hj'
      rw [hrun] at KJ RJ
      rw [RJ] at KJ2
      replace KJ := hide' KJ
      replace KJ2 := hide' KJ2
      replace RJ := hide' RJ
      have HXL := hide' hxl
      have LNX : Hid ((ot[j]'hj').1.2.2.2.length + bulkQ (ot[j]'hj').2 ≤ 1048576) := by unfold Hid; omega
      clear hxl hbo hbt hbw HL CUT' hrun
      generalize ot[j]'hj' = x at q0 q1 q2 q3 q4 KJ KJ2 RJ HXL LNX
      obtain ⟨xn, hxn⟩ : ∃ n, n = x.2.length := ⟨_, rfl⟩
      rw [← hxn] at q4 HXL
      have XN := hide' hxn
      clear hxn
      have a7 := below_alloc' wr (.cells #[.int .i64 x.1.1, .int .i64 x.1.2.1, .int .i64 x.1.2.2.1, .string ⟨x.1.2.2.2.toArray⟩, .slice xa xn xc] 55)
      have KX7 : Hid (Kz o lb rb w wr.heap.size [.int .i64 x.1.1, .int .i64 x.1.2.1, .int .i64 x.1.2.2.1, .string ⟨x.1.2.2.2.toArray⟩, .slice xa xn xc] (wr.alloc (.cells #[.int .i64 x.1.1, .int .i64 x.1.2.1, .int .i64 x.1.2.2.1, .string ⟨x.1.2.2.2.toArray⟩, .slice xa xn xc] 55))) := kz_new hT (by simpa using cells_lit wr #[.int .i64 x.1.1, .int .i64 x.1.2.1, .int .i64 x.1.2.2.1, .string ⟨x.1.2.2.2.toArray⟩, .slice xa xn xc] 55)
      have SX7 := hide' (sx_below hT a7)
      have KF7 := hide' (kz_below hK a7)
      clear a7 hT hK
      by_cases hpx : 0 < xn
      · have hpx2 : 0 < x.2.length := by rw [← XN.out]; exact hpx
        have EZ : stZ x (s, c) = (rewT x.2 (s, c)).1 := by unfold stZ; rw [if_pos hpx2]
        have KK := KJ2.out
        rw [EZ] at KK
        have RJ2 := RJ.out
        rw [EZ] at RJ2
        replace KK := hide' KK
        replace RJ2 := hide' RJ2
        clear EZ hpx2 KJ2 RJ
        obtain ⟨g0, g1, g2, g3, g4⟩ := blk_five KX7.out.blk
        obtain ⟨⟨k0, k1', k2, k3, k4, k5, k6, k7, k8, k9⟩, -⟩ := cells_ten SX7.out.blk
        go_wp2_with fail
        clear q0 q1 q2 q3 q4 g0 g1 g2 g3 g4 k0 k1' k2 k3 k4 k5 k6 k7 k8 k9
        generalize wr.alloc (.cells #[.int .i64 x.1.1, .int .i64 x.1.2.1, .int .i64 x.1.2.2.1, .string ⟨x.1.2.2.2.toArray⟩, .slice xa xn xc] 55) = w7 at KX7 SX7 KF7 ⊢
        obtain ⟨xb, hxb⟩ : ∃ q, q = wr.heap.size := ⟨_, rfl⟩
        rw [← hxb] at KX7 ⊢
        clear hxb
        have CC := hide' (copyRC (.slice xa xn xc) x.2 w7 (holdsR_mono HXL.out SX7.out.bel) (by have := bulkQ_len x.2; have := LNX.out; omega))
        refine CC.out.mono ?_
        rintro e w8 ⟨u, rfl, hown⟩
        obtain ⟨ya, yc, hu⟩ := ownR_sl hown
        subst hu
        have RS8 := hide' (rsd_own SX7.out.log hown)
        have RBL : Hid (rb < w7.heap.size) := SX7.out.blk.2
        have SX8 := hide' (sx_below SX7.out hown.2)
        have KF8 := hide' (kz_below KF7.out hown.2)
        have KX8 := hide' (kz_below KX7.out hown.2)
        clear CC hown SX7 KF7 KX7
        rw [← XN.out] at RS8 ⊢
        have CR := hide' (rewRC (S := Nq o lb rb) (sx_lt SX8.out) SX8.out.ref KJ.out.1 7000000 KJ.out.2.1 (by have := KJ.out.2.2; omega) c (.slice xa xn xc) x.2 (holdsR_mono HXL.out SX8.out.bel) (by have := bulkQ_bulkX x.2; have := LNX.out; omega))
        obtain ⟨g0, g1, g2, g3, g4⟩ := blk_five KX8.out.blk
        obtain ⟨⟨k0, k1', k2, k3, k4, k5, k6, k7, k8, k9⟩, -⟩ := cells_ten SX8.out.blk
        go_wp2_with fail
        refine CR.out.mono ?_
        rintro e w9 ⟨⟨ya0, yn0, yc0⟩, ⟨ya1, yn1, yc1⟩, ⟨ya2, yn2, yc2⟩, ⟨ya3, yn3, yc3⟩, ⟨ya4, yn4, yc4⟩, ⟨ya6, yn6, yc6⟩, s', es', rfl, hr9, hb9⟩
        dsimp only at hr9
        obtain ⟨c', hc'⟩ : ∃ c', c' = (rewT x.2 (s, c)).1.2 := ⟨_, rfl⟩
        obtain ⟨er, her⟩ : ∃ er, er = (rewT x.2 (s, c)).2 := ⟨_, rfl⟩
        have ET : Hid ((rewT x.2 (s, c)) = ((s', c'), er)) := Prod.ext (Prod.ext es'.symm hc'.symm) her.symm
        rw [← hc', ← her]
        have KL := KK.out
        rw [ET.out] at KL
        have RL2 := RJ2.out
        rw [ET.out] at RL2
        replace KL := hide' KL
        replace RL2 := hide' RL2
        clear es' hc' her KK RJ2 CR
        clear g0 g1 g2 g3 g4 k0 k1' k2 k3 k4 k5 k6 k7 k8 k9
        have a9 := below_alloc' w9 (.cells #[.slice ya0 yn0 yc0, .slice ya1 yn1 yc1, .slice ya2 yn2 yc2, .slice ya3 yn3 yc3, .slice ya4 yn4 yc4, .int .i64 s'.room, .slice ya6 yn6 yc6, .int .i64 s'.power, .int .i64 (s'.n : Int), .int .i64 c'] 46)
        have SXA := hide' (sx_below (sx_ref SX8.out hb9 hr9) a9)
        have KFA := hide' (kz_below (kz_below KF8.out hb9) a9)
        have KXA := hide' (kz_below (kz_below KX8.out hb9) a9)
        have sxp := sx_put SXA.out (us := [.slice ya0 yn0 yc0, .slice ya1 yn1 yc1, .slice ya2 yn2 yc2, .slice ya3 yn3 yc3, .slice ya4 yn4 yc4, .int .i64 s'.room, .slice ya6 yn6 yc6, .int .i64 s'.power, .int .i64 (s'.n : Int), .int .i64 c']) rfl
        have kfp := kz_put KFA.out [.slice ya0 yn0 yc0, .slice ya1 yn1 yc1, .slice ya2 yn2 yc2, .slice ya3 yn3 yc3, .slice ya4 yn4 yc4, .int .i64 s'.room, .slice ya6 yn6 yc6, .int .i64 s'.power, .int .i64 (s'.n : Int), .int .i64 c']
        have kxp := kz_put KXA.out [.slice ya0 yn0 yc0, .slice ya1 yn1 yc1, .slice ya2 yn2 yc2, .slice ya3 yn3 yc3, .slice ya4 yn4 yc4, .int .i64 s'.room, .slice ya6 yn6 yc6, .int .i64 s'.power, .int .i64 (s'.n : Int), .int .i64 c']
        have rsp := rsd_put (rsd_below (rsd_below RS8.out hb9) a9) RBL.out [.slice ya0 yn0 yc0, .slice ya1 yn1 yc1, .slice ya2 yn2 yc2, .slice ya3 yn3 yc3, .slice ya4 yn4 yc4, .int .i64 s'.room, .slice ya6 yn6 yc6, .int .i64 s'.power, .int .i64 (s'.n : Int), .int .i64 c']
        simp only [putFrom] at sxp kfp kxp rsp
        have SXB := hide' sxp
        have KFB := hide' kfp
        have KXB := hide' kxp
        have RSB := hide' rsp
        obtain ⟨⟨k0, k1', k2, k3, k4, k5, k6, k7, k8, k9⟩, f0, f1, f2, f3, f4, f5, f6, f7, f8, f9⟩ := cells_ten SXA.out.blk
        clear sxp kfp kxp rsp SXA KFA KXA SX8 KF8 KX8 a9 hb9 hr9 RS8
        go_wp2_with fail
        clear k0 k1' k2 k3 k4 k5 k6 k7 k8 k9 f0 f1 f2 f3 f4 f5 f6 f7 f8 f9
        generalize (((((((((((w9.alloc (.cells #[.slice ya0 yn0 yc0, .slice ya1 yn1 yc1, .slice ya2 yn2 yc2, .slice ya3 yn3 yc3, .slice ya4 yn4 yc4, .int .i64 s'.room, .slice ya6 yn6 yc6, .int .i64 s'.power, .int .i64 (s'.n : Int), .int .i64 c'] 46)).setCell ⟨rb, 0, none⟩ (.slice ya0 yn0 yc0)).setCell ⟨rb, 1, none⟩ (.slice ya1 yn1 yc1)).setCell ⟨rb, 2, none⟩ (.slice ya2 yn2 yc2)).setCell ⟨rb, 3, none⟩ (.slice ya3 yn3 yc3)).setCell ⟨rb, 4, none⟩ (.slice ya4 yn4 yc4)).setCell ⟨rb, 5, none⟩ (.int .i64 s'.room)).setCell ⟨rb, 6, none⟩ (.slice ya6 yn6 yc6)).setCell ⟨rb, 7, none⟩ (.int .i64 s'.power)).setCell ⟨rb, 8, none⟩ (.int .i64 (s'.n : Int))).setCell ⟨rb, 9, none⟩ (.int .i64 c')) = wA at SXB KFB KXB RSB ⊢
        have CW := hide' (rewriteC SXB.out.log 7000000 KJ.out.2.1 ya xn yc x.2 RSB.out.1 (by have := bulkQ_bulkX x.2; have := LNX.out; omega))
        refine CW.out.mono ?_
        rintro e wB ⟨⟨rfl, o', hl', hg'⟩, -⟩
        rw [ET.out] at hl' ⊢
        dsimp only at hl' ⊢
        have SXC := hide' (sx_grow SXB.out hl' hg')
        have KFC := hide' (kz_grow KFB.out hg')
        have KXC := hide' (kz_grow KXB.out hg')
        have RSC := hide' (rsd_grow RSB.out hg')
        clear CW hl' hg' SXB KFB KXB RSB
        obtain ⟨g0, g1, g2, g3, g4⟩ := blk_five KXC.out.blk
        have CS := hide' (sameRX (.slice ya xn yc) (.slice xa xn xc) x.2 wB RSC.out.1 (holdsR_mono HXL.out SXC.out.bel) (by have := bulkQ_len x.2; have := LNX.out; omega))
        go_wp2_with fail
        refine CS.out.mono ?_
        rintro e wC ⟨rfl, hbC⟩
        have RX : Hid (Lq g lb rb fb [.slice ya0 yn0 yc0, .slice ya1 yn1 yc1, .slice ya2 yn2 yc2, .slice ya3 yn3 yc3, .slice ya4 yn4 yc4, .int .i64 s'.room, .slice ya6 yn6 yc6, .int .i64 s'.power, .int .i64 (s'.n : Int), .int .i64 c'] [.int .i64 k1, .slice ka nk kc] (.agg #[.slice ya0 yn0 yc0, .slice ya1 yn1 yc1, .slice ya2 yn2 yc2, .slice ya3 yn3 yc3, .slice ya4 yn4 yc4, .int .i64 s'.room, .slice ya6 yn6 yc6, .int .i64 s'.power, .int .i64 (s'.n : Int)]) s' c' s' w wC) := ⟨o', sx_below SXC.out hbC, kz_below KFC.out hbC⟩
        clear CS hbC SXC KFC KXC RSC g0 g1 g2 g3 g4
        go_wp2_with fail
        have CEL : Hid (∀ Wx, Lq g lb rb fb [.slice ya0 yn0 yc0, .slice ya1 yn1 yc1, .slice ya2 yn2 yc2, .slice ya3 yn3 yc3, .slice ya4 yn4 yc4, .int .i64 s'.room, .slice ya6 yn6 yc6, .int .i64 s'.power, .int .i64 (s'.n : Int), .int .i64 c'] [.int .i64 k1, .slice ka nk kc] (.agg #[.slice ya0 yn0 yc0, .slice ya1 yn1 yc1, .slice ya2 yn2 yc2, .slice ya3 yn3 yc3, .slice ya4 yn4 yc4, .int .i64 s'.room, .slice ya6 yn6 yc6, .int .i64 s'.power, .int .i64 (s'.n : Int)]) s' c' s' w Wx → (Wx.cell? ⟨rb, 0, none⟩ = some (.slice ya0 yn0 yc0) ∧ Wx.cell? ⟨rb, 1, none⟩ = some (.slice ya1 yn1 yc1) ∧ Wx.cell? ⟨rb, 2, none⟩ = some (.slice ya2 yn2 yc2) ∧ Wx.cell? ⟨rb, 3, none⟩ = some (.slice ya3 yn3 yc3) ∧ Wx.cell? ⟨rb, 4, none⟩ = some (.slice ya4 yn4 yc4) ∧ Wx.cell? ⟨rb, 5, none⟩ = some (.int .i64 s'.room) ∧ Wx.cell? ⟨rb, 6, none⟩ = some (.slice ya6 yn6 yc6) ∧ Wx.cell? ⟨rb, 7, none⟩ = some (.int .i64 s'.power) ∧ Wx.cell? ⟨rb, 8, none⟩ = some (.int .i64 (s'.n : Int)) ∧ Wx.cell? ⟨rb, 9, none⟩ = some (.int .i64 c')) ∧ (Wx.cell? ⟨fb, 0, none⟩ = some (.int .i64 k1) ∧ Wx.cell? ⟨fb, 1, none⟩ = some (.slice ka nk kc))) := fun Wx h => ⟨(cells_ten (lq_blk h).1).1, (cells_2 (lq_blk h).2).1⟩
        have C1 : Hid (∀ Wx, Hid (Lq g lb rb fb [.slice ya0 yn0 yc0, .slice ya1 yn1 yc1, .slice ya2 yn2 yc2, .slice ya3 yn3 yc3, .slice ya4 yn4 yc4, .int .i64 s'.room, .slice ya6 yn6 yc6, .int .i64 s'.power, .int .i64 (s'.n : Int), .int .i64 c'] [.int .i64 k1, .slice ka nk kc] (.agg #[.slice ya0 yn0 yc0, .slice ya1 yn1 yc1, .slice ya2 yn2 yc2, .slice ya3 yn3 yc3, .slice ya4 yn4 yc4, .int .i64 s'.room, .slice ya6 yn6 yc6, .int .i64 s'.power, .int .i64 (s'.n : Int)]) s' c' s' w Wx) → Calls Tryz.prog 17 #[lptr lb] Wx fun e w' => e = .returned (.int .i64 c') ∧ Hid (Lq g lb rb fb [.slice ya0 yn0 yc0, .slice ya1 yn1 yc1, .slice ya2 yn2 yc2, .slice ya3 yn3 yc3, .slice ya4 yn4 yc4, .int .i64 s'.room, .slice ya6 yn6 yc6, .int .i64 s'.power, .int .i64 (s'.n : Int), .int .i64 c'] [.int .i64 k1, .slice ka nk kc] (.agg #[.slice ya0 yn0 yc0, .slice ya1 yn1 yc1, .slice ya2 yn2 yc2, .slice ya3 yn3 yc3, .slice ya4 yn4 yc4, .int .i64 s'.room, .slice ya6 yn6 yc6, .int .i64 s'.power, .int .i64 (s'.n : Int)]) s' c' s' w w') ∧ (w'.cell? ⟨rb, 0, none⟩ = some (.slice ya0 yn0 yc0) ∧ w'.cell? ⟨rb, 1, none⟩ = some (.slice ya1 yn1 yc1) ∧ w'.cell? ⟨rb, 2, none⟩ = some (.slice ya2 yn2 yc2) ∧ w'.cell? ⟨rb, 3, none⟩ = some (.slice ya3 yn3 yc3) ∧ w'.cell? ⟨rb, 4, none⟩ = some (.slice ya4 yn4 yc4) ∧ w'.cell? ⟨rb, 5, none⟩ = some (.int .i64 s'.room) ∧ w'.cell? ⟨rb, 6, none⟩ = some (.slice ya6 yn6 yc6) ∧ w'.cell? ⟨rb, 7, none⟩ = some (.int .i64 s'.power) ∧ w'.cell? ⟨rb, 8, none⟩ = some (.int .i64 (s'.n : Int)) ∧ w'.cell? ⟨rb, 9, none⟩ = some (.int .i64 c')) ∧ (w'.cell? ⟨fb, 0, none⟩ = some (.int .i64 k1) ∧ w'.cell? ⟨fb, 1, none⟩ = some (.slice ka nk kc))) := fun Wx h => by
          obtain ⟨o2, h1, h2⟩ := id h.out
          refine (countL h1.log).mono ?_
          rintro e w' ⟨rfl, rfl⟩
          exact ⟨rfl, h, CEL.out _ h.out⟩
        have C2 : Hid (∀ Wx, Hid (Lq g lb rb fb [.slice ya0 yn0 yc0, .slice ya1 yn1 yc1, .slice ya2 yn2 yc2, .slice ya3 yn3 yc3, .slice ya4 yn4 yc4, .int .i64 s'.room, .slice ya6 yn6 yc6, .int .i64 s'.power, .int .i64 (s'.n : Int), .int .i64 c'] [.int .i64 k1, .slice ka nk kc] (.agg #[.slice ya0 yn0 yc0, .slice ya1 yn1 yc1, .slice ya2 yn2 yc2, .slice ya3 yn3 yc3, .slice ya4 yn4 yc4, .int .i64 s'.room, .slice ya6 yn6 yc6, .int .i64 s'.power, .int .i64 (s'.n : Int)]) s' c' s' w Wx) → Calls Tryz.prog 10 #[.pointer (some ⟨g, 0, none⟩), .agg #[.slice ya0 yn0 yc0, .slice ya1 yn1 yc1, .slice ya2 yn2 yc2, .slice ya3 yn3 yc3, .slice ya4 yn4 yc4, .int .i64 s'.room, .slice ya6 yn6 yc6, .int .i64 s'.power, .int .i64 (s'.n : Int)], .agg #[.int .i64 k1, .slice ka nk kc]] Wx fun e w' => e = .returned (.bool true) ∧ Hid (Lq g lb rb fb [.slice ya0 yn0 yc0, .slice ya1 yn1 yc1, .slice ya2 yn2 yc2, .slice ya3 yn3 yc3, .slice ya4 yn4 yc4, .int .i64 s'.room, .slice ya6 yn6 yc6, .int .i64 s'.power, .int .i64 (s'.n : Int), .int .i64 c'] [.int .i64 k1, .slice ka nk kc] (.agg #[.slice ya0 yn0 yc0, .slice ya1 yn1 yc1, .slice ya2 yn2 yc2, .slice ya3 yn3 yc3, .slice ya4 yn4 yc4, .int .i64 s'.room, .slice ya6 yn6 yc6, .int .i64 s'.power, .int .i64 (s'.n : Int)]) s' c' s' w w') ∧ (w'.cell? ⟨rb, 0, none⟩ = some (.slice ya0 yn0 yc0) ∧ w'.cell? ⟨rb, 1, none⟩ = some (.slice ya1 yn1 yc1) ∧ w'.cell? ⟨rb, 2, none⟩ = some (.slice ya2 yn2 yc2) ∧ w'.cell? ⟨rb, 3, none⟩ = some (.slice ya3 yn3 yc3) ∧ w'.cell? ⟨rb, 4, none⟩ = some (.slice ya4 yn4 yc4) ∧ w'.cell? ⟨rb, 5, none⟩ = some (.int .i64 s'.room) ∧ w'.cell? ⟨rb, 6, none⟩ = some (.slice ya6 yn6 yc6) ∧ w'.cell? ⟨rb, 7, none⟩ = some (.int .i64 s'.power) ∧ w'.cell? ⟨rb, 8, none⟩ = some (.int .i64 (s'.n : Int)) ∧ w'.cell? ⟨rb, 9, none⟩ = some (.int .i64 c')) ∧ (w'.cell? ⟨fb, 0, none⟩ = some (.int .i64 k1) ∧ w'.cell? ⟨fb, 1, none⟩ = some (.slice ka nk kc))) := fun Wx h => by
          obtain ⟨o2, h1, h2⟩ := id h.out
          refine (sameLC h1.log.dsk (sx_refS h1) (bd_mono KL.out.2.1 (by omega)) k1 ka nk kc keep (holdsI_mono HK.out h1.bel) B4.out R1.out KB.out).mono ?_
          rintro e w' ⟨rfl, hb⟩
          have h' := lq_below h.out hb
          exact ⟨rfl, h', CEL.out _ h'⟩
        obtain ⟨⟨k0, k1', k2, k3, k4, k5, k6, k7, k8, k9⟩, ⟨m0, m1⟩⟩ := CEL.out _ RX.out
        clear CEL
        go_region_held3 (fun w' => w'.cell? ⟨rb, 0, none⟩ = some (.slice ya0 yn0 yc0) ∧ w'.cell? ⟨rb, 1, none⟩ = some (.slice ya1 yn1 yc1) ∧ w'.cell? ⟨rb, 2, none⟩ = some (.slice ya2 yn2 yc2) ∧ w'.cell? ⟨rb, 3, none⟩ = some (.slice ya3 yn3 yc3) ∧ w'.cell? ⟨rb, 4, none⟩ = some (.slice ya4 yn4 yc4) ∧ w'.cell? ⟨rb, 5, none⟩ = some (.int .i64 s'.room) ∧ w'.cell? ⟨rb, 6, none⟩ = some (.slice ya6 yn6 yc6) ∧ w'.cell? ⟨rb, 7, none⟩ = some (.int .i64 s'.power) ∧ w'.cell? ⟨rb, 8, none⟩ = some (.int .i64 (s'.n : Int)) ∧ w'.cell? ⟨rb, 9, none⟩ = some (.int .i64 c') ∧ w'.cell? ⟨fb, 0, none⟩ = some (.int .i64 k1) ∧ w'.cell? ⟨fb, 1, none⟩ = some (.slice ka nk kc)) (go_keep)
          (first
            | (go_at_call 17; refine (C1.out _ ?_).mono ?_; (first | exact RX | exact hide' (lq_below RX.out (Below.refl _ _).drew)); rintro e wD ⟨rfl, HD1, ⟨⟨k0, k1', k2, k3, k4, k5, k6, k7, k8, k9⟩, ⟨m0, m1⟩⟩⟩)
            | (go_at_call 10; refine (C2.out _ HD1).mono ?_; rintro e wE ⟨rfl, HD2, ⟨⟨k0, k1', k2, k3, k4, k5, k6, k7, k8, k9⟩, ⟨m0, m1⟩⟩⟩))
        all_goals
          go_wp2_with fail
          go_roundw
          case rel =>
            exact ⟨j + 1, by omega, by go_num, ⟨⟨ya0, yn0, yc0⟩, ⟨ya1, yn1, yc1⟩, ⟨ya2, yn2, yc2⟩, ⟨ya3, yn3, yc3⟩, ⟨ya4, yn4, yc4⟩, ⟨ya6, yn6, yc6⟩, s', c', RL2.out, HD2.out⟩⟩
          case measure => simp [intOf]; omega
      · have hpx2 : ¬ 0 < x.2.length := by rw [← XN.out]; exact hpx
        obtain rfl : xn = 0 := by omega
        have EZ : stZ x (s, c) = (addT x.1.2.1 x.1.2.2.1 x.1.2.2.2 (s, c)).1 := by unfold stZ; rw [if_neg hpx2]
        have KK := KJ2.out
        rw [EZ] at KK
        have RJ2 := RJ.out
        rw [EZ] at RJ2
        replace KK := hide' KK
        replace RJ2 := hide' RJ2
        clear EZ hpx2 KJ2 RJ
        obtain ⟨g0, g1, g2, g3, g4⟩ := blk_five KX7.out.blk
        obtain ⟨⟨k0, k1', k2, k3, k4, k5, k6, k7, k8, k9⟩, -⟩ := cells_ten SX7.out.blk
        go_wp2_with fail
        clear q0 q1 q2 q3 q4 g0 g1 g2 g3 g4 k0 k1' k2 k3 k4 k5 k6 k7 k8 k9
        generalize wr.alloc (.cells #[.int .i64 x.1.1, .int .i64 x.1.2.1, .int .i64 x.1.2.2.1, .string ⟨x.1.2.2.2.toArray⟩, .slice xa 0 xc] 55) = w7 at KX7 SX7 KF7 ⊢
        obtain ⟨xb, hxb⟩ : ∃ q, q = wr.heap.size := ⟨_, rfl⟩
        rw [← hxb] at KX7 ⊢
        clear hxb
        have SX8 := SX7
        have KF8 := KF7
        have KX8 := KX7
        clear SX7 KF7 KX7
        have CR := hide' (addRC (S := Nq o lb rb) (sx_lt SX8.out) SX8.out.ref KJ.out.1 7000000 KJ.out.2.1 (by have := KJ.out.2.2; omega) c x.1.2.1 x.1.2.2.1 x.1.2.2.2 (by have := LNX.out; omega) (by omega))
        refine CR.out.mono ?_
        rintro e w9 ⟨⟨ya0, yn0, yc0⟩, ⟨ya1, yn1, yc1⟩, ⟨ya2, yn2, yc2⟩, ⟨ya3, yn3, yc3⟩, ⟨ya4, yn4, yc4⟩, ⟨ya6, yn6, yc6⟩, s', es', rfl, hr9, hb9⟩
        dsimp only at hr9
        obtain ⟨c', hc'⟩ : ∃ c', c' = (addT x.1.2.1 x.1.2.2.1 x.1.2.2.2 (s, c)).1.2 := ⟨_, rfl⟩
        obtain ⟨er, her⟩ : ∃ er, er = (addT x.1.2.1 x.1.2.2.1 x.1.2.2.2 (s, c)).2 := ⟨_, rfl⟩
        have ET : Hid ((addT x.1.2.1 x.1.2.2.1 x.1.2.2.2 (s, c)) = ((s', c'), er)) := Prod.ext (Prod.ext es'.symm hc'.symm) her.symm
        rw [← hc', ← her]
        have KL := KK.out
        rw [ET.out] at KL
        have RL2 := RJ2.out
        rw [ET.out] at RL2
        replace KL := hide' KL
        replace RL2 := hide' RL2
        clear es' hc' her KK RJ2 CR
        have a9 := below_alloc' w9 (.cells #[.slice ya0 yn0 yc0, .slice ya1 yn1 yc1, .slice ya2 yn2 yc2, .slice ya3 yn3 yc3, .slice ya4 yn4 yc4, .int .i64 s'.room, .slice ya6 yn6 yc6, .int .i64 s'.power, .int .i64 (s'.n : Int), .int .i64 c'] 46)
        have SXA := hide' (sx_below (sx_ref SX8.out hb9 hr9) a9)
        have KFA := hide' (kz_below (kz_below KF8.out hb9) a9)
        have KXA := hide' (kz_below (kz_below KX8.out hb9) a9)
        have sxp := sx_put SXA.out (us := [.slice ya0 yn0 yc0, .slice ya1 yn1 yc1, .slice ya2 yn2 yc2, .slice ya3 yn3 yc3, .slice ya4 yn4 yc4, .int .i64 s'.room, .slice ya6 yn6 yc6, .int .i64 s'.power, .int .i64 (s'.n : Int), .int .i64 c']) rfl
        have kfp := kz_put KFA.out [.slice ya0 yn0 yc0, .slice ya1 yn1 yc1, .slice ya2 yn2 yc2, .slice ya3 yn3 yc3, .slice ya4 yn4 yc4, .int .i64 s'.room, .slice ya6 yn6 yc6, .int .i64 s'.power, .int .i64 (s'.n : Int), .int .i64 c']
        have kxp := kz_put KXA.out [.slice ya0 yn0 yc0, .slice ya1 yn1 yc1, .slice ya2 yn2 yc2, .slice ya3 yn3 yc3, .slice ya4 yn4 yc4, .int .i64 s'.room, .slice ya6 yn6 yc6, .int .i64 s'.power, .int .i64 (s'.n : Int), .int .i64 c']
        simp only [putFrom] at sxp kfp kxp
        have SXB := hide' sxp
        have KFB := hide' kfp
        have KXB := hide' kxp
        obtain ⟨⟨k0, k1', k2, k3, k4, k5, k6, k7, k8, k9⟩, f0, f1, f2, f3, f4, f5, f6, f7, f8, f9⟩ := cells_ten SXA.out.blk
        clear sxp kfp kxp SXA KFA KXA SX8 KF8 KX8 a9 hb9 hr9
        go_upto_region 24 with fail
        clear k0 k1' k2 k3 k4 k5 k6 k7 k8 k9 f0 f1 f2 f3 f4 f5 f6 f7 f8 f9
        generalize (((((((((((w9.alloc (.cells #[.slice ya0 yn0 yc0, .slice ya1 yn1 yc1, .slice ya2 yn2 yc2, .slice ya3 yn3 yc3, .slice ya4 yn4 yc4, .int .i64 s'.room, .slice ya6 yn6 yc6, .int .i64 s'.power, .int .i64 (s'.n : Int), .int .i64 c'] 46)).setCell ⟨rb, 0, none⟩ (.slice ya0 yn0 yc0)).setCell ⟨rb, 1, none⟩ (.slice ya1 yn1 yc1)).setCell ⟨rb, 2, none⟩ (.slice ya2 yn2 yc2)).setCell ⟨rb, 3, none⟩ (.slice ya3 yn3 yc3)).setCell ⟨rb, 4, none⟩ (.slice ya4 yn4 yc4)).setCell ⟨rb, 5, none⟩ (.int .i64 s'.room)).setCell ⟨rb, 6, none⟩ (.slice ya6 yn6 yc6)).setCell ⟨rb, 7, none⟩ (.int .i64 s'.power)).setCell ⟨rb, 8, none⟩ (.int .i64 (s'.n : Int))).setCell ⟨rb, 9, none⟩ (.int .i64 c')) = wA at SXB KFB KXB ⊢
        have CW := hide' (addC SXB.out.log 7000000 KJ.out.2.1 x.1.2.1 x.1.2.2.1 x.1.2.2.2 (by have := LNX.out; omega) (by omega))
        obtain ⟨g0, g1, g2, g3, g4⟩ := blk_five KXB.out.blk
        go_wp2_with fail
        refine CW.out.mono ?_
        rintro e wB ⟨⟨rfl, o', hl', hg'⟩, -⟩
        rw [ET.out] at hl' ⊢
        dsimp only at hl' ⊢
        have SXC := hide' (sx_grow SXB.out hl' hg')
        have KFC := hide' (kz_grow KFB.out hg')
        have KXC := hide' (kz_grow KXB.out hg')
        clear CW hl' hg' SXB KFB KXB g0 g1 g2 g3 g4
        have RX : Hid (Lq g lb rb fb [.slice ya0 yn0 yc0, .slice ya1 yn1 yc1, .slice ya2 yn2 yc2, .slice ya3 yn3 yc3, .slice ya4 yn4 yc4, .int .i64 s'.room, .slice ya6 yn6 yc6, .int .i64 s'.power, .int .i64 (s'.n : Int), .int .i64 c'] [.int .i64 k1, .slice ka nk kc] (.agg #[.slice ya0 yn0 yc0, .slice ya1 yn1 yc1, .slice ya2 yn2 yc2, .slice ya3 yn3 yc3, .slice ya4 yn4 yc4, .int .i64 s'.room, .slice ya6 yn6 yc6, .int .i64 s'.power, .int .i64 (s'.n : Int)]) s' c' s' w wB) := ⟨o', SXC.out, KFC.out⟩
        clear SXC KFC KXC
        go_wp2_with fail
        have CEL : Hid (∀ Wx, Lq g lb rb fb [.slice ya0 yn0 yc0, .slice ya1 yn1 yc1, .slice ya2 yn2 yc2, .slice ya3 yn3 yc3, .slice ya4 yn4 yc4, .int .i64 s'.room, .slice ya6 yn6 yc6, .int .i64 s'.power, .int .i64 (s'.n : Int), .int .i64 c'] [.int .i64 k1, .slice ka nk kc] (.agg #[.slice ya0 yn0 yc0, .slice ya1 yn1 yc1, .slice ya2 yn2 yc2, .slice ya3 yn3 yc3, .slice ya4 yn4 yc4, .int .i64 s'.room, .slice ya6 yn6 yc6, .int .i64 s'.power, .int .i64 (s'.n : Int)]) s' c' s' w Wx → (Wx.cell? ⟨rb, 0, none⟩ = some (.slice ya0 yn0 yc0) ∧ Wx.cell? ⟨rb, 1, none⟩ = some (.slice ya1 yn1 yc1) ∧ Wx.cell? ⟨rb, 2, none⟩ = some (.slice ya2 yn2 yc2) ∧ Wx.cell? ⟨rb, 3, none⟩ = some (.slice ya3 yn3 yc3) ∧ Wx.cell? ⟨rb, 4, none⟩ = some (.slice ya4 yn4 yc4) ∧ Wx.cell? ⟨rb, 5, none⟩ = some (.int .i64 s'.room) ∧ Wx.cell? ⟨rb, 6, none⟩ = some (.slice ya6 yn6 yc6) ∧ Wx.cell? ⟨rb, 7, none⟩ = some (.int .i64 s'.power) ∧ Wx.cell? ⟨rb, 8, none⟩ = some (.int .i64 (s'.n : Int)) ∧ Wx.cell? ⟨rb, 9, none⟩ = some (.int .i64 c')) ∧ (Wx.cell? ⟨fb, 0, none⟩ = some (.int .i64 k1) ∧ Wx.cell? ⟨fb, 1, none⟩ = some (.slice ka nk kc))) := fun Wx h => ⟨(cells_ten (lq_blk h).1).1, (cells_2 (lq_blk h).2).1⟩
        have C1 : Hid (∀ Wx, Hid (Lq g lb rb fb [.slice ya0 yn0 yc0, .slice ya1 yn1 yc1, .slice ya2 yn2 yc2, .slice ya3 yn3 yc3, .slice ya4 yn4 yc4, .int .i64 s'.room, .slice ya6 yn6 yc6, .int .i64 s'.power, .int .i64 (s'.n : Int), .int .i64 c'] [.int .i64 k1, .slice ka nk kc] (.agg #[.slice ya0 yn0 yc0, .slice ya1 yn1 yc1, .slice ya2 yn2 yc2, .slice ya3 yn3 yc3, .slice ya4 yn4 yc4, .int .i64 s'.room, .slice ya6 yn6 yc6, .int .i64 s'.power, .int .i64 (s'.n : Int)]) s' c' s' w Wx) → Calls Tryz.prog 17 #[lptr lb] Wx fun e w' => e = .returned (.int .i64 c') ∧ Hid (Lq g lb rb fb [.slice ya0 yn0 yc0, .slice ya1 yn1 yc1, .slice ya2 yn2 yc2, .slice ya3 yn3 yc3, .slice ya4 yn4 yc4, .int .i64 s'.room, .slice ya6 yn6 yc6, .int .i64 s'.power, .int .i64 (s'.n : Int), .int .i64 c'] [.int .i64 k1, .slice ka nk kc] (.agg #[.slice ya0 yn0 yc0, .slice ya1 yn1 yc1, .slice ya2 yn2 yc2, .slice ya3 yn3 yc3, .slice ya4 yn4 yc4, .int .i64 s'.room, .slice ya6 yn6 yc6, .int .i64 s'.power, .int .i64 (s'.n : Int)]) s' c' s' w w') ∧ (w'.cell? ⟨rb, 0, none⟩ = some (.slice ya0 yn0 yc0) ∧ w'.cell? ⟨rb, 1, none⟩ = some (.slice ya1 yn1 yc1) ∧ w'.cell? ⟨rb, 2, none⟩ = some (.slice ya2 yn2 yc2) ∧ w'.cell? ⟨rb, 3, none⟩ = some (.slice ya3 yn3 yc3) ∧ w'.cell? ⟨rb, 4, none⟩ = some (.slice ya4 yn4 yc4) ∧ w'.cell? ⟨rb, 5, none⟩ = some (.int .i64 s'.room) ∧ w'.cell? ⟨rb, 6, none⟩ = some (.slice ya6 yn6 yc6) ∧ w'.cell? ⟨rb, 7, none⟩ = some (.int .i64 s'.power) ∧ w'.cell? ⟨rb, 8, none⟩ = some (.int .i64 (s'.n : Int)) ∧ w'.cell? ⟨rb, 9, none⟩ = some (.int .i64 c')) ∧ (w'.cell? ⟨fb, 0, none⟩ = some (.int .i64 k1) ∧ w'.cell? ⟨fb, 1, none⟩ = some (.slice ka nk kc))) := fun Wx h => by
          obtain ⟨o2, h1, h2⟩ := id h.out
          refine (countL h1.log).mono ?_
          rintro e w' ⟨rfl, rfl⟩
          exact ⟨rfl, h, CEL.out _ h.out⟩
        have C2 : Hid (∀ Wx, Hid (Lq g lb rb fb [.slice ya0 yn0 yc0, .slice ya1 yn1 yc1, .slice ya2 yn2 yc2, .slice ya3 yn3 yc3, .slice ya4 yn4 yc4, .int .i64 s'.room, .slice ya6 yn6 yc6, .int .i64 s'.power, .int .i64 (s'.n : Int), .int .i64 c'] [.int .i64 k1, .slice ka nk kc] (.agg #[.slice ya0 yn0 yc0, .slice ya1 yn1 yc1, .slice ya2 yn2 yc2, .slice ya3 yn3 yc3, .slice ya4 yn4 yc4, .int .i64 s'.room, .slice ya6 yn6 yc6, .int .i64 s'.power, .int .i64 (s'.n : Int)]) s' c' s' w Wx) → Calls Tryz.prog 10 #[.pointer (some ⟨g, 0, none⟩), .agg #[.slice ya0 yn0 yc0, .slice ya1 yn1 yc1, .slice ya2 yn2 yc2, .slice ya3 yn3 yc3, .slice ya4 yn4 yc4, .int .i64 s'.room, .slice ya6 yn6 yc6, .int .i64 s'.power, .int .i64 (s'.n : Int)], .agg #[.int .i64 k1, .slice ka nk kc]] Wx fun e w' => e = .returned (.bool true) ∧ Hid (Lq g lb rb fb [.slice ya0 yn0 yc0, .slice ya1 yn1 yc1, .slice ya2 yn2 yc2, .slice ya3 yn3 yc3, .slice ya4 yn4 yc4, .int .i64 s'.room, .slice ya6 yn6 yc6, .int .i64 s'.power, .int .i64 (s'.n : Int), .int .i64 c'] [.int .i64 k1, .slice ka nk kc] (.agg #[.slice ya0 yn0 yc0, .slice ya1 yn1 yc1, .slice ya2 yn2 yc2, .slice ya3 yn3 yc3, .slice ya4 yn4 yc4, .int .i64 s'.room, .slice ya6 yn6 yc6, .int .i64 s'.power, .int .i64 (s'.n : Int)]) s' c' s' w w') ∧ (w'.cell? ⟨rb, 0, none⟩ = some (.slice ya0 yn0 yc0) ∧ w'.cell? ⟨rb, 1, none⟩ = some (.slice ya1 yn1 yc1) ∧ w'.cell? ⟨rb, 2, none⟩ = some (.slice ya2 yn2 yc2) ∧ w'.cell? ⟨rb, 3, none⟩ = some (.slice ya3 yn3 yc3) ∧ w'.cell? ⟨rb, 4, none⟩ = some (.slice ya4 yn4 yc4) ∧ w'.cell? ⟨rb, 5, none⟩ = some (.int .i64 s'.room) ∧ w'.cell? ⟨rb, 6, none⟩ = some (.slice ya6 yn6 yc6) ∧ w'.cell? ⟨rb, 7, none⟩ = some (.int .i64 s'.power) ∧ w'.cell? ⟨rb, 8, none⟩ = some (.int .i64 (s'.n : Int)) ∧ w'.cell? ⟨rb, 9, none⟩ = some (.int .i64 c')) ∧ (w'.cell? ⟨fb, 0, none⟩ = some (.int .i64 k1) ∧ w'.cell? ⟨fb, 1, none⟩ = some (.slice ka nk kc))) := fun Wx h => by
          obtain ⟨o2, h1, h2⟩ := id h.out
          refine (sameLC h1.log.dsk (sx_refS h1) (bd_mono KL.out.2.1 (by omega)) k1 ka nk kc keep (holdsI_mono HK.out h1.bel) B4.out R1.out KB.out).mono ?_
          rintro e w' ⟨rfl, hb⟩
          have h' := lq_below h.out hb
          exact ⟨rfl, h', CEL.out _ h'⟩
        obtain ⟨⟨k0, k1', k2, k3, k4, k5, k6, k7, k8, k9⟩, ⟨m0, m1⟩⟩ := CEL.out _ RX.out
        clear CEL
        go_region_held3 (fun w' => w'.cell? ⟨rb, 0, none⟩ = some (.slice ya0 yn0 yc0) ∧ w'.cell? ⟨rb, 1, none⟩ = some (.slice ya1 yn1 yc1) ∧ w'.cell? ⟨rb, 2, none⟩ = some (.slice ya2 yn2 yc2) ∧ w'.cell? ⟨rb, 3, none⟩ = some (.slice ya3 yn3 yc3) ∧ w'.cell? ⟨rb, 4, none⟩ = some (.slice ya4 yn4 yc4) ∧ w'.cell? ⟨rb, 5, none⟩ = some (.int .i64 s'.room) ∧ w'.cell? ⟨rb, 6, none⟩ = some (.slice ya6 yn6 yc6) ∧ w'.cell? ⟨rb, 7, none⟩ = some (.int .i64 s'.power) ∧ w'.cell? ⟨rb, 8, none⟩ = some (.int .i64 (s'.n : Int)) ∧ w'.cell? ⟨rb, 9, none⟩ = some (.int .i64 c') ∧ w'.cell? ⟨fb, 0, none⟩ = some (.int .i64 k1) ∧ w'.cell? ⟨fb, 1, none⟩ = some (.slice ka nk kc)) (go_keep)
          (first
            | (go_at_call 17; refine (C1.out _ ?_).mono ?_; (first | exact RX | exact hide' (lq_below RX.out (Below.refl _ _).drew)); rintro e wD ⟨rfl, HD1, ⟨⟨k0, k1', k2, k3, k4, k5, k6, k7, k8, k9⟩, ⟨m0, m1⟩⟩⟩)
            | (go_at_call 10; refine (C2.out _ HD1).mono ?_; rintro e wE ⟨rfl, HD2, ⟨⟨k0, k1', k2, k3, k4, k5, k6, k7, k8, k9⟩, ⟨m0, m1⟩⟩⟩))
        all_goals
          go_wp2_with fail
          go_roundw
          case rel =>
            exact ⟨j + 1, by omega, by go_num, ⟨⟨ya0, yn0, yc0⟩, ⟨ya1, yn1, yc1⟩, ⟨ya2, yn2, yc2⟩, ⟨ya3, yn3, yc3⟩, ⟨ya4, yn4, yc4⟩, ⟨ya6, yn6, yc6⟩, s', c', RL2.out, HD2.out⟩⟩
          case measure => simp [intOf]; omega
    · obtain ⟨_, _, _, _, _, _, s, c, _, hT⟩ := HL.out
      have NB := hide' (lq_bel hT)
      clear hT
      go_wp2_with fail
      go_ret
      exact ⟨rfl, NB.out⟩
end Go.Proofs.YtijnjgnckipghaaGreat
