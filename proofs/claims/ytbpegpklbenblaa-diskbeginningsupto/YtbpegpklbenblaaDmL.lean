/- DiskRoom's walk. -/
import Derived.Test.YtbpegpklbenblaaDmK
namespace Go.Proofs.Ytbpegpklbenblaa
open Go.RowKit
theorem act_room (s : Dk) (o : DOp) (k : Nat) : (s.act o k).1.room = s.room := by
  unfold Dk.act Dk.named
  split
  · rfl
  split
  · split <;> rfl
  split
  · rfl
  split
  · rfl
  split
  · split <;> rfl
  rfl
theorem step_room (s : Dk) (o : DOp) : (s.step o).1.room = s.room := by
  rcases step_cases s o with ⟨n, h⟩ | ⟨k, h, _⟩
  · rw [h]
  · rw [h, act_room]
theorem step_down (s : Dk) (o : DOp) (h : s.down = true) : (s.step o).1 = s := by
  unfold Dk.step
  rw [if_pos h]
theorem bad_same (s : Dk) (o : DOp) (h : (s.step o).2 ≠ 0) : (s.step o).1.used = s.used ∧ (∀ k keep, (s.step o).1.left k keep = s.left k keep) ∧ ((s.step o).1.down = false → (s.step o).1.list = s.list) := by
  obtain ⟨n, e⟩ := step_bad s o h
  have e2 := step_down s o
  rw [e] at e2 ⊢
  refine ⟨rfl, fun k keep => rfl, fun hd => ?_⟩
  have hs : s.down = false := by
    cases hx : s.down with
    | false => rfl
    | true => rw [e2 hx, hx] at hd; cases hd
  unfold Dk.list
  rw [hd, hs]
theorem keep_sub {o o' : Ow} {n : Nat} {wB wE wF : World} (hlt : ∀ k, o.has k → k < n) (hb : Below wB.heap.size wB wE) (hg : Grow o wE o' wF) : Sub (mask (fun k => k < n) wB) wF :=
  ((mask_mono (W := wB) hlt).trans (off_mask (S := o.has) (S' := o.has) (off_of hb) (fun _ hk => .inl hk))).trans ((off_mask (S := o.has) (S' := o.has) hg.off (fun _ hk => .inl hk)).trans (mask_sub _ _))
/-- the blocks of the arguments that are structs -/
structure Bas2 (w : World) (fv : Value) (room : Int) (zv : Value) (power k1 : Int) (kv1 : Value) (W : World) : Prop where
  p0 : Blk w.heap.size W [fv, .int .i64 room, zv, .int .i64 power]
  p1 : Blk (w.heap.size + 1) W [.int .i64 k1, kv1]
  bel : Below w.heap.size w W
theorem bas2_start (w : World) (fv : Value) (room : Int) (zv : Value) (power k1 : Int) (kv1 : Value) : Bas2 w fv room zv power k1 kv1 ((w.alloc (.cells #[fv, .int .i64 room, zv, .int .i64 power] 25)).alloc (.cells #[.int .i64 k1, kv1] 55)) := by
  have z1 : (w.alloc (.cells #[fv, .int .i64 room, zv, .int .i64 power] 25)).heap.size = w.heap.size + 1 := by simp
  have c0 := cells_lit w #[fv, .int .i64 room, zv, .int .i64 power] 25
  have c1 := cells_lit (w.alloc (.cells #[fv, .int .i64 room, zv, .int .i64 power] 25)) #[.int .i64 k1, kv1] 55
  rw [z1] at c1
  have e1 := below_alloc' w (.cells #[fv, .int .i64 room, zv, .int .i64 power] 25)
  have e2 := below_alloc' (w.alloc (.cells #[fv, .int .i64 room, zv, .int .i64 power] 25)) (.cells #[.int .i64 k1, kv1] 55)
  exact ⟨cells_below c0 e2, c1, e1.trans (e2.mono e1.size)⟩
theorem bas2_below {w : World} {fv : Value} {room : Int} {zv : Value} {power k1 : Int} {kv1 : Value} {W W' : World} (h : Bas2 w fv room zv power k1 kv1 W) (hb : Below W.heap.size W W') : Bas2 w fv room zv power k1 kv1 W' :=
  ⟨cells_below h.p0 hb, cells_below h.p1 hb, h.bel.trans (hb.mono h.bel.size)⟩
theorem sum_le_mul (l : List Nat) (m : Nat) (h : ∀ x ∈ l, x ≤ m) : l.sum ≤ l.length * m := by
  induction l with
  | nil => simp
  | cons a r ih =>
    have h1 := h a (by simp)
    have h2 := ih (fun x hx => h x (by simp [hx]))
    rw [List.sum_cons, List.length_cons, Nat.add_mul]
    omega
theorem used_bd {s : Dk} (h : Bd 1048576 s) : s.used ≤ 1099511627776 := by
  unfold Dk.used
  have h1 := sum_le_mul (s.now.map (fun p => (s.data.getD p.2 []).length)) 1048576 (fun x hx => by
    obtain ⟨p, _, rfl⟩ := List.mem_map.1 hx
    exact h.2.2.2.2.2 p.2)
  rw [List.length_map] at h1
  have h2 := h.2.2.1
  have h3 : s.now.length * 1048576 ≤ 1048576 * 1048576 := Nat.mul_le_mul_right _ h2
  omega
theorem list_len {m : Nat} {s : Dk} (h : Bd m s) : s.list.length ≤ m := by
  unfold Dk.list
  split
  · exact Nat.zero_le _
  · rw [List.length_map]; exact h.2.2.1
set_option maxRecDepth 20000 in
set_option maxHeartbeats 16000000 in
theorem roomC {w : World} {fv zv ov kv1 : Value} {fs : FL} {fails : List Int} {os : List OpT} {keep1 : List Int} (room power k1 : Int) (hf : HoldsFi w fv fs) (hz : HoldsI w zv fails) (ho : HoldsO w ov os) (h1 : HoldsI w kv1 keep1) (b1 : bulkF fs ≤ 1048576) (b2 : fails.length ≤ 1048576) (b3 : bulkO os ≤ 1048576) (b4 : keep1.length ≤ 1048576)
    (zb : ∀ z ∈ fails, -9223372036854775808 ≤ z ∧ z ≤ 9223372036854775807) (kb1 : ∀ z ∈ keep1, -9223372036854775808 ≤ z ∧ z ≤ 9223372036854775807) (r1 : -9223372036854775808 ≤ k1 ∧ k1 ≤ 9223372036854775807) :
    Calls Try.prog 8 #[.agg #[fv, .int .i64 room, zv, .int .i64 power], ov, .agg #[.int .i64 k1, kv1]] w fun e w' => e = .returned (.bool true) ∧ Below w.heap.size w w' := by
  obtain ⟨fa, fc, hfv, _⟩ := id hf
  obtain ⟨za, zc, hzv, _⟩ := id hz
  obtain ⟨ka, kc, hkv1, _⟩ := id h1
  obtain ⟨oa, oc, hov, _⟩ := ho_slice ho
  have HF := hide' hf
  have HZ := hide' hz
  have HO := hide' ho
  have H1 := hide' h1
  have B1 := hide' b1
  have B2 := hide' b2
  have B3 := hide' b3
  have B4 := hide' b4
  have ZB := hide' zb
  have KB1 := hide' kb1
  have R1 := hide' r1
  have BS := hide' (bas2_start w fv room zv power k1 kv1)
  subst hfv hzv hkv1 hov
  rename_i y1 y2 y3 y4
  clear y1 y2 y3 y4 hf hz ho h1 b1 b2 b3 b4 zb kb1 r1
  obtain ⟨nf, hnf⟩ : ∃ n, n = fs.length := ⟨_, rfl⟩
  obtain ⟨nz, hnz⟩ : ∃ n, n = fails.length := ⟨_, rfl⟩
  obtain ⟨n1, hn1⟩ : ∃ n, n = keep1.length := ⟨_, rfl⟩
  obtain ⟨no, hno⟩ : ∃ n, n = os.length := ⟨_, rfl⟩
  rw [← hnf, ← hnz, ← hn1] at BS
  rw [← hnf] at HF
  rw [← hnz] at HZ
  rw [← hn1] at H1
  rw [← hno] at HO
  rw [← hnf, ← hnz, ← hn1, ← hno]
  clear hnf hnz hn1 hno
  go_enter Try.func8, Try.ntmps8
  go_wp2_with fail
  generalize ((w.alloc (.cells #[.slice fa nf fc, .int .i64 room, .slice za nz zc, .int .i64 power] 25)).alloc (.cells #[.int .i64 k1, .slice ka n1 kc] 55)) = W3 at BS ⊢
  refine (aliveC W3).mono ?_
  rintro e w1 ⟨rfl, hb1⟩
  have BS1 := hide' (bas2_below BS.out hb1)
  clear hb1 BS
  obtain ⟨⟨x0, x1, x2, x3⟩, _⟩ := cells_4 BS1.out.p0
  have CB := hide' (beginC (.slice fa nf fc) fs room (.slice za nz zc) fails power w1 (holdsFi_mono HF.out BS1.out.bel) (holdsI_mono HZ.out BS1.out.bel) (fun f h => by have := bulkF_mem fs f h; have := B1.out; omega) (by have := bulkF_len fs; have := B1.out; omega) (by have := B2.out; omega) ZB.out)
  go_wp2_with fail
  refine CB.out.mono ?_
  intro e w2 np
  clear x0 x1 x2 x3 CB
  obtain ⟨nb, ⟨ne, rfl⟩ | ⟨hne0, g, o, rfl, hD, hO⟩⟩ := np
  · have NB := hide' (BS1.out.bel.trans (nb.mono BS1.out.bel.size))
    have ne' : ((newE fs room) != 0) = true := by simpa using ne
    clear nb
    generalize newE fs room = er at ne ne' ⊢
    go_wp2_with fail
    go_ret
    exact ⟨rfl, NB.out⟩
  have L0 : Hid (Liv o g (newS fs room fails power) w1 w2) := ⟨hD, hO, nb⟩
  have BD0 : Hid (Bd 1048576 (newS fs room fails power)) := bd_new fs room fails power 1048576 (by have := bulkF_len fs; have := B1.out; omega) (fun f h => by have := bulkF_mem fs f h; have := B1.out; omega)
  clear hD hO nb hne0
  have CU0 := hide' (usedC L0.out.dsk (bd_mono BD0.out (by omega)))
  go_wp2_with fail
  refine CU0.out.mono ?_
  rintro e w2b ⟨rfl, hb2⟩
  have L0b := hide' (liv_below L0.out hb2)
  clear CU0 hb2 L0
  have C0 := hide' (cutC (.slice oa no oc) os w2b (holdsO_mono HO.out (BS1.out.bel.trans (L0b.out.bel.mono BS1.out.bel.size))) (by have := bulk_len os; have := B3.out; omega))
  have ROOM0 : Hid ((newS fs room fails power).room = room) := rfl
  have RM0 : Hid (0 ≤ room ∧ room ≤ 1073741824) := (dsk_wf L0b.out.dsk).2.2
  have UB0 : Hid ((newS fs room fails power).used ≤ 1099511627776) := used_bd BD0.out
  generalize newS fs room fails power = s0 at L0b BD0 ROOM0 UB0 ⊢
  obtain ⟨U0, hU0⟩ : ∃ u, u = s0.used := ⟨_, rfl⟩
  have HU0 := hide' hU0
  rw [← hU0]
  clear hU0
  go_wp2_with fail
  refine C0.out.mono ?_
  rintro e w3 ⟨u, rfl, hu, rfl⟩
  have hcut := hu w HO.out
  obtain ⟨ua, uc, huv, hpos⟩ := ho_slice hcut
  have CUT := hide' hcut
  have BT : Hid (bulkO (os.take 300) ≤ 1048576) := Nat.le_trans (bulk_take os 300) B3.out
  clear C0 hu hcut
  generalize os.take 300 = ot at CUT huv hpos BT
  subst huv
  obtain ⟨nt, hnt⟩ : ∃ n, n = ot.length := ⟨_, rfl⟩
  have NT := hide' hnt
  rw [← hnt] at hpos ⊢
  have lnt : nt ≤ 1048576 := by have := bulk_len ot; have := BT.out; omega
  have BDS : Hid (∀ j, Bd 3000000 (runD s0 (ot.take j))) := fun j => bd_mono (bd_run (ot.take j) BD0.out) (by have := bulk_take ot j; have := BT.out; omega)
  have BW : Hid (Below w.heap.size w w1) := BS1.out.bel
  have RUN : Hid (∀ j (h : j < ot.length), runD s0 (ot.take (j + 1)) = ((runD s0 (ot.take j)).step (dop ot[j])).1) := fun j h => run_snoc _ ot j h
  clear hnt
  go_wp2_with fail
  go_loopw [10, 11, 12, 13, 14] (fun i _ _ _ _ wr => ∃ j : Nat, j ≤ nt ∧ i = .int .i64 j ∧ Hid (∃ o, Liv o g (runD s0 (ot.take j)) w1 wr) ∧ Hid ((runD s0 (ot.take j)).room = room ∧ ((runD s0 (ot.take j)).used ≤ U0 ∨ ((runD s0 (ot.take j)).used : Int) ≤ room))) (fun i _ _ _ _ _ => nt - (intOf i).toNat)
  case atStart => exact ⟨0, by omega, rfl, ⟨_, L0b.out⟩, ROOM0.out, .inl (by rw [HU0.out]; exact Nat.le_refl _)⟩
  case round =>
    obtain ⟨j, hj, rfl, HL, HU⟩ := hrel
    by_cases hlt : j < nt
    · have hj' : j < ot.length := by rw [← NT.out]; exact hlt
      obtain ⟨b, off, rfl⟩ := hpos (by omega)
      obtain ⟨o1, hl⟩ := HL.out
      have HL1 := hide' hl
      have BSr := hide' (bas2_below BS1.out hl.bel)
      have BDj := hide' (BDS.out j)
      have RUNj := hide' (RUN.out j hj')
      have LTr := hide' (dsk_lt hl.dsk)
      clear HL hl
      obtain ⟨s1, hs1⟩ : ∃ s1, s1 = runD s0 (ot.take (j + 1)) := ⟨_, rfl⟩
      have ES1 := hide' hs1
      rw [← hs1] at RUNj
      clear hs1
      generalize runD s0 (ot.take j) = s at HL1 HU BDj RUNj
      have CU := hide' (usedC HL1.out.dsk (bd_mono BDj.out (by omega)))
      go_wp2_with fail
      refine CU.out.mono ?_
      rintro e wA ⟨rfl, hbA⟩
      have LA := hide' (liv_below HL1.out hbA)
      have BSA := hide' (bas2_below BSr.out hbA)
      have hrA := hide' hbA.size
      have CL := hide' (listC LA.out.dsk (bd_mono BDj.out (by omega)))
      clear CU hbA HL1 BSr
      go_wp2_with fail
      refine CL.out.mono ?_
      rintro e wB ⟨lv, rfl, hoB⟩
      have LB := hide' (liv_below LA.out hoB.2)
      have BSB := hide' (bas2_below BSA.out hoB.2)
      have OB := hide' (ownS_mask hoB hrA.out)
      obtain ⟨⟨i0, i1⟩, _⟩ := cells_2 BSB.out.p1
      have CFt := hide' (copyFateC k1 (.slice ka n1 kc) keep1 wB (holdsI_mono H1.out BSB.out.bel) (by have := B4.out; omega))
      have hrB := hide' (Nat.le_trans hrA.out hoB.2.size)
      clear CL hoB LA BSA
      go_wp2_with fail
      refine CFt.out.mono ?_
      rintro e wC ⟨uF, rfl, huF, hbC⟩
      have LC := hide' (liv_below LB.out hbC)
      have BSC := hide' (bas2_below BSB.out hbC)
      have BBC := hide' hbC
      have hrC := hide' (Nat.le_trans hrB.out hbC.size)
      have CLf := hide' (leftC LC.out.dsk k1 uF keep1 huF R1.out KB1.out (bd_mono BDj.out (by omega)))
      have LBD := hide' (left_bd LC.out.dsk BDj.out k1 keep1)
      clear CFt huF hbC LB BSB i0 i1
      go_wp2_with fail
      refine CLf.out.mono ?_
      rintro e wD ⟨fl, rfl, hFD, hbD⟩
      have LD := hide' (liv_below LC.out hbD)
      have BSD := hide' (bas2_below BSC.out hbD)
      have BBD := hide' (BBC.out.trans (hbD.mono BBC.out.size))
      have OD := hide' (holdsFi_sub (mask_mono (S := fun k => k < wr.heap.size) (W := wD) (fun k hk => Nat.lt_of_lt_of_le hk hrC.out)) hFD)
      obtain ⟨da, dl, dc, ⟨q0, q1, q2, q3⟩, hdat⟩ := op_at (holdsO_mono CUT.out BSD.out.bel) j hj'
      have hbo := bulk_mem ot _ (List.getElem_mem hj')
      have hbt := BT.out
      have CS := hide' (opC (ot[j]'hj').1 ⟨(ot[j]'hj').2.1.toArray⟩ ⟨(ot[j]'hj').2.2.1.toArray⟩ da dl dc wD)
      have CD : Hid (∀ wx, Below wD.heap.size wD wx → Calls Try.prog 15 #[.pointer (some ⟨g, 0, none⟩), .agg #[.int .i64 (meant (ot[j]'hj').1), .string ⟨(ot[j]'hj').2.1.toArray⟩, .string ⟨(ot[j]'hj').2.2.1.toArray⟩, .slice da dl dc]] wx fun e W' => e = .returned (.int .i64 (s.step (dop (ot[j]'hj'))).2) ∧ ∃ o', Liv o' g (s.step (dop (ot[j]'hj'))).1 w1 W' ∧ Grow o1 wx o' W') := fun wx hb =>
        doMC (liv_below LD.out hb) (ot[j]'hj') da dl dc (by omega) (by omega) (bd_mono BDj.out (by omega)) (holdsB_mono hdat hb) (by omega)
      have BAD := hide' (bad_same s (dop (ot[j]'hj')))
      have WFs := dsk_wf LD.out.dsk
      have USE := hide' (used_step WFs.1 WFs.2.1 (dop (ot[j]'hj')))
      have RMs := hide' (step_room s (dop (ot[j]'hj')))
      have BDn := hide' (bd_mono (bd_step BDj.out (dop (ot[j]'hj'))) (show 3000000 + 2 + (dop (ot[j]'hj')).data.length ≤ 5000000 by show 3000000 + 2 + (ot[j]'hj').2.2.2.length ≤ 5000000; omega))
      clear hdat hbo hbt CLf hFD hbD LC BSC WFs
      generalize (ot[j]'hj').1 = oa0 at q0 CS CD
      generalize (ot[j]'hj').2.1.toArray = on0 at q1 CS CD
      generalize (ot[j]'hj').2.2.1.toArray = ot0 at q2 CS CD
      generalize dop (ot[j]'hj') = op at CD BAD USE RMs BDn RUNj
      rw [← RUNj.out] at CD BAD USE RMs BDn
      generalize (s.step op).2 = er at CD BAD
      go_wp2_with fail
      refine CS.out.mono ?_
      rintro e wE ⟨rfl, hbE⟩
      have CDE := hide' (CD.out wE hbE)
      have BBE := hide' (BBD.out.trans (hbE.mono BBD.out.size))
      have BDE := hide' hbE
      clear CS CD hbE q0 q1 q2 q3
      go_wp2_with fail
      refine CDE.out.mono ?_
      rintro e wF ⟨rfl, o2, hL2, hg⟩
      have LF := hide' hL2
      have BSF := hide' (bas2_below BS1.out hL2.bel)
      have HLst := hide' (holds_sub (keep_sub LTr.out BBE.out hg) OB.out)
      have HLft := hide' (holdsFi_sub (keep_sub LTr.out BDE.out hg) OD.out)
      clear CDE hL2 hg LD BSD OB OD BBC BBD BBE BDE hrA hrB hrC
      have NEWU : Hid (s1.room = room ∧ (s1.used ≤ U0 ∨ (s1.used : Int) ≤ room)) := by
        obtain ⟨a1, a2⟩ := HU.out
        refine ⟨RMs.out.trans a1, ?_⟩
        rcases USE.out with h | h
        · rcases a2 with a2 | a2
          · exact .inl (Nat.le_trans h a2)
          · right; omega
        · right; rw [a1] at h; exact h
      have KP : Hid (∀ Wx, Below wF.heap.size wF Wx → Wx.cell? ⟨w.heap.size, 1, none⟩ = some (.int .i64 room)) := fun Wx hb => (cells_4 (cells_below BSF.out.p0 hb)).1.2.1
      have CUx : Hid (∀ Wx, Below wF.heap.size wF Wx → Calls Try.prog 19 #[.pointer (some ⟨g, 0, none⟩)] Wx fun e w' => e = .returned (.int .i64 (s1.used : Int)) ∧ Hid (Below wF.heap.size wF w') ∧ w'.cell? ⟨w.heap.size, 1, none⟩ = some (.int .i64 room)) := fun Wx hb => by
        refine (usedC (liv_below LF.out hb).dsk (bd_mono BDn.out (by omega))).mono ?_
        rintro e w' ⟨rfl, hb2⟩
        have hb3 := hb.trans (hb2.mono hb.size)
        exact ⟨rfl, hb3, KP.out w' hb3⟩
      have k0 := KP.out wF (Below.refl _ _)
      have hcase : (decide (room < (s1.used : Int)) = false) ∨ (decide (room < (s1.used : Int)) = true ∧ decide (U0 < s1.used) = false ∧ decide ((U0 : Int) < (s1.used : Int)) = false) := by
        by_cases h : room < (s1.used : Int)
        · right
          refine ⟨by simpa using h, ?_⟩
          rcases NEWU.out.2 with h2 | h2
          · exact ⟨by simp; omega, by simp; omega⟩
          · omega
        · left; simpa using h
      obtain ⟨U1, hU1⟩ : ∃ u, u = s1.used := ⟨_, rfl⟩
      have HU1 := hide' hU1
      rw [← hU1] at CUx hcase
      obtain ⟨U, hU⟩ : ∃ u, u = s.used := ⟨_, rfl⟩
      have HUs := hide' hU
      rw [← hU]
      have bU1 : U1 ≤ 4611686018427387904 := by
        rcases NEWU.out.2 with h2 | h2
        · have := HU0.out
          have := UB0.out
          omega
        · have := RM0.out
          omega
      clear hU1 hU
      rcases hcase with qa | ⟨qa, qb, qc⟩
      case' inl =>
        go_wp2_with fail
        first | (go_region_with (first | (go_at_call 19; refine (CUx.out _ ?_).mono ?_; (first | exact Below.refl _ _ | exact (Below.refl _ _).drew); rintro e wG ⟨rfl, BG, iG⟩))) | fail
      case' inr =>
        go_wp2_with fail
        go_region_held3 (fun w' => w'.cell? ⟨w.heap.size, 1, none⟩ = some (.int .i64 room)) (go_keep)
          (first | (go_at_call 19; refine (CUx.out _ ?_).mono ?_; (first | exact Below.refl _ _ | exact (Below.refl _ _).drew | exact BG.out | exact BG.out.drew); rintro e wG ⟨rfl, BG, iG⟩))
      all_goals
        have LG := hide' (liv_below LF.out BG.out)
        have BSG := hide' (bas2_below BSF.out BG.out)
        have HLs := hide' (holds_mono HLst.out BG.out)
        have HLf := hide' (holdsFi_mono HLft.out BG.out)
        clear k0 KP CUx LF BSF BG HLst HLft
        by_cases her : er = 0
        · subst her
          go_wp2_with fail
          go_roundw
          case rel => exact ⟨j + 1, by omega, by go_num, by unfold Hid; rw [← ES1.out]; exact ⟨o2, LG.out⟩, by rw [← ES1.out]; exact NEWU⟩
          case measure => simp [intOf]; omega
        · have ne' : (er != 0) = true := by simpa using her
          obtain ⟨e1, e2, e3⟩ := BAD.out her
          have CU2 := hide' (usedC LG.out.dsk (bd_mono BDn.out (by omega)))
          rw [e1, ← HUs.out] at CU2
          have HE2 := hide' (e2 k1 keep1)
          have HE3 := hide' e3
          clear e1 e2 e3
          go_wp2_with fail
          refine CU2.out.mono ?_
          rintro e wH ⟨rfl, hbH⟩
          have LH := hide' (liv_below LG.out hbH)
          have BSH := hide' (bas2_below BSG.out hbH)
          have HLsH := hide' (holds_mono HLs.out hbH)
          have HLfH := hide' (holdsFi_mono HLf.out hbH)
          have CDn := hide' (downC LH.out.dsk)
          clear CU2 hbH LG BSG HLs HLf
          cases hdn : s1.down with
          | true =>
            rw [hdn] at CDn
            clear hdn
            go_wp2_with fail
            refine CDn.out.mono ?_
            rintro e wI ⟨rfl, nq, rfl⟩
            have LI := hide' (liv_below LH.out (below_drewN wH nq))
            have BSI := hide' (bas2_below BSH.out (below_drewN wH nq))
            have HLfI := hide' (holdsFi_mono HLfH.out (below_drewN wH nq))
            clear CDn LH BSH HLsH HLfH
            generalize wH.drewN nq = wJ at LI BSI HLfI ⊢
            obtain ⟨⟨i0, i1⟩, _⟩ := cells_2 BSI.out.p1
            have CF2 := hide' (copyFateC k1 (.slice ka n1 kc) keep1 wJ (holdsI_mono H1.out BSI.out.bel) (by have := B4.out; omega))
            go_wp2_with fail
            refine CF2.out.mono ?_
            rintro e wK ⟨uK, rfl, huK, hbK⟩
            have LK := hide' (liv_below LI.out hbK)
            have HLfK := hide' (holdsFi_mono HLfI.out hbK)
            have CL3 := hide' (leftC LK.out.dsk k1 uK keep1 huK R1.out KB1.out (bd_mono BDn.out (by omega)))
            rw [HE2.out] at CL3
            clear CF2 huK hbK i0 i1 LI BSI HLfI
            go_wp2_with fail
            refine CL3.out.mono ?_
            rintro e wL ⟨lvL, rfl, hFL, hbL⟩
            have LL := hide' (liv_below LK.out hbL)
            have CSF := hide' (sameFi _ _ _ wL (holdsFi_sub (mask_sub _ _) hFL) (holdsFi_mono HLfK.out hbL) (by have := LBD.out.1; omega) (fun f h => by have := (LBD.out.2 f h).2; omega))
            clear CL3 hFL hbL LK HLfK
            go_wp2_with fail
            refine CSF.out.mono ?_
            rintro e wM ⟨rfl, hbM⟩
            have LM := hide' (liv_below LL.out hbM)
            clear CSF hbM LL
            go_wp2_with fail
            go_roundw
            case rel => exact ⟨j + 1, by omega, by go_num, by unfold Hid; rw [← ES1.out]; exact ⟨o2, LM.out⟩, by rw [← ES1.out]; exact NEWU⟩
            case measure => simp [intOf]; omega
          | false =>
            rw [hdn] at CDn
            have HE4 := hide' (HE3.out hdn)
            clear hdn
            go_wp2_with fail
            refine CDn.out.mono ?_
            rintro e wI ⟨rfl, nq, rfl⟩
            have LI0 := hide' (liv_below LH.out (below_drewN wH nq))
            have BSI0 := hide' (bas2_below BSH.out (below_drewN wH nq))
            have HLsI0 := hide' (holds_mono HLsH.out (below_drewN wH nq))
            have HLfI0 := hide' (holdsFi_mono HLfH.out (below_drewN wH nq))
            clear CDn LH BSH HLsH HLfH
            generalize wH.drewN nq = wI at LI0 BSI0 HLsI0 HLfI0 ⊢
            have CL2 := hide' (listC LI0.out.dsk (bd_mono BDn.out (by omega)))
            rw [HE4.out] at CL2
            go_wp2_with fail
            refine CL2.out.mono ?_
            rintro e wI2 ⟨lv2, rfl, ho2⟩
            have LI1 := hide' (liv_below LI0.out ho2.2)
            have BSI1 := hide' (bas2_below BSI0.out ho2.2)
            have HLfI1 := hide' (holdsFi_mono HLfI0.out ho2.2)
            have CST := hide' (sameTe _ _ _ wI2 (holds_own ho2) (holds_mono HLsI0.out ho2.2) (by have := list_len BDj.out; omega))
            clear CL2 ho2 LI0 BSI0 HLsI0 HLfI0
            go_wp2_with fail
            refine CST.out.mono ?_
            rintro e wJ ⟨rfl, hbJ⟩
            have LI := hide' (liv_below LI1.out hbJ)
            have BSI := hide' (bas2_below BSI1.out hbJ)
            have HLfI := hide' (holdsFi_mono HLfI1.out hbJ)
            clear CST hbJ LI1 BSI1 HLfI1
            obtain ⟨⟨i0, i1⟩, _⟩ := cells_2 BSI.out.p1
            have CF2 := hide' (copyFateC k1 (.slice ka n1 kc) keep1 wJ (holdsI_mono H1.out BSI.out.bel) (by have := B4.out; omega))
            go_wp2_with fail
            refine CF2.out.mono ?_
            rintro e wK ⟨uK, rfl, huK, hbK⟩
            have LK := hide' (liv_below LI.out hbK)
            have HLfK := hide' (holdsFi_mono HLfI.out hbK)
            have CL3 := hide' (leftC LK.out.dsk k1 uK keep1 huK R1.out KB1.out (bd_mono BDn.out (by omega)))
            rw [HE2.out] at CL3
            clear CF2 huK hbK i0 i1 LI BSI HLfI
            go_wp2_with fail
            refine CL3.out.mono ?_
            rintro e wL ⟨lvL, rfl, hFL, hbL⟩
            have LL := hide' (liv_below LK.out hbL)
            have CSF := hide' (sameFi _ _ _ wL (holdsFi_sub (mask_sub _ _) hFL) (holdsFi_mono HLfK.out hbL) (by have := LBD.out.1; omega) (fun f h => by have := (LBD.out.2 f h).2; omega))
            clear CL3 hFL hbL LK HLfK
            go_wp2_with fail
            refine CSF.out.mono ?_
            rintro e wM ⟨rfl, hbM⟩
            have LM := hide' (liv_below LL.out hbM)
            clear CSF hbM LL
            go_wp2_with fail
            go_roundw
            case rel => exact ⟨j + 1, by omega, by go_num, by unfold Hid; rw [← ES1.out]; exact ⟨o2, LM.out⟩, by rw [← ES1.out]; exact NEWU⟩
            case measure => simp [intOf]; omega
    · go_wp2_with fail
      go_ret
      obtain ⟨o1, hl⟩ := HL.out
      exact ⟨rfl, BW.out.trans (hl.bel.mono BW.out.size)⟩
end Go.Proofs.Ytbpegpklbenblaa
