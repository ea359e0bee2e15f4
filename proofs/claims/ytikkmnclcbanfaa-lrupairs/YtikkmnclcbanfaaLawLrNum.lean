/- The walk of LruNumbers. -/
import Derived.Test.YtikkmnclcbanfaaLawLrMem
import Derived.Deep.RegionWith
namespace Go.Proofs.Ytikkmnclcbanfaa
open Go.RowKit Go.Maps Go.WideMaps
theorem refWithoutQ {w W : World} {g c : Nat} {room : Int} {l l2 : IL} {q : List Nat} {rv : Value} (h : TbQ w g room l2 c q rv l W) (k : Nm) (hn : l.length ≤ 1000000) :
    Calls Try.prog 20 #[.agg #[.int .i64 room, rv], .string ⟨k.toArray⟩] W fun e W' => ∃ a n cc, e = .returned (.agg #[.int .i64 room, .slice a n cc]) ∧ TbQ w g room l2 c q (.slice a n cc) (withT l k) W' ∧ Below W.heap.size W W' := by
  refine (withoutRefC room rv l k W (tbq_holds h) hn).mono ?_
  rintro e W' ⟨a, n, cc, rfl, ho⟩
  exact ⟨a, n, cc, rfl, tbq_rv h ho.2 (fun T hT _ => ownI_mask ho hT), ho.2⟩
theorem refFirstQ {w W : World} {g c : Nat} {room : Int} {l l2 : IL} {q : List Nat} {rv : Value} (h : TbQ w g room l2 c q rv l W) (p : ItI) (hn : l.length ≤ 1000000) :
    Calls Try.prog 17 #[.agg #[.int .i64 room, rv], .agg #[.string ⟨p.key.toArray⟩, .int .i64 p.v, .int .i64 p.size]] W fun e W' => ∃ a n cc, e = .returned (.agg #[.int .i64 room, .slice a n cc]) ∧ TbQ w g room l2 c q (.slice a n cc) (p :: withT l p.key) W' ∧ Below W.heap.size W W' := by
  refine (firstRefC room rv l p W (tbq_holds h) hn).mono ?_
  rintro e W' ⟨a, n, cc, rfl, ho⟩
  exact ⟨a, n, cc, rfl, tbq_rv h ho.2 (fun T hT _ => ownI_mask ho hT), ho.2⟩
/-- the place of a key that is there -/
theorem at_idx {l : IL} {k : Nm} {x : ItI} (h : findT l k = some x) : ∃ (j : Nat) (hj : j < l.length), atI l k = (j : Int) ∧ l[j] = x := by
  have hm := find_some h
  have hp : ∃ y ∈ l, (fun x : ItI => decide (x.key = k)) y = true := ⟨x, hm.1, by simpa using hm.2⟩
  have hlt := List.findIdx_lt_length_of_exists hp
  refine ⟨l.findIdx (fun x => decide (x.key = k)), hlt, by unfold atI; rw [h, if_neg (by simp)], ?_⟩
  have e := List.find?_eq_getElem?_findIdx (p := fun x : ItI => decide (x.key = k)) (xs := l)
  unfold findT at h
  rw [h, List.getElem?_eq_getElem hlt] at e
  exact (Option.some.inj e).symm
set_option maxRecDepth 20000 in
set_option maxHeartbeats 8000000 in
theorem numbersC (room : Int) (v : Value) (os : KL) (w : World) (h : HoldsK w v os) (hl : ∀ o ∈ os, o.key.length ≤ 140737488351232) (hn : os.length * 40 ≤ 140737488351232) :
    Calls Try.prog 3 #[.int .i64 room, v] w fun e w' => e = .returned (.bool true) ∧ Below w.heap.size w w' := by
  have CA := hide' (aliveC w)
  have HK := hide' h
  have HLN := hide' hl
  have hn2 : os.length ≤ 9000000000000000000 := by omega
  clear h hl
  go_enter Try.func3, Try.ntmps3
  go_wp2_with fail
  refine CA.out.mono ?_
  rintro e w1 ⟨rfl, b1⟩
  have CN := hide' (newQ w w1 room b1 [] (fun k hk => by cases hk))
  clear b1 CA
  go_wp2_with fail
  refine CN.out.mono ?_
  rintro e w2 ⟨g, rfl, t2, b2⟩
  have CR := hide' (newRefC room w2)
  obtain ⟨rm, hrm⟩ : ∃ rm, rm = min (max room 0) 1073741824 := ⟨_, rfl⟩
  rw [← hrm] at t2 CR
  have HRM := hide' hrm
  have T2 := hide' t2
  clear t2 b2 CN hrm
  go_wp2_with fail
  refine CR.out.mono ?_
  rintro e w3 ⟨rfl, b3⟩
  have bN := below_alloc' w3 (.cells #[.int .i64 rm, .slice none 0 0] 28)
  have T4 := hide' (tbq_new (b := w3.heap.size) (tbq_below T2.out b3) bN (Nat.le_refl _) (by simp))
  have K4 : Hid (Blk w3.heap.size (w3.alloc (.cells #[.int .i64 rm, .slice none 0 0] 28)) [.int .i64 rm, .slice none 0 0]) := cells_lit w3 #[.int .i64 rm, .slice none 0 0] 28
  obtain ⟨qr, hqr⟩ : ∃ qr, qr = w3.heap.size := ⟨_, rfl⟩
  have HQR := hide' hqr
  rw [← hqr] at T4 K4
  have CC := hide' (cutC v os w (w3.alloc (.cells #[.int .i64 rm, .slice none 0 0] 28)) HK.out hn2)
  clear b3 bN CR hqr
  go_wp2_with fail
  refine CC.out.mono ?_
  rintro e w5 ⟨v', rfl, h3, ew⟩
  rw [ew, ← HQR.out]
  clear ew w5 CC
  obtain ⟨n, hN⟩ : ∃ n, n = (os.take 300).length := ⟨_, rfl⟩
  have hn3 : n ≤ 300 := by rw [hN, List.length_take]; omega
  have HL3 : Hid (∀ j (hj : j < (os.take 300).length), ((os.take 300)[j]).key.length ≤ 140737488351232) := fun j hj => HLN.out _ (List.mem_of_mem_take (List.getElem_mem hj))
  obtain ⟨a3, c3, rfl, hat⟩ := holdsK_at h3
  have HAT := hide' hat
  have HN := hide' hN
  rw [← hN]
  clear h3 hat hN hn
  generalize os.take 300 = os3 at *
  go_wp2_with fail
  go_loopw [7, 8, 9, 10, 11, 12, 13, 14, 15, 16, 17, 18, 19] (fun iv _ _ _ _ _ _ _ _ _ _ _ _ wr => ∃ (i : Nat) (l : IL) (ra : Option Addr) (rn rc : Nat), i ≤ n ∧ iv = .int .i64 i ∧ Hid (TbQ w g rm l i [qr] (.slice ra rn rc) l wr) ∧ Hid (Blk qr wr [.int .i64 rm, .slice ra rn rc])) (fun iv _ _ _ _ _ _ _ _ _ _ _ _ _ => n - (intOf iv).toNat)
  case atStart => exact ⟨0, [], none, 0, 0, by omega, rfl, T4, K4⟩
  case round =>
    obtain ⟨i, l, ra, rn, rc, hi, rfl, HT, HR⟩ := hrel
    by_cases hlt : i < n
    · have hil : i < os3.length := by rw [← HN.out]; exact hlt
      obtain ⟨b, off, rfl, hb, e0, e1, e2, e3⟩ := HAT.out i hil
      have KP : ∀ o, wr.cell? ⟨b, o, none⟩ = w.cell? ⟨b, o, none⟩ := fun o => (tbq_bel HT.out).cell (p := ⟨b, o, none⟩) hb
      rw [← KP] at e0 e1 e2 e3
      have hkl := HL3.out i hil
      obtain ⟨op, hop⟩ : ∃ op, op = os3[i] := ⟨_, rfl⟩
      rw [← hop] at e0 e1 e2 e3 hkl
      obtain ⟨wt, key, ov, sz⟩ := op
      simp only at e0 e1 e2 e3 hkl
      obtain ⟨kb, hkb⟩ : ∃ kb : ByteArray, kb = ⟨key.toArray⟩ := ⟨_, rfl⟩
      have HKB := hide' hkb
      have hks : kb.size ≤ 140737488351232 := by rw [hkb, size_l]; exact hkl
      have HKD : Hid (kb.data.toList = key) := by unfold Hid; rw [hkb]
      rw [← hkb] at e1
      have bN := below_alloc' wr (.cells #[.int .i64 wt, .string kb, .int .i64 ov, .int .i64 sz] 32)
      obtain ⟨w1', hw1'⟩ : ∃ w1', w1' = wr.alloc (.cells #[.int .i64 wt, .string kb, .int .i64 ov, .int .i64 sz] 32) := ⟨_, rfl⟩
      have HW1 := hide' hw1'
      have T1 := hide' (tbq_new (b := wr.heap.size) HT.out bN (Nat.le_refl _) (by simp))
      have K1 := hide' (cells_lit wr #[.int .i64 wt, .string kb, .int .i64 ov, .int .i64 sz] 32)
      have R1 := hide' (cells_below HR.out bN)
      obtain ⟨bo, hbo⟩ : ∃ bo, bo = wr.heap.size := ⟨_, rfl⟩
      have HBO := hide' hbo
      rw [← hbo] at T1 K1
      rw [← hw1'] at T1 K1 R1
      have hlen := tbq_len T1.out
      have HLEN := hide' hlen
      have CA2 := hide' (atRefC rm (.slice ra rn rc) l key w1' (tbq_holds T1.out) (by omega))
      rw [← HKB.out] at CA2
      obtain ⟨s0, s1⟩ : wr.cell? ⟨qr, 0, none⟩ = some (.int .i64 rm) ∧ wr.cell? ⟨qr, 1, none⟩ = some (.slice ra rn rc) := ⟨(HR.out.1 0 (by simp)).1, (HR.out.1 1 (by simp)).1⟩
      have hql := HR.out.2
      clear KP hkl hop hkb bN hbo HT HR hw1' hlen
      go_wp2_with fail
      rw [← HW1.out, ← HBO.out]
      refine CA2.out.mono ?_
      rintro e w4 ⟨rfl, b4⟩
      have T4' := hide' (tbq_below T1.out b4)
      have K4' := hide' (cells_below K1.out b4)
      have R4 := hide' (cells_below R1.out b4)
      clear b4 T1 K1 R1 CA2 s0 s1 e0 e1 e2 e3 hql
      obtain ⟨d0, d1, d2, d3⟩ : w4.cell? ⟨bo, 0, none⟩ = some (.int .i64 wt) ∧ w4.cell? ⟨bo, 1, none⟩ = some (.string kb) ∧ w4.cell? ⟨bo, 2, none⟩ = some (.int .i64 ov) ∧ w4.cell? ⟨bo, 3, none⟩ = some (.int .i64 sz) := ⟨(K4'.out.1 0 (by simp)).1, (K4'.out.1 1 (by simp)).1, (K4'.out.1 2 (by simp)).1, (K4'.out.1 3 (by simp)).1⟩
      obtain ⟨r0, r1⟩ : w4.cell? ⟨qr, 0, none⟩ = some (.int .i64 rm) ∧ w4.cell? ⟨qr, 1, none⟩ = some (.slice ra rn rc) := ⟨(R4.out.1 0 (by simp)).1, (R4.out.1 1 (by simp)).1⟩
      obtain ⟨rf0, rf1⟩ : w4.frozen? ⟨qr, 0, none⟩ = false ∧ w4.frozen? ⟨qr, 1, none⟩ = false := ⟨(R4.out.1 0 (by simp)).2, (R4.out.1 1 (by simp)).2⟩
      have hqm : Hid (qr ∈ [bo, qr]) := by unfold Hid; simp
      -- what Put does on both sides
      have CP := hide' (putQ T4'.out (by omega) ⟨key, ov, sz⟩ kb HKD.out.symm hks)
      simp only at CP
      have CG := hide' (getQ T4'.out kb hks)
      have CK0 := hide' (peekQ T4'.out kb hks)
      have CD := hide' (dropQ T4'.out kb hks)
      rw [HKD.out] at CG CK0 CD
      cases hf : findT l key with
      | none =>
        have ea : atI l key = -1 := by unfold atI; rw [hf, if_pos rfl]
        have ep : peekI l key = .tuple #[.int .i64 0, .bool false] := by unfold peekI; rw [hf]
        have eg : getT l key = l := by unfold getT; rw [hf]
        rw [ea]
        rw [ep, eg] at CG
        rw [ep] at CK0
        rw [hf] at CD
        clear ea ep eg hf
        rcases (show wt = 1 ∨ wt = 2 ∨ wt = 3 ∨ wt = 4 ∨ (¬ wt = 1 ∧ ¬ wt = 2 ∧ ¬ wt = 3 ∧ ¬ wt = 4) by omega) with rfl | rfl | rfl | rfl | ⟨m1, m2, m3, m4⟩
        · clear CG CK0 CD
          go_wp2_with fail
          refine CP.out.mono ?_
          rintro e w5 ⟨gv, rfl, g5, t5, k5, z5⟩
          have K5 := hide' (keepQ_blk K4'.out k5 (by simp) z5)
          have R5 := hide' (keepQ_blk R4.out k5 (by simp) z5)
          obtain ⟨f1, f2, f3⟩ : w5.cell? ⟨bo, 1, none⟩ = some (.string kb) ∧ w5.cell? ⟨bo, 2, none⟩ = some (.int .i64 ov) ∧ w5.cell? ⟨bo, 3, none⟩ = some (.int .i64 sz) := ⟨(K5.out.1 1 (by simp)).1, (K5.out.1 2 (by simp)).1, (K5.out.1 3 (by simp)).1⟩
          obtain ⟨q0, q1⟩ : w5.cell? ⟨qr, 0, none⟩ = some (.int .i64 rm) ∧ w5.cell? ⟨qr, 1, none⟩ = some (.slice ra rn rc) := ⟨(R5.out.1 0 (by simp)).1, (R5.out.1 1 (by simp)).1⟩
          have CF := hide' (refPutQ t5 ⟨key, ov, sz⟩ (by have := HLEN.out; omega) (tbq_ok T4'.out))
          simp only at CF
          rw [← HKB.out] at CF
          have hgl : (putG rm l ⟨key, ov, sz⟩).length ≤ 1000 := by
            unfold putG
            split
            · unfold goneT
              rw [List.length_map, List.length_reverse, List.length_drop]
              have := (with_sub l key).length_le
              have := HLEN.out
              simp only
              omega
            · simp
          have HGL := hide' hgl
          have hqb : qr < w4.heap.size := R4.out.2
          have G5 := hide' g5
          have HZ5 := z5
          have hq5 : qr < w5.heap.size := by omega
          clear HZ5
          obtain ⟨l2, hl2⟩ : ∃ l2, l2 = putT rm l ⟨key, ov, sz⟩ := ⟨_, rfl⟩
          rw [← hl2] at CF
          clear CP t5 k5 z5 g5 hgl hl2 d0 d1 d2 d3 r0 r1
          go_wp2_with fail
          refine CF.out.mono ?_
          rintro e w6 ⟨a9, n9, c9, gv2, rfl, t6, g6, b6⟩
          have R6 := hide' (cells_below R5.out b6)
          have G6 := hide' (ownT_apart (S := fun _ => False) G5.out (off_of b6) (fun _ _ e => e))
          have hqm2 : qr ∈ gv.ownBlock.toList ++ [bo, qr] := by simp
          obtain ⟨wA, hwA⟩ : ∃ wA, wA = ((w6.setCell ⟨qr, 0, none⟩ (.int .i64 rm)).setCell ⟨qr, 1, none⟩ (.slice a9 n9 c9)).alloc (.cells #[.int .i64 rm, .slice a9 n9 c9] 28) := ⟨_, rfl⟩
          have HW9 := hide' hwA
          have po : Off (fun k => k = qr) w6 wA := by
            rw [hwA]
            exact Off.trans (Off.trans (off_poke (S := fun k => k = qr) ⟨qr, 0, none⟩ rfl _) (off_poke (S := fun k => k = qr) ⟨qr, 1, none⟩ rfl _) (fun i e => .inl e)) (off_alloc (S := fun k => k = qr) _) (fun i e => .inl e)
          have T8 : TbQ w g rm l2 (i + 1) (gv.ownBlock.toList ++ [bo, qr]) (.slice a9 n9 c9) l2 wA := by
            rw [hwA]; exact tbq_below (tbq_poke (tbq_poke t6 hqm2) hqm2) (below_alloc' _ _)
          have R8 : Hid (Blk qr wA [.int .i64 rm, .slice a9 n9 c9]) := by
            rw [hwA]
            have := cells_below (cells_set (cells_set R6.out (j := 0) (by simp) (.int .i64 rm)) (j := 1) (by simp) (.slice a9 n9 c9)) (below_alloc' _ (.cells #[.int .i64 rm, .slice a9 n9 c9] 28))
            simpa [Hid] using this
          have g8 := ownT_off G6.out po (fun k e => by rw [e]; exact hqb)
          have g9 := ownT_off g6 po (fun k e => by rw [e]; omega)
          have CS := hide' (sameTexts gv gv2 _ _ wA (holds_ownT g8) (holds_ownT g9) (by have := HGL.out; omega) (by have := HGL.out; omega))
          rw [show decide (putG rm l ⟨key, ov, sz⟩ = putG rm l ⟨key, ov, sz⟩) = true by simp] at CS
          have T8' := hide' (tbq_sub T8 (q' := [qr]) (fun k hk => by rw [List.mem_singleton.1 hk]; simp))
          obtain ⟨x0, x1, xf0, xf1⟩ : w6.cell? ⟨qr, 0, none⟩ = some (.int .i64 rm) ∧ w6.cell? ⟨qr, 1, none⟩ = some (.slice ra rn rc) ∧ w6.frozen? ⟨qr, 0, none⟩ = false ∧ w6.frozen? ⟨qr, 1, none⟩ = false := ⟨(R6.out.1 0 (by simp)).1, (R6.out.1 1 (by simp)).1, (R6.out.1 0 (by simp)).2, (R6.out.1 1 (by simp)).2⟩
          have hql6 := R6.out.2
          clear CF t6 g6 b6 hwA po T8 g8 g9 hqm2 f1 f2 f3 q0 q1
          go_wp2_with fail
          rw [← HW9.out]
          refine CS.out.mono ?_
          rintro e w10 ⟨rfl, n10, ew⟩
          have b10 : Below wA.heap.size wA w10 := by rw [ew]; exact below_drewN _ _
          have T10 := hide' (tbq_below T8'.out b10)
          have R10 := hide' (cells_below R8.out b10)
          clear ew b10 CS T8' R8 x0 x1 xf0 xf1 hql6 HW9
          go_wp2_with fail
          have T9 := T10
          have R9 := R10
          clear T10 R10
          generalize w10 = w9 at *
          have HOK9 := hide' (tbq_ok T9.out)
          have HL9 := hide' (tbq_len T9.out)
          have hu0 := used_pos HOK9.out.pos
          have hu1 := HOK9.out.fit
          have hu2 := HOK9.out.rm
          obtain ⟨y0, y1⟩ : w9.cell? ⟨qr, 0, none⟩ = some (.int .i64 rm) ∧ w9.cell? ⟨qr, 1, none⟩ = some (.slice a9 n9 c9) := ⟨(R9.out.1 0 (by simp)).1, (R9.out.1 1 (by simp)).1⟩
          have hqw := R9.out.2
          have KEEP : Hid (∀ W', Below w9.heap.size w9 W' → W'.cell? ⟨qr, 0, none⟩ = some (.int .i64 rm) ∧ W'.cell? ⟨qr, 1, none⟩ = some (.slice a9 n9 c9)) := fun W' hb => ⟨((cells_below R9.out hb).1 0 (by simp)).1, ((cells_below R9.out hb).1 1 (by simp)).1⟩
          have CU : Hid (∀ W, Below w9.heap.size w9 W → Calls Try.prog 21 #[.pointer (some ⟨g, 0, none⟩)] W fun e W' => e = .returned (.int .i64 (usedT l2)) ∧ Hid (Below w9.heap.size w9 W') ∧ W'.cell? ⟨qr, 0, none⟩ = some (.int .i64 rm) ∧ W'.cell? ⟨qr, 1, none⟩ = some (.slice a9 n9 c9)) := fun W hW => by
            refine (usedQ (tbq_below T9.out hW)).mono ?_
            rintro e W' ⟨rfl, rfl⟩
            exact ⟨rfl, hW, KEEP.out _ hW⟩
          have CV : Hid (∀ W, Below w9.heap.size w9 W → Calls Try.prog 22 #[.agg #[.int .i64 rm, .slice a9 n9 c9]] W fun e W' => e = .returned (.int .i64 (usedT l2)) ∧ Hid (Below w9.heap.size w9 W') ∧ W'.cell? ⟨qr, 0, none⟩ = some (.int .i64 rm) ∧ W'.cell? ⟨qr, 1, none⟩ = some (.slice a9 n9 c9)) := fun W hW => by
            refine (usedRefC rm (.slice a9 n9 c9) l2 W (tbq_holds (tbq_below T9.out hW)) HOK9.out.pos (by omega) (by have := HL9.out; omega)).mono ?_
            rintro e W' ⟨rfl, hb⟩
            have hb2 := hW.trans (hb.mono hW.size)
            exact ⟨rfl, hb2, KEEP.out _ hb2⟩
          have CK : Hid (∀ W, Below w9.heap.size w9 W → Calls Try.prog 23 #[.pointer (some ⟨g, 0, none⟩)] W fun e W' => ∃ kv, e = .returned kv ∧ Hid (OwnS W kv (keysT l2) W' ∧ Below w9.heap.size w9 W') ∧ W'.cell? ⟨qr, 0, none⟩ = some (.int .i64 rm) ∧ W'.cell? ⟨qr, 1, none⟩ = some (.slice a9 n9 c9)) := fun W hW => by
            refine (keysQ (tbq_below T9.out hW) (by omega)).mono ?_
            rintro e W' ⟨kv, rfl, ho⟩
            have hb := hW.trans (ho.2.mono hW.size)
            exact ⟨kv, rfl, ⟨ho, hb⟩, KEEP.out _ hb⟩
          have CF9 : Hid (∀ W, Below w9.heap.size w9 W → Calls Try.prog 24 #[.agg #[.int .i64 rm, .slice a9 n9 c9]] W fun e W' => ∃ kv, e = .returned kv ∧ Hid (OwnS W kv (keysT l2) W' ∧ Below w9.heap.size w9 W') ∧ W'.cell? ⟨qr, 0, none⟩ = some (.int .i64 rm) ∧ W'.cell? ⟨qr, 1, none⟩ = some (.slice a9 n9 c9)) := fun W hW => by
            refine (keysRefC rm (.slice a9 n9 c9) l2 W (tbq_holds (tbq_below T9.out hW)) (by have := HL9.out; omega)).mono ?_
            rintro e W' ⟨kv, rfl, ho⟩
            have hb := hW.trans (ho.2.mono hW.size)
            exact ⟨kv, rfl, ⟨ho, hb⟩, KEEP.out _ hb⟩
          have CS9 : Hid (∀ W0 W1 k1 k2 W, OwnS W0 k1 (keysT l2) W1 → Below W1.heap.size W1 W → OwnS W1 k2 (keysT l2) W → Below w9.heap.size w9 W → Calls Try.prog 15 #[k1, k2] W fun e W' => e = .returned (.bool true) ∧ Hid (Below w9.heap.size w9 W') ∧ W'.cell? ⟨qr, 0, none⟩ = some (.int .i64 rm) ∧ W'.cell? ⟨qr, 1, none⟩ = some (.slice a9 n9 c9)) := fun W0 W1 k1 k2 W h1 h2 h3 h4 => by
            refine (sameTexts k1 k2 (keysT l2) (keysT l2) W (holds_mono (holds_own h1) h2) (holds_own h3) (by rw [keys_len]; have := HL9.out; omega) (by rw [keys_len]; have := HL9.out; omega)).mono ?_
            rintro e W' ⟨rfl, m, ew⟩
            have hb : Below w9.heap.size w9 W' := by rw [ew]; exact below_drawn h4 m
            exact ⟨by simp, hb, KEEP.out _ hb⟩
          generalize usedT l2 = u9 at *
          clear hu1 hu2
          go_region_held3 (fun w' => w'.cell? ⟨qr, 0, none⟩ = some (.int .i64 rm) ∧ w'.cell? ⟨qr, 1, none⟩ = some (.slice a9 n9 c9)) (go_keep)
            (first
              | (go_at_call 21; refine (CU.out _ ?_).mono ?_; (first | exact (Below.refl _ _).drew | exact Below.refl _ _); rintro e v1 ⟨rfl, V1, v10, v11⟩)
              | (go_at_call 22; refine (CV.out _ V1.out).mono ?_; rintro e v2 ⟨rfl, V2, v20, v21⟩)
              | (go_at_call 23; refine (CK.out _ V2.out).mono ?_; rintro e v3 ⟨k3, rfl, V3, v30, v31⟩)
              | (go_at_call 24; refine (CF9.out _ V3.out.2).mono ?_; rintro e v4 ⟨k4, rfl, V4, v40, v41⟩)
              | (go_at_call 15; refine (CS9.out _ _ _ _ _ V3.out.1 V4.out.1.2 V4.out.1 V4.out.2).mono ?_; rintro e v5 ⟨rfl, V5, v50, v51⟩))
          have T10 := hide' (tbq_below T9.out V5.out)
          have R10 := hide' (cells_below R9.out V5.out)
          go_wp2_with fail
          go_roundw
          case rel => exact ⟨i + 1, l2, a9, n9, c9, by omega, by go_num, T10, R10⟩
          case measure => simp [intOf]; omega
        · clear CP CK0 CD
          go_wp2_with fail
          refine CG.out.mono ?_
          rintro e w9 ⟨rfl, t9, k5, z5⟩
          have R9 := hide' (keepQ_blk R4.out k5 (by simp) z5)
          have T9 : Hid (TbQ w g rm l (i + 1) [qr] (.slice ra rn rc) l w9) := tbq_sub (tbq_more t9 (Nat.le_succ i)) (fun k hk => by rw [List.mem_singleton.1 hk]; simp)
          clear CG t9 k5 z5 d0 d1 d2 d3 r0 r1
          go_wp2_with fail
          have HOK9 := hide' (tbq_ok T9.out)
          have HL9 := hide' (tbq_len T9.out)
          have hu0 := used_pos HOK9.out.pos
          have hu1 := HOK9.out.fit
          have hu2 := HOK9.out.rm
          obtain ⟨y0, y1⟩ : w9.cell? ⟨qr, 0, none⟩ = some (.int .i64 rm) ∧ w9.cell? ⟨qr, 1, none⟩ = some (.slice ra rn rc) := ⟨(R9.out.1 0 (by simp)).1, (R9.out.1 1 (by simp)).1⟩
          have hqw := R9.out.2
          have KEEP : Hid (∀ W', Below w9.heap.size w9 W' → W'.cell? ⟨qr, 0, none⟩ = some (.int .i64 rm) ∧ W'.cell? ⟨qr, 1, none⟩ = some (.slice ra rn rc)) := fun W' hb => ⟨((cells_below R9.out hb).1 0 (by simp)).1, ((cells_below R9.out hb).1 1 (by simp)).1⟩
          have CU : Hid (∀ W, Below w9.heap.size w9 W → Calls Try.prog 21 #[.pointer (some ⟨g, 0, none⟩)] W fun e W' => e = .returned (.int .i64 (usedT l)) ∧ Hid (Below w9.heap.size w9 W') ∧ W'.cell? ⟨qr, 0, none⟩ = some (.int .i64 rm) ∧ W'.cell? ⟨qr, 1, none⟩ = some (.slice ra rn rc)) := fun W hW => by
            refine (usedQ (tbq_below T9.out hW)).mono ?_
            rintro e W' ⟨rfl, rfl⟩
            exact ⟨rfl, hW, KEEP.out _ hW⟩
          have CV : Hid (∀ W, Below w9.heap.size w9 W → Calls Try.prog 22 #[.agg #[.int .i64 rm, .slice ra rn rc]] W fun e W' => e = .returned (.int .i64 (usedT l)) ∧ Hid (Below w9.heap.size w9 W') ∧ W'.cell? ⟨qr, 0, none⟩ = some (.int .i64 rm) ∧ W'.cell? ⟨qr, 1, none⟩ = some (.slice ra rn rc)) := fun W hW => by
            refine (usedRefC rm (.slice ra rn rc) l W (tbq_holds (tbq_below T9.out hW)) HOK9.out.pos (by omega) (by have := HL9.out; omega)).mono ?_
            rintro e W' ⟨rfl, hb⟩
            have hb2 := hW.trans (hb.mono hW.size)
            exact ⟨rfl, hb2, KEEP.out _ hb2⟩
          have CK : Hid (∀ W, Below w9.heap.size w9 W → Calls Try.prog 23 #[.pointer (some ⟨g, 0, none⟩)] W fun e W' => ∃ kv, e = .returned kv ∧ Hid (OwnS W kv (keysT l) W' ∧ Below w9.heap.size w9 W') ∧ W'.cell? ⟨qr, 0, none⟩ = some (.int .i64 rm) ∧ W'.cell? ⟨qr, 1, none⟩ = some (.slice ra rn rc)) := fun W hW => by
            refine (keysQ (tbq_below T9.out hW) (by omega)).mono ?_
            rintro e W' ⟨kv, rfl, ho⟩
            have hb := hW.trans (ho.2.mono hW.size)
            exact ⟨kv, rfl, ⟨ho, hb⟩, KEEP.out _ hb⟩
          have CF9 : Hid (∀ W, Below w9.heap.size w9 W → Calls Try.prog 24 #[.agg #[.int .i64 rm, .slice ra rn rc]] W fun e W' => ∃ kv, e = .returned kv ∧ Hid (OwnS W kv (keysT l) W' ∧ Below w9.heap.size w9 W') ∧ W'.cell? ⟨qr, 0, none⟩ = some (.int .i64 rm) ∧ W'.cell? ⟨qr, 1, none⟩ = some (.slice ra rn rc)) := fun W hW => by
            refine (keysRefC rm (.slice ra rn rc) l W (tbq_holds (tbq_below T9.out hW)) (by have := HL9.out; omega)).mono ?_
            rintro e W' ⟨kv, rfl, ho⟩
            have hb := hW.trans (ho.2.mono hW.size)
            exact ⟨kv, rfl, ⟨ho, hb⟩, KEEP.out _ hb⟩
          have CS9 : Hid (∀ W0 W1 k1 k2 W, OwnS W0 k1 (keysT l) W1 → Below W1.heap.size W1 W → OwnS W1 k2 (keysT l) W → Below w9.heap.size w9 W → Calls Try.prog 15 #[k1, k2] W fun e W' => e = .returned (.bool true) ∧ Hid (Below w9.heap.size w9 W') ∧ W'.cell? ⟨qr, 0, none⟩ = some (.int .i64 rm) ∧ W'.cell? ⟨qr, 1, none⟩ = some (.slice ra rn rc)) := fun W0 W1 k1 k2 W h1 h2 h3 h4 => by
            refine (sameTexts k1 k2 (keysT l) (keysT l) W (holds_mono (holds_own h1) h2) (holds_own h3) (by rw [keys_len]; have := HL9.out; omega) (by rw [keys_len]; have := HL9.out; omega)).mono ?_
            rintro e W' ⟨rfl, m, ew⟩
            have hb : Below w9.heap.size w9 W' := by rw [ew]; exact below_drawn h4 m
            exact ⟨by simp, hb, KEEP.out _ hb⟩
          generalize usedT l = u9 at *
          clear hu1 hu2
          go_region_held3 (fun w' => w'.cell? ⟨qr, 0, none⟩ = some (.int .i64 rm) ∧ w'.cell? ⟨qr, 1, none⟩ = some (.slice ra rn rc)) (go_keep)
            (first
              | (go_at_call 21; refine (CU.out _ ?_).mono ?_; (first | exact (Below.refl _ _).drew | exact Below.refl _ _); rintro e v1 ⟨rfl, V1, v10, v11⟩)
              | (go_at_call 22; refine (CV.out _ V1.out).mono ?_; rintro e v2 ⟨rfl, V2, v20, v21⟩)
              | (go_at_call 23; refine (CK.out _ V2.out).mono ?_; rintro e v3 ⟨k3, rfl, V3, v30, v31⟩)
              | (go_at_call 24; refine (CF9.out _ V3.out.2).mono ?_; rintro e v4 ⟨k4, rfl, V4, v40, v41⟩)
              | (go_at_call 15; refine (CS9.out _ _ _ _ _ V3.out.1 V4.out.1.2 V4.out.1 V4.out.2).mono ?_; rintro e v5 ⟨rfl, V5, v50, v51⟩))
          have T10 := hide' (tbq_below T9.out V5.out)
          have R10 := hide' (cells_below R9.out V5.out)
          go_wp2_with fail
          go_roundw
          case rel => exact ⟨i + 1, l, ra, rn, rc, by omega, by go_num, T10, R10⟩
          case measure => simp [intOf]; omega
        · clear CP CG CD
          go_wp2_with fail
          refine CK0.out.mono ?_
          rintro e w5 ⟨rfl, ew⟩
          rw [ew]
          clear ew w5
          have t9 := T4'.out
          have R9 := R4
          generalize w4 = w9 at *
          have T9 : Hid (TbQ w g rm l (i + 1) [qr] (.slice ra rn rc) l w9) := tbq_sub (tbq_more t9 (Nat.le_succ i)) (fun k hk => by rw [List.mem_singleton.1 hk]; simp)
          clear CK0 t9 d0 d1 d2 d3 r0 r1
          go_wp2_with fail
          have HOK9 := hide' (tbq_ok T9.out)
          have HL9 := hide' (tbq_len T9.out)
          have hu0 := used_pos HOK9.out.pos
          have hu1 := HOK9.out.fit
          have hu2 := HOK9.out.rm
          obtain ⟨y0, y1⟩ : w9.cell? ⟨qr, 0, none⟩ = some (.int .i64 rm) ∧ w9.cell? ⟨qr, 1, none⟩ = some (.slice ra rn rc) := ⟨(R9.out.1 0 (by simp)).1, (R9.out.1 1 (by simp)).1⟩
          have hqw := R9.out.2
          have KEEP : Hid (∀ W', Below w9.heap.size w9 W' → W'.cell? ⟨qr, 0, none⟩ = some (.int .i64 rm) ∧ W'.cell? ⟨qr, 1, none⟩ = some (.slice ra rn rc)) := fun W' hb => ⟨((cells_below R9.out hb).1 0 (by simp)).1, ((cells_below R9.out hb).1 1 (by simp)).1⟩
          have CU : Hid (∀ W, Below w9.heap.size w9 W → Calls Try.prog 21 #[.pointer (some ⟨g, 0, none⟩)] W fun e W' => e = .returned (.int .i64 (usedT l)) ∧ Hid (Below w9.heap.size w9 W') ∧ W'.cell? ⟨qr, 0, none⟩ = some (.int .i64 rm) ∧ W'.cell? ⟨qr, 1, none⟩ = some (.slice ra rn rc)) := fun W hW => by
            refine (usedQ (tbq_below T9.out hW)).mono ?_
            rintro e W' ⟨rfl, rfl⟩
            exact ⟨rfl, hW, KEEP.out _ hW⟩
          have CV : Hid (∀ W, Below w9.heap.size w9 W → Calls Try.prog 22 #[.agg #[.int .i64 rm, .slice ra rn rc]] W fun e W' => e = .returned (.int .i64 (usedT l)) ∧ Hid (Below w9.heap.size w9 W') ∧ W'.cell? ⟨qr, 0, none⟩ = some (.int .i64 rm) ∧ W'.cell? ⟨qr, 1, none⟩ = some (.slice ra rn rc)) := fun W hW => by
            refine (usedRefC rm (.slice ra rn rc) l W (tbq_holds (tbq_below T9.out hW)) HOK9.out.pos (by omega) (by have := HL9.out; omega)).mono ?_
            rintro e W' ⟨rfl, hb⟩
            have hb2 := hW.trans (hb.mono hW.size)
            exact ⟨rfl, hb2, KEEP.out _ hb2⟩
          have CK : Hid (∀ W, Below w9.heap.size w9 W → Calls Try.prog 23 #[.pointer (some ⟨g, 0, none⟩)] W fun e W' => ∃ kv, e = .returned kv ∧ Hid (OwnS W kv (keysT l) W' ∧ Below w9.heap.size w9 W') ∧ W'.cell? ⟨qr, 0, none⟩ = some (.int .i64 rm) ∧ W'.cell? ⟨qr, 1, none⟩ = some (.slice ra rn rc)) := fun W hW => by
            refine (keysQ (tbq_below T9.out hW) (by omega)).mono ?_
            rintro e W' ⟨kv, rfl, ho⟩
            have hb := hW.trans (ho.2.mono hW.size)
            exact ⟨kv, rfl, ⟨ho, hb⟩, KEEP.out _ hb⟩
          have CF9 : Hid (∀ W, Below w9.heap.size w9 W → Calls Try.prog 24 #[.agg #[.int .i64 rm, .slice ra rn rc]] W fun e W' => ∃ kv, e = .returned kv ∧ Hid (OwnS W kv (keysT l) W' ∧ Below w9.heap.size w9 W') ∧ W'.cell? ⟨qr, 0, none⟩ = some (.int .i64 rm) ∧ W'.cell? ⟨qr, 1, none⟩ = some (.slice ra rn rc)) := fun W hW => by
            refine (keysRefC rm (.slice ra rn rc) l W (tbq_holds (tbq_below T9.out hW)) (by have := HL9.out; omega)).mono ?_
            rintro e W' ⟨kv, rfl, ho⟩
            have hb := hW.trans (ho.2.mono hW.size)
            exact ⟨kv, rfl, ⟨ho, hb⟩, KEEP.out _ hb⟩
          have CS9 : Hid (∀ W0 W1 k1 k2 W, OwnS W0 k1 (keysT l) W1 → Below W1.heap.size W1 W → OwnS W1 k2 (keysT l) W → Below w9.heap.size w9 W → Calls Try.prog 15 #[k1, k2] W fun e W' => e = .returned (.bool true) ∧ Hid (Below w9.heap.size w9 W') ∧ W'.cell? ⟨qr, 0, none⟩ = some (.int .i64 rm) ∧ W'.cell? ⟨qr, 1, none⟩ = some (.slice ra rn rc)) := fun W0 W1 k1 k2 W h1 h2 h3 h4 => by
            refine (sameTexts k1 k2 (keysT l) (keysT l) W (holds_mono (holds_own h1) h2) (holds_own h3) (by rw [keys_len]; have := HL9.out; omega) (by rw [keys_len]; have := HL9.out; omega)).mono ?_
            rintro e W' ⟨rfl, m, ew⟩
            have hb : Below w9.heap.size w9 W' := by rw [ew]; exact below_drawn h4 m
            exact ⟨by simp, hb, KEEP.out _ hb⟩
          generalize usedT l = u9 at *
          clear hu1 hu2
          go_region_held3 (fun w' => w'.cell? ⟨qr, 0, none⟩ = some (.int .i64 rm) ∧ w'.cell? ⟨qr, 1, none⟩ = some (.slice ra rn rc)) (go_keep)
            (first
              | (go_at_call 21; refine (CU.out _ ?_).mono ?_; (first | exact (Below.refl _ _).drew | exact Below.refl _ _); rintro e v1 ⟨rfl, V1, v10, v11⟩)
              | (go_at_call 22; refine (CV.out _ V1.out).mono ?_; rintro e v2 ⟨rfl, V2, v20, v21⟩)
              | (go_at_call 23; refine (CK.out _ V2.out).mono ?_; rintro e v3 ⟨k3, rfl, V3, v30, v31⟩)
              | (go_at_call 24; refine (CF9.out _ V3.out.2).mono ?_; rintro e v4 ⟨k4, rfl, V4, v40, v41⟩)
              | (go_at_call 15; refine (CS9.out _ _ _ _ _ V3.out.1 V4.out.1.2 V4.out.1 V4.out.2).mono ?_; rintro e v5 ⟨rfl, V5, v50, v51⟩))
          have T10 := hide' (tbq_below T9.out V5.out)
          have R10 := hide' (cells_below R9.out V5.out)
          go_wp2_with fail
          go_roundw
          case rel => exact ⟨i + 1, l, ra, rn, rc, by omega, by go_num, T10, R10⟩
          case measure => simp [intOf]; omega
        · clear CP CG CK0
          go_wp2_with fail
          refine CD.out.mono ?_
          rintro e w5 ⟨rfl, t5, k5, z5⟩
          have K5 := hide' (keepQ_blk K4'.out k5 (by simp) z5)
          have R5 := hide' (keepQ_blk R4.out k5 (by simp) z5)
          have f1 : w5.cell? ⟨bo, 1, none⟩ = some (.string kb) := (K5.out.1 1 (by simp)).1
          obtain ⟨q0, q1⟩ : w5.cell? ⟨qr, 0, none⟩ = some (.int .i64 rm) ∧ w5.cell? ⟨qr, 1, none⟩ = some (.slice ra rn rc) := ⟨(R5.out.1 0 (by simp)).1, (R5.out.1 1 (by simp)).1⟩
          have CF := hide' (refWithoutQ (tbq_more t5 (Nat.le_succ i)) key (by have := HLEN.out; omega))
          rw [← HKB.out] at CF
          obtain ⟨l2, hl2⟩ : ∃ l2, l2 = withT l key := ⟨_, rfl⟩
          rw [← hl2] at CF
          clear CD t5 k5 z5 hl2 d0 d1 d2 d3 r0 r1
          go_wp2_with fail
          refine CF.out.mono ?_
          rintro e w6 ⟨a9, n9, c9, rfl, t6, b6⟩
          have R6 := hide' (cells_below R5.out b6)
          obtain ⟨w9, hw9⟩ : ∃ w9, w9 = (w6.setCell ⟨qr, 0, none⟩ (.int .i64 rm)).setCell ⟨qr, 1, none⟩ (.slice a9 n9 c9) := ⟨_, rfl⟩
          have HW9 := hide' hw9
          have T9 : Hid (TbQ w g rm l2 (i + 1) [qr] (.slice a9 n9 c9) l2 w9) := by
            rw [hw9]; exact tbq_sub (tbq_poke (tbq_poke t6 hqm.out) hqm.out) (fun k hk => by rw [List.mem_singleton.1 hk]; simp)
          have R9 : Hid (Blk qr w9 [.int .i64 rm, .slice a9 n9 c9]) := by
            rw [hw9]
            have := cells_set (cells_set R6.out (j := 0) (by simp) (.int .i64 rm)) (j := 1) (by simp) (.slice a9 n9 c9)
            simpa [Hid] using this
          obtain ⟨x0, x1, xf0, xf1⟩ : w6.cell? ⟨qr, 0, none⟩ = some (.int .i64 rm) ∧ w6.cell? ⟨qr, 1, none⟩ = some (.slice ra rn rc) ∧ w6.frozen? ⟨qr, 0, none⟩ = false ∧ w6.frozen? ⟨qr, 1, none⟩ = false := ⟨(R6.out.1 0 (by simp)).1, (R6.out.1 1 (by simp)).1, (R6.out.1 0 (by simp)).2, (R6.out.1 1 (by simp)).2⟩
          clear CF t6 b6 hw9 f1 q0 q1
          go_wp2_with fail
          rw [← HW9.out]
          clear x0 x1 xf0 xf1 HW9
          have HOK9 := hide' (tbq_ok T9.out)
          have HL9 := hide' (tbq_len T9.out)
          have hu0 := used_pos HOK9.out.pos
          have hu1 := HOK9.out.fit
          have hu2 := HOK9.out.rm
          obtain ⟨y0, y1⟩ : w9.cell? ⟨qr, 0, none⟩ = some (.int .i64 rm) ∧ w9.cell? ⟨qr, 1, none⟩ = some (.slice a9 n9 c9) := ⟨(R9.out.1 0 (by simp)).1, (R9.out.1 1 (by simp)).1⟩
          have hqw := R9.out.2
          have KEEP : Hid (∀ W', Below w9.heap.size w9 W' → W'.cell? ⟨qr, 0, none⟩ = some (.int .i64 rm) ∧ W'.cell? ⟨qr, 1, none⟩ = some (.slice a9 n9 c9)) := fun W' hb => ⟨((cells_below R9.out hb).1 0 (by simp)).1, ((cells_below R9.out hb).1 1 (by simp)).1⟩
          have CU : Hid (∀ W, Below w9.heap.size w9 W → Calls Try.prog 21 #[.pointer (some ⟨g, 0, none⟩)] W fun e W' => e = .returned (.int .i64 (usedT l2)) ∧ Hid (Below w9.heap.size w9 W') ∧ W'.cell? ⟨qr, 0, none⟩ = some (.int .i64 rm) ∧ W'.cell? ⟨qr, 1, none⟩ = some (.slice a9 n9 c9)) := fun W hW => by
            refine (usedQ (tbq_below T9.out hW)).mono ?_
            rintro e W' ⟨rfl, rfl⟩
            exact ⟨rfl, hW, KEEP.out _ hW⟩
          have CV : Hid (∀ W, Below w9.heap.size w9 W → Calls Try.prog 22 #[.agg #[.int .i64 rm, .slice a9 n9 c9]] W fun e W' => e = .returned (.int .i64 (usedT l2)) ∧ Hid (Below w9.heap.size w9 W') ∧ W'.cell? ⟨qr, 0, none⟩ = some (.int .i64 rm) ∧ W'.cell? ⟨qr, 1, none⟩ = some (.slice a9 n9 c9)) := fun W hW => by
            refine (usedRefC rm (.slice a9 n9 c9) l2 W (tbq_holds (tbq_below T9.out hW)) HOK9.out.pos (by omega) (by have := HL9.out; omega)).mono ?_
            rintro e W' ⟨rfl, hb⟩
            have hb2 := hW.trans (hb.mono hW.size)
            exact ⟨rfl, hb2, KEEP.out _ hb2⟩
          have CK : Hid (∀ W, Below w9.heap.size w9 W → Calls Try.prog 23 #[.pointer (some ⟨g, 0, none⟩)] W fun e W' => ∃ kv, e = .returned kv ∧ Hid (OwnS W kv (keysT l2) W' ∧ Below w9.heap.size w9 W') ∧ W'.cell? ⟨qr, 0, none⟩ = some (.int .i64 rm) ∧ W'.cell? ⟨qr, 1, none⟩ = some (.slice a9 n9 c9)) := fun W hW => by
            refine (keysQ (tbq_below T9.out hW) (by omega)).mono ?_
            rintro e W' ⟨kv, rfl, ho⟩
            have hb := hW.trans (ho.2.mono hW.size)
            exact ⟨kv, rfl, ⟨ho, hb⟩, KEEP.out _ hb⟩
          have CF9 : Hid (∀ W, Below w9.heap.size w9 W → Calls Try.prog 24 #[.agg #[.int .i64 rm, .slice a9 n9 c9]] W fun e W' => ∃ kv, e = .returned kv ∧ Hid (OwnS W kv (keysT l2) W' ∧ Below w9.heap.size w9 W') ∧ W'.cell? ⟨qr, 0, none⟩ = some (.int .i64 rm) ∧ W'.cell? ⟨qr, 1, none⟩ = some (.slice a9 n9 c9)) := fun W hW => by
            refine (keysRefC rm (.slice a9 n9 c9) l2 W (tbq_holds (tbq_below T9.out hW)) (by have := HL9.out; omega)).mono ?_
            rintro e W' ⟨kv, rfl, ho⟩
            have hb := hW.trans (ho.2.mono hW.size)
            exact ⟨kv, rfl, ⟨ho, hb⟩, KEEP.out _ hb⟩
          have CS9 : Hid (∀ W0 W1 k1 k2 W, OwnS W0 k1 (keysT l2) W1 → Below W1.heap.size W1 W → OwnS W1 k2 (keysT l2) W → Below w9.heap.size w9 W → Calls Try.prog 15 #[k1, k2] W fun e W' => e = .returned (.bool true) ∧ Hid (Below w9.heap.size w9 W') ∧ W'.cell? ⟨qr, 0, none⟩ = some (.int .i64 rm) ∧ W'.cell? ⟨qr, 1, none⟩ = some (.slice a9 n9 c9)) := fun W0 W1 k1 k2 W h1 h2 h3 h4 => by
            refine (sameTexts k1 k2 (keysT l2) (keysT l2) W (holds_mono (holds_own h1) h2) (holds_own h3) (by rw [keys_len]; have := HL9.out; omega) (by rw [keys_len]; have := HL9.out; omega)).mono ?_
            rintro e W' ⟨rfl, m, ew⟩
            have hb : Below w9.heap.size w9 W' := by rw [ew]; exact below_drawn h4 m
            exact ⟨by simp, hb, KEEP.out _ hb⟩
          generalize usedT l2 = u9 at *
          clear hu1 hu2
          go_region_held3 (fun w' => w'.cell? ⟨qr, 0, none⟩ = some (.int .i64 rm) ∧ w'.cell? ⟨qr, 1, none⟩ = some (.slice a9 n9 c9)) (go_keep)
            (first
              | (go_at_call 21; refine (CU.out _ ?_).mono ?_; (first | exact (Below.refl _ _).drew | exact Below.refl _ _); rintro e v1 ⟨rfl, V1, v10, v11⟩)
              | (go_at_call 22; refine (CV.out _ V1.out).mono ?_; rintro e v2 ⟨rfl, V2, v20, v21⟩)
              | (go_at_call 23; refine (CK.out _ V2.out).mono ?_; rintro e v3 ⟨k3, rfl, V3, v30, v31⟩)
              | (go_at_call 24; refine (CF9.out _ V3.out.2).mono ?_; rintro e v4 ⟨k4, rfl, V4, v40, v41⟩)
              | (go_at_call 15; refine (CS9.out _ _ _ _ _ V3.out.1 V4.out.1.2 V4.out.1 V4.out.2).mono ?_; rintro e v5 ⟨rfl, V5, v50, v51⟩))
          have T10 := hide' (tbq_below T9.out V5.out)
          have R10 := hide' (cells_below R9.out V5.out)
          go_wp2_with fail
          go_roundw
          case rel => exact ⟨i + 1, l2, a9, n9, c9, by omega, by go_num, T10, R10⟩
          case measure => simp [intOf]; omega
        · have n1 : (wt == 1) = false := by simpa using m1
          have n2 : (wt == 2) = false := by simpa using m2
          have n3 : (wt == 3) = false := by simpa using m3
          have n4 : (wt == 4) = false := by simpa using m4
          have t9 := T4'.out
          have R9 := R4
          clear CP CG CD CK0 m1 m2 m3 m4
          generalize w4 = w9 at *
          have T9 : Hid (TbQ w g rm l (i + 1) [qr] (.slice ra rn rc) l w9) := tbq_sub (tbq_more t9 (Nat.le_succ i)) (fun k hk => by rw [List.mem_singleton.1 hk]; simp)
          clear t9 d1 d2 d3
          go_wp2_with fail
          clear d0 r0 r1
          have HOK9 := hide' (tbq_ok T9.out)
          have HL9 := hide' (tbq_len T9.out)
          have hu0 := used_pos HOK9.out.pos
          have hu1 := HOK9.out.fit
          have hu2 := HOK9.out.rm
          obtain ⟨y0, y1⟩ : w9.cell? ⟨qr, 0, none⟩ = some (.int .i64 rm) ∧ w9.cell? ⟨qr, 1, none⟩ = some (.slice ra rn rc) := ⟨(R9.out.1 0 (by simp)).1, (R9.out.1 1 (by simp)).1⟩
          have hqw := R9.out.2
          have KEEP : Hid (∀ W', Below w9.heap.size w9 W' → W'.cell? ⟨qr, 0, none⟩ = some (.int .i64 rm) ∧ W'.cell? ⟨qr, 1, none⟩ = some (.slice ra rn rc)) := fun W' hb => ⟨((cells_below R9.out hb).1 0 (by simp)).1, ((cells_below R9.out hb).1 1 (by simp)).1⟩
          have CU : Hid (∀ W, Below w9.heap.size w9 W → Calls Try.prog 21 #[.pointer (some ⟨g, 0, none⟩)] W fun e W' => e = .returned (.int .i64 (usedT l)) ∧ Hid (Below w9.heap.size w9 W') ∧ W'.cell? ⟨qr, 0, none⟩ = some (.int .i64 rm) ∧ W'.cell? ⟨qr, 1, none⟩ = some (.slice ra rn rc)) := fun W hW => by
            refine (usedQ (tbq_below T9.out hW)).mono ?_
            rintro e W' ⟨rfl, rfl⟩
            exact ⟨rfl, hW, KEEP.out _ hW⟩
          have CV : Hid (∀ W, Below w9.heap.size w9 W → Calls Try.prog 22 #[.agg #[.int .i64 rm, .slice ra rn rc]] W fun e W' => e = .returned (.int .i64 (usedT l)) ∧ Hid (Below w9.heap.size w9 W') ∧ W'.cell? ⟨qr, 0, none⟩ = some (.int .i64 rm) ∧ W'.cell? ⟨qr, 1, none⟩ = some (.slice ra rn rc)) := fun W hW => by
            refine (usedRefC rm (.slice ra rn rc) l W (tbq_holds (tbq_below T9.out hW)) HOK9.out.pos (by omega) (by have := HL9.out; omega)).mono ?_
            rintro e W' ⟨rfl, hb⟩
            have hb2 := hW.trans (hb.mono hW.size)
            exact ⟨rfl, hb2, KEEP.out _ hb2⟩
          have CK : Hid (∀ W, Below w9.heap.size w9 W → Calls Try.prog 23 #[.pointer (some ⟨g, 0, none⟩)] W fun e W' => ∃ kv, e = .returned kv ∧ Hid (OwnS W kv (keysT l) W' ∧ Below w9.heap.size w9 W') ∧ W'.cell? ⟨qr, 0, none⟩ = some (.int .i64 rm) ∧ W'.cell? ⟨qr, 1, none⟩ = some (.slice ra rn rc)) := fun W hW => by
            refine (keysQ (tbq_below T9.out hW) (by omega)).mono ?_
            rintro e W' ⟨kv, rfl, ho⟩
            have hb := hW.trans (ho.2.mono hW.size)
            exact ⟨kv, rfl, ⟨ho, hb⟩, KEEP.out _ hb⟩
          have CF9 : Hid (∀ W, Below w9.heap.size w9 W → Calls Try.prog 24 #[.agg #[.int .i64 rm, .slice ra rn rc]] W fun e W' => ∃ kv, e = .returned kv ∧ Hid (OwnS W kv (keysT l) W' ∧ Below w9.heap.size w9 W') ∧ W'.cell? ⟨qr, 0, none⟩ = some (.int .i64 rm) ∧ W'.cell? ⟨qr, 1, none⟩ = some (.slice ra rn rc)) := fun W hW => by
            refine (keysRefC rm (.slice ra rn rc) l W (tbq_holds (tbq_below T9.out hW)) (by have := HL9.out; omega)).mono ?_
            rintro e W' ⟨kv, rfl, ho⟩
            have hb := hW.trans (ho.2.mono hW.size)
            exact ⟨kv, rfl, ⟨ho, hb⟩, KEEP.out _ hb⟩
          have CS9 : Hid (∀ W0 W1 k1 k2 W, OwnS W0 k1 (keysT l) W1 → Below W1.heap.size W1 W → OwnS W1 k2 (keysT l) W → Below w9.heap.size w9 W → Calls Try.prog 15 #[k1, k2] W fun e W' => e = .returned (.bool true) ∧ Hid (Below w9.heap.size w9 W') ∧ W'.cell? ⟨qr, 0, none⟩ = some (.int .i64 rm) ∧ W'.cell? ⟨qr, 1, none⟩ = some (.slice ra rn rc)) := fun W0 W1 k1 k2 W h1 h2 h3 h4 => by
            refine (sameTexts k1 k2 (keysT l) (keysT l) W (holds_mono (holds_own h1) h2) (holds_own h3) (by rw [keys_len]; have := HL9.out; omega) (by rw [keys_len]; have := HL9.out; omega)).mono ?_
            rintro e W' ⟨rfl, m, ew⟩
            have hb : Below w9.heap.size w9 W' := by rw [ew]; exact below_drawn h4 m
            exact ⟨by simp, hb, KEEP.out _ hb⟩
          generalize usedT l = u9 at *
          clear hu1 hu2
          go_region_held3 (fun w' => w'.cell? ⟨qr, 0, none⟩ = some (.int .i64 rm) ∧ w'.cell? ⟨qr, 1, none⟩ = some (.slice ra rn rc)) (go_keep)
            (first
              | (go_at_call 21; refine (CU.out _ ?_).mono ?_; (first | exact (Below.refl _ _).drew | exact Below.refl _ _); rintro e v1 ⟨rfl, V1, v10, v11⟩)
              | (go_at_call 22; refine (CV.out _ V1.out).mono ?_; rintro e v2 ⟨rfl, V2, v20, v21⟩)
              | (go_at_call 23; refine (CK.out _ V2.out).mono ?_; rintro e v3 ⟨k3, rfl, V3, v30, v31⟩)
              | (go_at_call 24; refine (CF9.out _ V3.out.2).mono ?_; rintro e v4 ⟨k4, rfl, V4, v40, v41⟩)
              | (go_at_call 15; refine (CS9.out _ _ _ _ _ V3.out.1 V4.out.1.2 V4.out.1 V4.out.2).mono ?_; rintro e v5 ⟨rfl, V5, v50, v51⟩))
          have T10 := hide' (tbq_below T9.out V5.out)
          have R10 := hide' (cells_below R9.out V5.out)
          go_wp2_with fail
          go_roundw
          case rel => exact ⟨i + 1, l, ra, rn, rc, by omega, by go_num, T10, R10⟩
          case measure => simp [intOf]; omega
      | some x =>
        obtain ⟨jx, hjx, ea, exj⟩ := at_idx hf
        have HJX := hide' hjx
        have HXJ : Hid (l[jx]'HJX.out = x) := exj
        have HXK := hide' (find_some hf).2
        have ep : peekI l key = .tuple #[.int .i64 x.v, .bool true] := by unfold peekI; rw [hf]; rfl
        have eg : getT l key = x :: withT l key := by unfold getT; rw [hf]
        rw [ea]
        rw [ep, eg] at CG
        rw [ep] at CK0
        rw [hf] at CD
        obtain ⟨ia0, ic0, ei0, hati0⟩ := holdsI_at (tbq_holds T4'.out)
        obtain ⟨ib, io, ei1, hib0, -, p10, -⟩ := hati0 jx hjx
        simp only [Value.slice.injEq] at ei0
        obtain ⟨ei0a, ei0b, -⟩ := ei0
        rw [ei1] at ei0a
        subst ei0a
        rw [exj] at p10
        have hjr : jx < rn := by rw [ei0b]; exact hjx
        clear ea ep eg hf exj hjx hati0 ei1 ei0b
        rcases (show wt = 1 ∨ wt = 2 ∨ wt = 3 ∨ wt = 4 ∨ (¬ wt = 1 ∧ ¬ wt = 2 ∧ ¬ wt = 3 ∧ ¬ wt = 4) by omega) with rfl | rfl | rfl | rfl | ⟨m1, m2, m3, m4⟩
        · clear CG CK0 CD
          go_wp2_with fail
          refine CP.out.mono ?_
          rintro e w5 ⟨gv, rfl, g5, t5, k5, z5⟩
          have K5 := hide' (keepQ_blk K4'.out k5 (by simp) z5)
          have R5 := hide' (keepQ_blk R4.out k5 (by simp) z5)
          obtain ⟨f1, f2, f3⟩ : w5.cell? ⟨bo, 1, none⟩ = some (.string kb) ∧ w5.cell? ⟨bo, 2, none⟩ = some (.int .i64 ov) ∧ w5.cell? ⟨bo, 3, none⟩ = some (.int .i64 sz) := ⟨(K5.out.1 1 (by simp)).1, (K5.out.1 2 (by simp)).1, (K5.out.1 3 (by simp)).1⟩
          obtain ⟨q0, q1⟩ : w5.cell? ⟨qr, 0, none⟩ = some (.int .i64 rm) ∧ w5.cell? ⟨qr, 1, none⟩ = some (.slice (some ⟨ib, io, none⟩) rn rc) := ⟨(R5.out.1 0 (by simp)).1, (R5.out.1 1 (by simp)).1⟩
          have CF := hide' (refPutQ t5 ⟨key, ov, sz⟩ (by have := HLEN.out; omega) (tbq_ok T4'.out))
          simp only at CF
          rw [← HKB.out] at CF
          have hgl : (putG rm l ⟨key, ov, sz⟩).length ≤ 1000 := by
            unfold putG
            split
            · unfold goneT
              rw [List.length_map, List.length_reverse, List.length_drop]
              have := (with_sub l key).length_le
              have := HLEN.out
              simp only
              omega
            · simp
          have HGL := hide' hgl
          have hqb : qr < w4.heap.size := R4.out.2
          have G5 := hide' g5
          have HZ5 := z5
          have hq5 : qr < w5.heap.size := by omega
          clear HZ5
          obtain ⟨l2, hl2⟩ : ∃ l2, l2 = putT rm l ⟨key, ov, sz⟩ := ⟨_, rfl⟩
          rw [← hl2] at CF
          clear CP t5 k5 z5 g5 hgl hl2 d0 d1 d2 d3 r0 r1
          go_wp2_with fail
          refine CF.out.mono ?_
          rintro e w6 ⟨a9, n9, c9, gv2, rfl, t6, g6, b6⟩
          have R6 := hide' (cells_below R5.out b6)
          have G6 := hide' (ownT_apart (S := fun _ => False) G5.out (off_of b6) (fun _ _ e => e))
          have hqm2 : qr ∈ gv.ownBlock.toList ++ [bo, qr] := by simp
          obtain ⟨wA, hwA⟩ : ∃ wA, wA = ((w6.setCell ⟨qr, 0, none⟩ (.int .i64 rm)).setCell ⟨qr, 1, none⟩ (.slice a9 n9 c9)).alloc (.cells #[.int .i64 rm, .slice a9 n9 c9] 28) := ⟨_, rfl⟩
          have HW9 := hide' hwA
          have po : Off (fun k => k = qr) w6 wA := by
            rw [hwA]
            exact Off.trans (Off.trans (off_poke (S := fun k => k = qr) ⟨qr, 0, none⟩ rfl _) (off_poke (S := fun k => k = qr) ⟨qr, 1, none⟩ rfl _) (fun i e => .inl e)) (off_alloc (S := fun k => k = qr) _) (fun i e => .inl e)
          have T8 : TbQ w g rm l2 (i + 1) (gv.ownBlock.toList ++ [bo, qr]) (.slice a9 n9 c9) l2 wA := by
            rw [hwA]; exact tbq_below (tbq_poke (tbq_poke t6 hqm2) hqm2) (below_alloc' _ _)
          have R8 : Hid (Blk qr wA [.int .i64 rm, .slice a9 n9 c9]) := by
            rw [hwA]
            have := cells_below (cells_set (cells_set R6.out (j := 0) (by simp) (.int .i64 rm)) (j := 1) (by simp) (.slice a9 n9 c9)) (below_alloc' _ (.cells #[.int .i64 rm, .slice a9 n9 c9] 28))
            simpa [Hid] using this
          have g8 := ownT_off G6.out po (fun k e => by rw [e]; exact hqb)
          have g9 := ownT_off g6 po (fun k e => by rw [e]; omega)
          have CS := hide' (sameTexts gv gv2 _ _ wA (holds_ownT g8) (holds_ownT g9) (by have := HGL.out; omega) (by have := HGL.out; omega))
          rw [show decide (putG rm l ⟨key, ov, sz⟩ = putG rm l ⟨key, ov, sz⟩) = true by simp] at CS
          have T8' := hide' (tbq_sub T8 (q' := [qr]) (fun k hk => by rw [List.mem_singleton.1 hk]; simp))
          obtain ⟨x0, x1, xf0, xf1⟩ : w6.cell? ⟨qr, 0, none⟩ = some (.int .i64 rm) ∧ w6.cell? ⟨qr, 1, none⟩ = some (.slice (some ⟨ib, io, none⟩) rn rc) ∧ w6.frozen? ⟨qr, 0, none⟩ = false ∧ w6.frozen? ⟨qr, 1, none⟩ = false := ⟨(R6.out.1 0 (by simp)).1, (R6.out.1 1 (by simp)).1, (R6.out.1 0 (by simp)).2, (R6.out.1 1 (by simp)).2⟩
          have hql6 := R6.out.2
          clear CF t6 g6 b6 hwA po T8 g8 g9 hqm2 f1 f2 f3 q0 q1
          go_wp2_with fail
          rw [← HW9.out]
          refine CS.out.mono ?_
          rintro e w10 ⟨rfl, n10, ew⟩
          have b10 : Below wA.heap.size wA w10 := by rw [ew]; exact below_drewN _ _
          have T10 := hide' (tbq_below T8'.out b10)
          have R10 := hide' (cells_below R8.out b10)
          clear ew b10 CS T8' R8 x0 x1 xf0 xf1 hql6 HW9
          go_wp2_with fail
          have T9 := T10
          have R9 := R10
          clear T10 R10
          generalize w10 = w9 at *
          have HOK9 := hide' (tbq_ok T9.out)
          have HL9 := hide' (tbq_len T9.out)
          have hu0 := used_pos HOK9.out.pos
          have hu1 := HOK9.out.fit
          have hu2 := HOK9.out.rm
          obtain ⟨y0, y1⟩ : w9.cell? ⟨qr, 0, none⟩ = some (.int .i64 rm) ∧ w9.cell? ⟨qr, 1, none⟩ = some (.slice a9 n9 c9) := ⟨(R9.out.1 0 (by simp)).1, (R9.out.1 1 (by simp)).1⟩
          have hqw := R9.out.2
          have KEEP : Hid (∀ W', Below w9.heap.size w9 W' → W'.cell? ⟨qr, 0, none⟩ = some (.int .i64 rm) ∧ W'.cell? ⟨qr, 1, none⟩ = some (.slice a9 n9 c9)) := fun W' hb => ⟨((cells_below R9.out hb).1 0 (by simp)).1, ((cells_below R9.out hb).1 1 (by simp)).1⟩
          have CU : Hid (∀ W, Below w9.heap.size w9 W → Calls Try.prog 21 #[.pointer (some ⟨g, 0, none⟩)] W fun e W' => e = .returned (.int .i64 (usedT l2)) ∧ Hid (Below w9.heap.size w9 W') ∧ W'.cell? ⟨qr, 0, none⟩ = some (.int .i64 rm) ∧ W'.cell? ⟨qr, 1, none⟩ = some (.slice a9 n9 c9)) := fun W hW => by
            refine (usedQ (tbq_below T9.out hW)).mono ?_
            rintro e W' ⟨rfl, rfl⟩
            exact ⟨rfl, hW, KEEP.out _ hW⟩
          have CV : Hid (∀ W, Below w9.heap.size w9 W → Calls Try.prog 22 #[.agg #[.int .i64 rm, .slice a9 n9 c9]] W fun e W' => e = .returned (.int .i64 (usedT l2)) ∧ Hid (Below w9.heap.size w9 W') ∧ W'.cell? ⟨qr, 0, none⟩ = some (.int .i64 rm) ∧ W'.cell? ⟨qr, 1, none⟩ = some (.slice a9 n9 c9)) := fun W hW => by
            refine (usedRefC rm (.slice a9 n9 c9) l2 W (tbq_holds (tbq_below T9.out hW)) HOK9.out.pos (by omega) (by have := HL9.out; omega)).mono ?_
            rintro e W' ⟨rfl, hb⟩
            have hb2 := hW.trans (hb.mono hW.size)
            exact ⟨rfl, hb2, KEEP.out _ hb2⟩
          have CK : Hid (∀ W, Below w9.heap.size w9 W → Calls Try.prog 23 #[.pointer (some ⟨g, 0, none⟩)] W fun e W' => ∃ kv, e = .returned kv ∧ Hid (OwnS W kv (keysT l2) W' ∧ Below w9.heap.size w9 W') ∧ W'.cell? ⟨qr, 0, none⟩ = some (.int .i64 rm) ∧ W'.cell? ⟨qr, 1, none⟩ = some (.slice a9 n9 c9)) := fun W hW => by
            refine (keysQ (tbq_below T9.out hW) (by omega)).mono ?_
            rintro e W' ⟨kv, rfl, ho⟩
            have hb := hW.trans (ho.2.mono hW.size)
            exact ⟨kv, rfl, ⟨ho, hb⟩, KEEP.out _ hb⟩
          have CF9 : Hid (∀ W, Below w9.heap.size w9 W → Calls Try.prog 24 #[.agg #[.int .i64 rm, .slice a9 n9 c9]] W fun e W' => ∃ kv, e = .returned kv ∧ Hid (OwnS W kv (keysT l2) W' ∧ Below w9.heap.size w9 W') ∧ W'.cell? ⟨qr, 0, none⟩ = some (.int .i64 rm) ∧ W'.cell? ⟨qr, 1, none⟩ = some (.slice a9 n9 c9)) := fun W hW => by
            refine (keysRefC rm (.slice a9 n9 c9) l2 W (tbq_holds (tbq_below T9.out hW)) (by have := HL9.out; omega)).mono ?_
            rintro e W' ⟨kv, rfl, ho⟩
            have hb := hW.trans (ho.2.mono hW.size)
            exact ⟨kv, rfl, ⟨ho, hb⟩, KEEP.out _ hb⟩
          have CS9 : Hid (∀ W0 W1 k1 k2 W, OwnS W0 k1 (keysT l2) W1 → Below W1.heap.size W1 W → OwnS W1 k2 (keysT l2) W → Below w9.heap.size w9 W → Calls Try.prog 15 #[k1, k2] W fun e W' => e = .returned (.bool true) ∧ Hid (Below w9.heap.size w9 W') ∧ W'.cell? ⟨qr, 0, none⟩ = some (.int .i64 rm) ∧ W'.cell? ⟨qr, 1, none⟩ = some (.slice a9 n9 c9)) := fun W0 W1 k1 k2 W h1 h2 h3 h4 => by
            refine (sameTexts k1 k2 (keysT l2) (keysT l2) W (holds_mono (holds_own h1) h2) (holds_own h3) (by rw [keys_len]; have := HL9.out; omega) (by rw [keys_len]; have := HL9.out; omega)).mono ?_
            rintro e W' ⟨rfl, m, ew⟩
            have hb : Below w9.heap.size w9 W' := by rw [ew]; exact below_drawn h4 m
            exact ⟨by simp, hb, KEEP.out _ hb⟩
          generalize usedT l2 = u9 at *
          clear hu1 hu2
          go_region_held3 (fun w' => w'.cell? ⟨qr, 0, none⟩ = some (.int .i64 rm) ∧ w'.cell? ⟨qr, 1, none⟩ = some (.slice a9 n9 c9)) (go_keep)
            (first
              | (go_at_call 21; refine (CU.out _ ?_).mono ?_; (first | exact (Below.refl _ _).drew | exact Below.refl _ _); rintro e v1 ⟨rfl, V1, v10, v11⟩)
              | (go_at_call 22; refine (CV.out _ V1.out).mono ?_; rintro e v2 ⟨rfl, V2, v20, v21⟩)
              | (go_at_call 23; refine (CK.out _ V2.out).mono ?_; rintro e v3 ⟨k3, rfl, V3, v30, v31⟩)
              | (go_at_call 24; refine (CF9.out _ V3.out.2).mono ?_; rintro e v4 ⟨k4, rfl, V4, v40, v41⟩)
              | (go_at_call 15; refine (CS9.out _ _ _ _ _ V3.out.1 V4.out.1.2 V4.out.1 V4.out.2).mono ?_; rintro e v5 ⟨rfl, V5, v50, v51⟩))
          have T10 := hide' (tbq_below T9.out V5.out)
          have R10 := hide' (cells_below R9.out V5.out)
          go_wp2_with fail
          go_roundw
          case rel => exact ⟨i + 1, l2, a9, n9, c9, by omega, by go_num, T10, R10⟩
          case measure => simp [intOf]; omega
        · clear CP CK0 CD
          go_wp2_with fail
          refine CG.out.mono ?_
          rintro e w5 ⟨rfl, t5, k5, z5⟩
          have K5 := hide' (keepQ_blk K4'.out k5 (by simp) z5)
          have R5 := hide' (keepQ_blk R4.out k5 (by simp) z5)
          obtain ⟨q0, q1⟩ : w5.cell? ⟨qr, 0, none⟩ = some (.int .i64 rm) ∧ w5.cell? ⟨qr, 1, none⟩ = some (.slice (some ⟨ib, io, none⟩) rn rc) := ⟨(R5.out.1 0 (by simp)).1, (R5.out.1 1 (by simp)).1⟩
          obtain ⟨qf0, qf1⟩ : w5.frozen? ⟨qr, 0, none⟩ = false ∧ w5.frozen? ⟨qr, 1, none⟩ = false := ⟨(R5.out.1 0 (by simp)).2, (R5.out.1 1 (by simp)).2⟩
          obtain ⟨ia, ic, ei, hati⟩ := holdsI_at (tbq_holds t5)
          obtain ⟨ib', io', ei2, hib, p0, p1, p2⟩ := hati jx HJX.out
          simp only [Value.slice.injEq] at ei
          rw [ei2] at ei
          obtain ⟨ei3, -, -⟩ := ei
          cases ei3
          rw [HXJ.out] at p0 p1 p2
          unfold S at p0
          obtain ⟨xb, hxb⟩ : ∃ xb : ByteArray, xb = ⟨x.key.toArray⟩ := ⟨_, rfl⟩
          have CF : Hid (∀ W, Below w5.heap.size w5 W → Calls Try.prog 17 #[.agg #[.int .i64 rm, .slice (some ⟨ib, io, none⟩) rn rc], .agg #[.string xb, .int .i64 x.v, .int .i64 x.size]] W fun e W' => ∃ a n cc, e = .returned (.agg #[.int .i64 rm, .slice a n cc]) ∧ Hid (TbQ w g rm (x :: withT l key) (i + 1) [bo, qr] (.slice a n cc) (x :: withT l key) W' ∧ Blk qr W' [.int .i64 rm, .slice (some ⟨ib, io, none⟩) rn rc]) ∧ W'.cell? ⟨qr, 0, none⟩ = some (.int .i64 rm) ∧ W'.cell? ⟨qr, 1, none⟩ = some (.slice (some ⟨ib, io, none⟩) rn rc) ∧ W'.frozen? ⟨qr, 0, none⟩ = false ∧ W'.frozen? ⟨qr, 1, none⟩ = false) := fun W hW => by
            rw [hxb]
            refine (refFirstQ (tbq_below (tbq_more t5 (Nat.le_succ i)) hW) x (by have := HLEN.out; omega)).mono ?_
            rintro e W' ⟨a, n, cc, rfl, t6, b6⟩
            rw [HXK.out] at t6
            have hk := cells_below (cells_below R5.out hW) b6
            exact ⟨a, n, cc, rfl, ⟨t6, hk⟩, (hk.1 0 (by simp)).1, (hk.1 1 (by simp)).1, (hk.1 0 (by simp)).2, (hk.1 1 (by simp)).2⟩
          rw [← hxb] at p0
          obtain ⟨l2, hl2⟩ : ∃ l2, l2 = x :: withT l key := ⟨_, rfl⟩
          rw [← hl2] at CF
          have hqw5 := R5.out.2
          clear CG t5 k5 z5 hati ei2 hxb hl2 d0 d1 d2 d3 r0 r1
          go_wp2_with fail
          go_region_with (first
            | (go_at_call 17; refine (CF.out _ ?_).mono ?_; (first | exact (Below.refl _ _).drew | exact Below.refl _ _); rintro e w6 ⟨a9, n9, c9, rfl, H6, z0, z1, zf0, zf1⟩))
          all_goals
            have t6 := H6.out.1
            have R6 := hide' H6.out.2
            obtain ⟨w9, hw9⟩ : ∃ w9, w9 = (w6.setCell ⟨qr, 0, none⟩ (.int .i64 rm)).setCell ⟨qr, 1, none⟩ (.slice a9 n9 c9) := ⟨_, rfl⟩
            have HW9 := hide' hw9
            have T9 : Hid (TbQ w g rm l2 (i + 1) [qr] (.slice a9 n9 c9) l2 w9) := by
              rw [hw9]; exact tbq_sub (tbq_poke (tbq_poke t6 hqm.out) hqm.out) (fun k hk => by rw [List.mem_singleton.1 hk]; simp)
            have R9 : Hid (Blk qr w9 [.int .i64 rm, .slice a9 n9 c9]) := by
              rw [hw9]
              have := cells_set (cells_set R6.out (j := 0) (by simp) (.int .i64 rm)) (j := 1) (by simp) (.slice a9 n9 c9)
              simpa [Hid] using this
            obtain ⟨x0, x1, xf0, xf1⟩ : w6.cell? ⟨qr, 0, none⟩ = some (.int .i64 rm) ∧ w6.cell? ⟨qr, 1, none⟩ = some (.slice (some ⟨ib, io, none⟩) rn rc) ∧ w6.frozen? ⟨qr, 0, none⟩ = false ∧ w6.frozen? ⟨qr, 1, none⟩ = false := ⟨(R6.out.1 0 (by simp)).1, (R6.out.1 1 (by simp)).1, (R6.out.1 0 (by simp)).2, (R6.out.1 1 (by simp)).2⟩
            clear t6 hw9
            go_wp2_with fail
            rw [← HW9.out]
            clear x0 x1 xf0 xf1 HW9
            have HOK9 := hide' (tbq_ok T9.out)
            have HL9 := hide' (tbq_len T9.out)
            have hu0 := used_pos HOK9.out.pos
            have hu1 := HOK9.out.fit
            have hu2 := HOK9.out.rm
            obtain ⟨y0, y1⟩ : w9.cell? ⟨qr, 0, none⟩ = some (.int .i64 rm) ∧ w9.cell? ⟨qr, 1, none⟩ = some (.slice a9 n9 c9) := ⟨(R9.out.1 0 (by simp)).1, (R9.out.1 1 (by simp)).1⟩
            have hqw := R9.out.2
            have KEEP : Hid (∀ W', Below w9.heap.size w9 W' → W'.cell? ⟨qr, 0, none⟩ = some (.int .i64 rm) ∧ W'.cell? ⟨qr, 1, none⟩ = some (.slice a9 n9 c9)) := fun W' hb => ⟨((cells_below R9.out hb).1 0 (by simp)).1, ((cells_below R9.out hb).1 1 (by simp)).1⟩
            have CU : Hid (∀ W, Below w9.heap.size w9 W → Calls Try.prog 21 #[.pointer (some ⟨g, 0, none⟩)] W fun e W' => e = .returned (.int .i64 (usedT l2)) ∧ Hid (Below w9.heap.size w9 W') ∧ W'.cell? ⟨qr, 0, none⟩ = some (.int .i64 rm) ∧ W'.cell? ⟨qr, 1, none⟩ = some (.slice a9 n9 c9)) := fun W hW => by
              refine (usedQ (tbq_below T9.out hW)).mono ?_
              rintro e W' ⟨rfl, rfl⟩
              exact ⟨rfl, hW, KEEP.out _ hW⟩
            have CV : Hid (∀ W, Below w9.heap.size w9 W → Calls Try.prog 22 #[.agg #[.int .i64 rm, .slice a9 n9 c9]] W fun e W' => e = .returned (.int .i64 (usedT l2)) ∧ Hid (Below w9.heap.size w9 W') ∧ W'.cell? ⟨qr, 0, none⟩ = some (.int .i64 rm) ∧ W'.cell? ⟨qr, 1, none⟩ = some (.slice a9 n9 c9)) := fun W hW => by
              refine (usedRefC rm (.slice a9 n9 c9) l2 W (tbq_holds (tbq_below T9.out hW)) HOK9.out.pos (by omega) (by have := HL9.out; omega)).mono ?_
              rintro e W' ⟨rfl, hb⟩
              have hb2 := hW.trans (hb.mono hW.size)
              exact ⟨rfl, hb2, KEEP.out _ hb2⟩
            have CK : Hid (∀ W, Below w9.heap.size w9 W → Calls Try.prog 23 #[.pointer (some ⟨g, 0, none⟩)] W fun e W' => ∃ kv, e = .returned kv ∧ Hid (OwnS W kv (keysT l2) W' ∧ Below w9.heap.size w9 W') ∧ W'.cell? ⟨qr, 0, none⟩ = some (.int .i64 rm) ∧ W'.cell? ⟨qr, 1, none⟩ = some (.slice a9 n9 c9)) := fun W hW => by
              refine (keysQ (tbq_below T9.out hW) (by omega)).mono ?_
              rintro e W' ⟨kv, rfl, ho⟩
              have hb := hW.trans (ho.2.mono hW.size)
              exact ⟨kv, rfl, ⟨ho, hb⟩, KEEP.out _ hb⟩
            have CF9 : Hid (∀ W, Below w9.heap.size w9 W → Calls Try.prog 24 #[.agg #[.int .i64 rm, .slice a9 n9 c9]] W fun e W' => ∃ kv, e = .returned kv ∧ Hid (OwnS W kv (keysT l2) W' ∧ Below w9.heap.size w9 W') ∧ W'.cell? ⟨qr, 0, none⟩ = some (.int .i64 rm) ∧ W'.cell? ⟨qr, 1, none⟩ = some (.slice a9 n9 c9)) := fun W hW => by
              refine (keysRefC rm (.slice a9 n9 c9) l2 W (tbq_holds (tbq_below T9.out hW)) (by have := HL9.out; omega)).mono ?_
              rintro e W' ⟨kv, rfl, ho⟩
              have hb := hW.trans (ho.2.mono hW.size)
              exact ⟨kv, rfl, ⟨ho, hb⟩, KEEP.out _ hb⟩
            have CS9 : Hid (∀ W0 W1 k1 k2 W, OwnS W0 k1 (keysT l2) W1 → Below W1.heap.size W1 W → OwnS W1 k2 (keysT l2) W → Below w9.heap.size w9 W → Calls Try.prog 15 #[k1, k2] W fun e W' => e = .returned (.bool true) ∧ Hid (Below w9.heap.size w9 W') ∧ W'.cell? ⟨qr, 0, none⟩ = some (.int .i64 rm) ∧ W'.cell? ⟨qr, 1, none⟩ = some (.slice a9 n9 c9)) := fun W0 W1 k1 k2 W h1 h2 h3 h4 => by
              refine (sameTexts k1 k2 (keysT l2) (keysT l2) W (holds_mono (holds_own h1) h2) (holds_own h3) (by rw [keys_len]; have := HL9.out; omega) (by rw [keys_len]; have := HL9.out; omega)).mono ?_
              rintro e W' ⟨rfl, m, ew⟩
              have hb : Below w9.heap.size w9 W' := by rw [ew]; exact below_drawn h4 m
              exact ⟨by simp, hb, KEEP.out _ hb⟩
            generalize usedT l2 = u9 at *
            clear hu1 hu2
            go_region_held3 (fun w' => w'.cell? ⟨qr, 0, none⟩ = some (.int .i64 rm) ∧ w'.cell? ⟨qr, 1, none⟩ = some (.slice a9 n9 c9)) (go_keep)
              (first
                | (go_at_call 21; refine (CU.out _ ?_).mono ?_; (first | exact (Below.refl _ _).drew | exact Below.refl _ _); rintro e v1 ⟨rfl, V1, v10, v11⟩)
                | (go_at_call 22; refine (CV.out _ V1.out).mono ?_; rintro e v2 ⟨rfl, V2, v20, v21⟩)
                | (go_at_call 23; refine (CK.out _ V2.out).mono ?_; rintro e v3 ⟨k3, rfl, V3, v30, v31⟩)
                | (go_at_call 24; refine (CF9.out _ V3.out.2).mono ?_; rintro e v4 ⟨k4, rfl, V4, v40, v41⟩)
                | (go_at_call 15; refine (CS9.out _ _ _ _ _ V3.out.1 V4.out.1.2 V4.out.1 V4.out.2).mono ?_; rintro e v5 ⟨rfl, V5, v50, v51⟩))
            have T10 := hide' (tbq_below T9.out V5.out)
            have R10 := hide' (cells_below R9.out V5.out)
            go_wp2_with fail
            go_roundw
            case rel => exact ⟨i + 1, l2, a9, n9, c9, by omega, by go_num, T10, R10⟩
            case measure => simp [intOf]; omega
        · clear CP CG CD
          go_wp2_with fail
          refine CK0.out.mono ?_
          rintro e w5 ⟨rfl, ew⟩
          rw [ew]
          clear ew w5
          have t9 := T4'.out
          have R9 := R4
          generalize w4 = w9 at *
          have T9 : Hid (TbQ w g rm l (i + 1) [qr] (.slice (some ⟨ib, io, none⟩) rn rc) l w9) := tbq_sub (tbq_more t9 (Nat.le_succ i)) (fun k hk => by rw [List.mem_singleton.1 hk]; simp)
          clear CK0 t9 d0 d1 d2 d3 r0 r1
          go_wp2_with fail
          have HOK9 := hide' (tbq_ok T9.out)
          have HL9 := hide' (tbq_len T9.out)
          have hu0 := used_pos HOK9.out.pos
          have hu1 := HOK9.out.fit
          have hu2 := HOK9.out.rm
          obtain ⟨y0, y1⟩ : w9.cell? ⟨qr, 0, none⟩ = some (.int .i64 rm) ∧ w9.cell? ⟨qr, 1, none⟩ = some (.slice (some ⟨ib, io, none⟩) rn rc) := ⟨(R9.out.1 0 (by simp)).1, (R9.out.1 1 (by simp)).1⟩
          have hqw := R9.out.2
          have KEEP : Hid (∀ W', Below w9.heap.size w9 W' → W'.cell? ⟨qr, 0, none⟩ = some (.int .i64 rm) ∧ W'.cell? ⟨qr, 1, none⟩ = some (.slice (some ⟨ib, io, none⟩) rn rc)) := fun W' hb => ⟨((cells_below R9.out hb).1 0 (by simp)).1, ((cells_below R9.out hb).1 1 (by simp)).1⟩
          have CU : Hid (∀ W, Below w9.heap.size w9 W → Calls Try.prog 21 #[.pointer (some ⟨g, 0, none⟩)] W fun e W' => e = .returned (.int .i64 (usedT l)) ∧ Hid (Below w9.heap.size w9 W') ∧ W'.cell? ⟨qr, 0, none⟩ = some (.int .i64 rm) ∧ W'.cell? ⟨qr, 1, none⟩ = some (.slice (some ⟨ib, io, none⟩) rn rc)) := fun W hW => by
            refine (usedQ (tbq_below T9.out hW)).mono ?_
            rintro e W' ⟨rfl, rfl⟩
            exact ⟨rfl, hW, KEEP.out _ hW⟩
          have CV : Hid (∀ W, Below w9.heap.size w9 W → Calls Try.prog 22 #[.agg #[.int .i64 rm, .slice (some ⟨ib, io, none⟩) rn rc]] W fun e W' => e = .returned (.int .i64 (usedT l)) ∧ Hid (Below w9.heap.size w9 W') ∧ W'.cell? ⟨qr, 0, none⟩ = some (.int .i64 rm) ∧ W'.cell? ⟨qr, 1, none⟩ = some (.slice (some ⟨ib, io, none⟩) rn rc)) := fun W hW => by
            refine (usedRefC rm (.slice (some ⟨ib, io, none⟩) rn rc) l W (tbq_holds (tbq_below T9.out hW)) HOK9.out.pos (by omega) (by have := HL9.out; omega)).mono ?_
            rintro e W' ⟨rfl, hb⟩
            have hb2 := hW.trans (hb.mono hW.size)
            exact ⟨rfl, hb2, KEEP.out _ hb2⟩
          have CK : Hid (∀ W, Below w9.heap.size w9 W → Calls Try.prog 23 #[.pointer (some ⟨g, 0, none⟩)] W fun e W' => ∃ kv, e = .returned kv ∧ Hid (OwnS W kv (keysT l) W' ∧ Below w9.heap.size w9 W') ∧ W'.cell? ⟨qr, 0, none⟩ = some (.int .i64 rm) ∧ W'.cell? ⟨qr, 1, none⟩ = some (.slice (some ⟨ib, io, none⟩) rn rc)) := fun W hW => by
            refine (keysQ (tbq_below T9.out hW) (by omega)).mono ?_
            rintro e W' ⟨kv, rfl, ho⟩
            have hb := hW.trans (ho.2.mono hW.size)
            exact ⟨kv, rfl, ⟨ho, hb⟩, KEEP.out _ hb⟩
          have CF9 : Hid (∀ W, Below w9.heap.size w9 W → Calls Try.prog 24 #[.agg #[.int .i64 rm, .slice (some ⟨ib, io, none⟩) rn rc]] W fun e W' => ∃ kv, e = .returned kv ∧ Hid (OwnS W kv (keysT l) W' ∧ Below w9.heap.size w9 W') ∧ W'.cell? ⟨qr, 0, none⟩ = some (.int .i64 rm) ∧ W'.cell? ⟨qr, 1, none⟩ = some (.slice (some ⟨ib, io, none⟩) rn rc)) := fun W hW => by
            refine (keysRefC rm (.slice (some ⟨ib, io, none⟩) rn rc) l W (tbq_holds (tbq_below T9.out hW)) (by have := HL9.out; omega)).mono ?_
            rintro e W' ⟨kv, rfl, ho⟩
            have hb := hW.trans (ho.2.mono hW.size)
            exact ⟨kv, rfl, ⟨ho, hb⟩, KEEP.out _ hb⟩
          have CS9 : Hid (∀ W0 W1 k1 k2 W, OwnS W0 k1 (keysT l) W1 → Below W1.heap.size W1 W → OwnS W1 k2 (keysT l) W → Below w9.heap.size w9 W → Calls Try.prog 15 #[k1, k2] W fun e W' => e = .returned (.bool true) ∧ Hid (Below w9.heap.size w9 W') ∧ W'.cell? ⟨qr, 0, none⟩ = some (.int .i64 rm) ∧ W'.cell? ⟨qr, 1, none⟩ = some (.slice (some ⟨ib, io, none⟩) rn rc)) := fun W0 W1 k1 k2 W h1 h2 h3 h4 => by
            refine (sameTexts k1 k2 (keysT l) (keysT l) W (holds_mono (holds_own h1) h2) (holds_own h3) (by rw [keys_len]; have := HL9.out; omega) (by rw [keys_len]; have := HL9.out; omega)).mono ?_
            rintro e W' ⟨rfl, m, ew⟩
            have hb : Below w9.heap.size w9 W' := by rw [ew]; exact below_drawn h4 m
            exact ⟨by simp, hb, KEEP.out _ hb⟩
          generalize usedT l = u9 at *
          clear hu1 hu2
          go_region_held3 (fun w' => w'.cell? ⟨qr, 0, none⟩ = some (.int .i64 rm) ∧ w'.cell? ⟨qr, 1, none⟩ = some (.slice (some ⟨ib, io, none⟩) rn rc)) (go_keep)
            (first
              | (go_at_call 21; refine (CU.out _ ?_).mono ?_; (first | exact (Below.refl _ _).drew | exact Below.refl _ _); rintro e v1 ⟨rfl, V1, v10, v11⟩)
              | (go_at_call 22; refine (CV.out _ V1.out).mono ?_; rintro e v2 ⟨rfl, V2, v20, v21⟩)
              | (go_at_call 23; refine (CK.out _ V2.out).mono ?_; rintro e v3 ⟨k3, rfl, V3, v30, v31⟩)
              | (go_at_call 24; refine (CF9.out _ V3.out.2).mono ?_; rintro e v4 ⟨k4, rfl, V4, v40, v41⟩)
              | (go_at_call 15; refine (CS9.out _ _ _ _ _ V3.out.1 V4.out.1.2 V4.out.1 V4.out.2).mono ?_; rintro e v5 ⟨rfl, V5, v50, v51⟩))
          have T10 := hide' (tbq_below T9.out V5.out)
          have R10 := hide' (cells_below R9.out V5.out)
          go_wp2_with fail
          go_roundw
          case rel => exact ⟨i + 1, l, some ⟨ib, io, none⟩, rn, rc, by omega, by go_num, T10, R10⟩
          case measure => simp [intOf]; omega
        · clear CP CG CK0
          go_wp2_with fail
          refine CD.out.mono ?_
          rintro e w5 ⟨rfl, t5, k5, z5⟩
          have K5 := hide' (keepQ_blk K4'.out k5 (by simp) z5)
          have R5 := hide' (keepQ_blk R4.out k5 (by simp) z5)
          have f1 : w5.cell? ⟨bo, 1, none⟩ = some (.string kb) := (K5.out.1 1 (by simp)).1
          obtain ⟨q0, q1⟩ : w5.cell? ⟨qr, 0, none⟩ = some (.int .i64 rm) ∧ w5.cell? ⟨qr, 1, none⟩ = some (.slice (some ⟨ib, io, none⟩) rn rc) := ⟨(R5.out.1 0 (by simp)).1, (R5.out.1 1 (by simp)).1⟩
          have CF := hide' (refWithoutQ (tbq_more t5 (Nat.le_succ i)) key (by have := HLEN.out; omega))
          rw [← HKB.out] at CF
          obtain ⟨l2, hl2⟩ : ∃ l2, l2 = withT l key := ⟨_, rfl⟩
          rw [← hl2] at CF
          clear CD t5 k5 z5 hl2 d0 d1 d2 d3 r0 r1
          go_wp2_with fail
          refine CF.out.mono ?_
          rintro e w6 ⟨a9, n9, c9, rfl, t6, b6⟩
          have R6 := hide' (cells_below R5.out b6)
          obtain ⟨w9, hw9⟩ : ∃ w9, w9 = (w6.setCell ⟨qr, 0, none⟩ (.int .i64 rm)).setCell ⟨qr, 1, none⟩ (.slice a9 n9 c9) := ⟨_, rfl⟩
          have HW9 := hide' hw9
          have T9 : Hid (TbQ w g rm l2 (i + 1) [qr] (.slice a9 n9 c9) l2 w9) := by
            rw [hw9]; exact tbq_sub (tbq_poke (tbq_poke t6 hqm.out) hqm.out) (fun k hk => by rw [List.mem_singleton.1 hk]; simp)
          have R9 : Hid (Blk qr w9 [.int .i64 rm, .slice a9 n9 c9]) := by
            rw [hw9]
            have := cells_set (cells_set R6.out (j := 0) (by simp) (.int .i64 rm)) (j := 1) (by simp) (.slice a9 n9 c9)
            simpa [Hid] using this
          obtain ⟨x0, x1, xf0, xf1⟩ : w6.cell? ⟨qr, 0, none⟩ = some (.int .i64 rm) ∧ w6.cell? ⟨qr, 1, none⟩ = some (.slice (some ⟨ib, io, none⟩) rn rc) ∧ w6.frozen? ⟨qr, 0, none⟩ = false ∧ w6.frozen? ⟨qr, 1, none⟩ = false := ⟨(R6.out.1 0 (by simp)).1, (R6.out.1 1 (by simp)).1, (R6.out.1 0 (by simp)).2, (R6.out.1 1 (by simp)).2⟩
          clear CF t6 b6 hw9 f1 q0 q1
          go_wp2_with fail
          rw [← HW9.out]
          clear x0 x1 xf0 xf1 HW9
          have HOK9 := hide' (tbq_ok T9.out)
          have HL9 := hide' (tbq_len T9.out)
          have hu0 := used_pos HOK9.out.pos
          have hu1 := HOK9.out.fit
          have hu2 := HOK9.out.rm
          obtain ⟨y0, y1⟩ : w9.cell? ⟨qr, 0, none⟩ = some (.int .i64 rm) ∧ w9.cell? ⟨qr, 1, none⟩ = some (.slice a9 n9 c9) := ⟨(R9.out.1 0 (by simp)).1, (R9.out.1 1 (by simp)).1⟩
          have hqw := R9.out.2
          have KEEP : Hid (∀ W', Below w9.heap.size w9 W' → W'.cell? ⟨qr, 0, none⟩ = some (.int .i64 rm) ∧ W'.cell? ⟨qr, 1, none⟩ = some (.slice a9 n9 c9)) := fun W' hb => ⟨((cells_below R9.out hb).1 0 (by simp)).1, ((cells_below R9.out hb).1 1 (by simp)).1⟩
          have CU : Hid (∀ W, Below w9.heap.size w9 W → Calls Try.prog 21 #[.pointer (some ⟨g, 0, none⟩)] W fun e W' => e = .returned (.int .i64 (usedT l2)) ∧ Hid (Below w9.heap.size w9 W') ∧ W'.cell? ⟨qr, 0, none⟩ = some (.int .i64 rm) ∧ W'.cell? ⟨qr, 1, none⟩ = some (.slice a9 n9 c9)) := fun W hW => by
            refine (usedQ (tbq_below T9.out hW)).mono ?_
            rintro e W' ⟨rfl, rfl⟩
            exact ⟨rfl, hW, KEEP.out _ hW⟩
          have CV : Hid (∀ W, Below w9.heap.size w9 W → Calls Try.prog 22 #[.agg #[.int .i64 rm, .slice a9 n9 c9]] W fun e W' => e = .returned (.int .i64 (usedT l2)) ∧ Hid (Below w9.heap.size w9 W') ∧ W'.cell? ⟨qr, 0, none⟩ = some (.int .i64 rm) ∧ W'.cell? ⟨qr, 1, none⟩ = some (.slice a9 n9 c9)) := fun W hW => by
            refine (usedRefC rm (.slice a9 n9 c9) l2 W (tbq_holds (tbq_below T9.out hW)) HOK9.out.pos (by omega) (by have := HL9.out; omega)).mono ?_
            rintro e W' ⟨rfl, hb⟩
            have hb2 := hW.trans (hb.mono hW.size)
            exact ⟨rfl, hb2, KEEP.out _ hb2⟩
          have CK : Hid (∀ W, Below w9.heap.size w9 W → Calls Try.prog 23 #[.pointer (some ⟨g, 0, none⟩)] W fun e W' => ∃ kv, e = .returned kv ∧ Hid (OwnS W kv (keysT l2) W' ∧ Below w9.heap.size w9 W') ∧ W'.cell? ⟨qr, 0, none⟩ = some (.int .i64 rm) ∧ W'.cell? ⟨qr, 1, none⟩ = some (.slice a9 n9 c9)) := fun W hW => by
            refine (keysQ (tbq_below T9.out hW) (by omega)).mono ?_
            rintro e W' ⟨kv, rfl, ho⟩
            have hb := hW.trans (ho.2.mono hW.size)
            exact ⟨kv, rfl, ⟨ho, hb⟩, KEEP.out _ hb⟩
          have CF9 : Hid (∀ W, Below w9.heap.size w9 W → Calls Try.prog 24 #[.agg #[.int .i64 rm, .slice a9 n9 c9]] W fun e W' => ∃ kv, e = .returned kv ∧ Hid (OwnS W kv (keysT l2) W' ∧ Below w9.heap.size w9 W') ∧ W'.cell? ⟨qr, 0, none⟩ = some (.int .i64 rm) ∧ W'.cell? ⟨qr, 1, none⟩ = some (.slice a9 n9 c9)) := fun W hW => by
            refine (keysRefC rm (.slice a9 n9 c9) l2 W (tbq_holds (tbq_below T9.out hW)) (by have := HL9.out; omega)).mono ?_
            rintro e W' ⟨kv, rfl, ho⟩
            have hb := hW.trans (ho.2.mono hW.size)
            exact ⟨kv, rfl, ⟨ho, hb⟩, KEEP.out _ hb⟩
          have CS9 : Hid (∀ W0 W1 k1 k2 W, OwnS W0 k1 (keysT l2) W1 → Below W1.heap.size W1 W → OwnS W1 k2 (keysT l2) W → Below w9.heap.size w9 W → Calls Try.prog 15 #[k1, k2] W fun e W' => e = .returned (.bool true) ∧ Hid (Below w9.heap.size w9 W') ∧ W'.cell? ⟨qr, 0, none⟩ = some (.int .i64 rm) ∧ W'.cell? ⟨qr, 1, none⟩ = some (.slice a9 n9 c9)) := fun W0 W1 k1 k2 W h1 h2 h3 h4 => by
            refine (sameTexts k1 k2 (keysT l2) (keysT l2) W (holds_mono (holds_own h1) h2) (holds_own h3) (by rw [keys_len]; have := HL9.out; omega) (by rw [keys_len]; have := HL9.out; omega)).mono ?_
            rintro e W' ⟨rfl, m, ew⟩
            have hb : Below w9.heap.size w9 W' := by rw [ew]; exact below_drawn h4 m
            exact ⟨by simp, hb, KEEP.out _ hb⟩
          generalize usedT l2 = u9 at *
          clear hu1 hu2
          go_region_held3 (fun w' => w'.cell? ⟨qr, 0, none⟩ = some (.int .i64 rm) ∧ w'.cell? ⟨qr, 1, none⟩ = some (.slice a9 n9 c9)) (go_keep)
            (first
              | (go_at_call 21; refine (CU.out _ ?_).mono ?_; (first | exact (Below.refl _ _).drew | exact Below.refl _ _); rintro e v1 ⟨rfl, V1, v10, v11⟩)
              | (go_at_call 22; refine (CV.out _ V1.out).mono ?_; rintro e v2 ⟨rfl, V2, v20, v21⟩)
              | (go_at_call 23; refine (CK.out _ V2.out).mono ?_; rintro e v3 ⟨k3, rfl, V3, v30, v31⟩)
              | (go_at_call 24; refine (CF9.out _ V3.out.2).mono ?_; rintro e v4 ⟨k4, rfl, V4, v40, v41⟩)
              | (go_at_call 15; refine (CS9.out _ _ _ _ _ V3.out.1 V4.out.1.2 V4.out.1 V4.out.2).mono ?_; rintro e v5 ⟨rfl, V5, v50, v51⟩))
          have T10 := hide' (tbq_below T9.out V5.out)
          have R10 := hide' (cells_below R9.out V5.out)
          go_wp2_with fail
          go_roundw
          case rel => exact ⟨i + 1, l2, a9, n9, c9, by omega, by go_num, T10, R10⟩
          case measure => simp [intOf]; omega
        · have n1 : (wt == 1) = false := by simpa using m1
          have n2 : (wt == 2) = false := by simpa using m2
          have n3 : (wt == 3) = false := by simpa using m3
          have n4 : (wt == 4) = false := by simpa using m4
          have t9 := T4'.out
          have R9 := R4
          clear CP CG CD CK0 m1 m2 m3 m4
          generalize w4 = w9 at *
          have T9 : Hid (TbQ w g rm l (i + 1) [qr] (.slice (some ⟨ib, io, none⟩) rn rc) l w9) := tbq_sub (tbq_more t9 (Nat.le_succ i)) (fun k hk => by rw [List.mem_singleton.1 hk]; simp)
          clear t9 d1 d2 d3
          go_wp2_with fail
          clear d0 r0 r1
          have HOK9 := hide' (tbq_ok T9.out)
          have HL9 := hide' (tbq_len T9.out)
          have hu0 := used_pos HOK9.out.pos
          have hu1 := HOK9.out.fit
          have hu2 := HOK9.out.rm
          obtain ⟨y0, y1⟩ : w9.cell? ⟨qr, 0, none⟩ = some (.int .i64 rm) ∧ w9.cell? ⟨qr, 1, none⟩ = some (.slice (some ⟨ib, io, none⟩) rn rc) := ⟨(R9.out.1 0 (by simp)).1, (R9.out.1 1 (by simp)).1⟩
          have hqw := R9.out.2
          have KEEP : Hid (∀ W', Below w9.heap.size w9 W' → W'.cell? ⟨qr, 0, none⟩ = some (.int .i64 rm) ∧ W'.cell? ⟨qr, 1, none⟩ = some (.slice (some ⟨ib, io, none⟩) rn rc)) := fun W' hb => ⟨((cells_below R9.out hb).1 0 (by simp)).1, ((cells_below R9.out hb).1 1 (by simp)).1⟩
          have CU : Hid (∀ W, Below w9.heap.size w9 W → Calls Try.prog 21 #[.pointer (some ⟨g, 0, none⟩)] W fun e W' => e = .returned (.int .i64 (usedT l)) ∧ Hid (Below w9.heap.size w9 W') ∧ W'.cell? ⟨qr, 0, none⟩ = some (.int .i64 rm) ∧ W'.cell? ⟨qr, 1, none⟩ = some (.slice (some ⟨ib, io, none⟩) rn rc)) := fun W hW => by
            refine (usedQ (tbq_below T9.out hW)).mono ?_
            rintro e W' ⟨rfl, rfl⟩
            exact ⟨rfl, hW, KEEP.out _ hW⟩
          have CV : Hid (∀ W, Below w9.heap.size w9 W → Calls Try.prog 22 #[.agg #[.int .i64 rm, .slice (some ⟨ib, io, none⟩) rn rc]] W fun e W' => e = .returned (.int .i64 (usedT l)) ∧ Hid (Below w9.heap.size w9 W') ∧ W'.cell? ⟨qr, 0, none⟩ = some (.int .i64 rm) ∧ W'.cell? ⟨qr, 1, none⟩ = some (.slice (some ⟨ib, io, none⟩) rn rc)) := fun W hW => by
            refine (usedRefC rm (.slice (some ⟨ib, io, none⟩) rn rc) l W (tbq_holds (tbq_below T9.out hW)) HOK9.out.pos (by omega) (by have := HL9.out; omega)).mono ?_
            rintro e W' ⟨rfl, hb⟩
            have hb2 := hW.trans (hb.mono hW.size)
            exact ⟨rfl, hb2, KEEP.out _ hb2⟩
          have CK : Hid (∀ W, Below w9.heap.size w9 W → Calls Try.prog 23 #[.pointer (some ⟨g, 0, none⟩)] W fun e W' => ∃ kv, e = .returned kv ∧ Hid (OwnS W kv (keysT l) W' ∧ Below w9.heap.size w9 W') ∧ W'.cell? ⟨qr, 0, none⟩ = some (.int .i64 rm) ∧ W'.cell? ⟨qr, 1, none⟩ = some (.slice (some ⟨ib, io, none⟩) rn rc)) := fun W hW => by
            refine (keysQ (tbq_below T9.out hW) (by omega)).mono ?_
            rintro e W' ⟨kv, rfl, ho⟩
            have hb := hW.trans (ho.2.mono hW.size)
            exact ⟨kv, rfl, ⟨ho, hb⟩, KEEP.out _ hb⟩
          have CF9 : Hid (∀ W, Below w9.heap.size w9 W → Calls Try.prog 24 #[.agg #[.int .i64 rm, .slice (some ⟨ib, io, none⟩) rn rc]] W fun e W' => ∃ kv, e = .returned kv ∧ Hid (OwnS W kv (keysT l) W' ∧ Below w9.heap.size w9 W') ∧ W'.cell? ⟨qr, 0, none⟩ = some (.int .i64 rm) ∧ W'.cell? ⟨qr, 1, none⟩ = some (.slice (some ⟨ib, io, none⟩) rn rc)) := fun W hW => by
            refine (keysRefC rm (.slice (some ⟨ib, io, none⟩) rn rc) l W (tbq_holds (tbq_below T9.out hW)) (by have := HL9.out; omega)).mono ?_
            rintro e W' ⟨kv, rfl, ho⟩
            have hb := hW.trans (ho.2.mono hW.size)
            exact ⟨kv, rfl, ⟨ho, hb⟩, KEEP.out _ hb⟩
          have CS9 : Hid (∀ W0 W1 k1 k2 W, OwnS W0 k1 (keysT l) W1 → Below W1.heap.size W1 W → OwnS W1 k2 (keysT l) W → Below w9.heap.size w9 W → Calls Try.prog 15 #[k1, k2] W fun e W' => e = .returned (.bool true) ∧ Hid (Below w9.heap.size w9 W') ∧ W'.cell? ⟨qr, 0, none⟩ = some (.int .i64 rm) ∧ W'.cell? ⟨qr, 1, none⟩ = some (.slice (some ⟨ib, io, none⟩) rn rc)) := fun W0 W1 k1 k2 W h1 h2 h3 h4 => by
            refine (sameTexts k1 k2 (keysT l) (keysT l) W (holds_mono (holds_own h1) h2) (holds_own h3) (by rw [keys_len]; have := HL9.out; omega) (by rw [keys_len]; have := HL9.out; omega)).mono ?_
            rintro e W' ⟨rfl, m, ew⟩
            have hb : Below w9.heap.size w9 W' := by rw [ew]; exact below_drawn h4 m
            exact ⟨by simp, hb, KEEP.out _ hb⟩
          generalize usedT l = u9 at *
          clear hu1 hu2
          go_region_held3 (fun w' => w'.cell? ⟨qr, 0, none⟩ = some (.int .i64 rm) ∧ w'.cell? ⟨qr, 1, none⟩ = some (.slice (some ⟨ib, io, none⟩) rn rc)) (go_keep)
            (first
              | (go_at_call 21; refine (CU.out _ ?_).mono ?_; (first | exact (Below.refl _ _).drew | exact Below.refl _ _); rintro e v1 ⟨rfl, V1, v10, v11⟩)
              | (go_at_call 22; refine (CV.out _ V1.out).mono ?_; rintro e v2 ⟨rfl, V2, v20, v21⟩)
              | (go_at_call 23; refine (CK.out _ V2.out).mono ?_; rintro e v3 ⟨k3, rfl, V3, v30, v31⟩)
              | (go_at_call 24; refine (CF9.out _ V3.out.2).mono ?_; rintro e v4 ⟨k4, rfl, V4, v40, v41⟩)
              | (go_at_call 15; refine (CS9.out _ _ _ _ _ V3.out.1 V4.out.1.2 V4.out.1 V4.out.2).mono ?_; rintro e v5 ⟨rfl, V5, v50, v51⟩))
          have T10 := hide' (tbq_below T9.out V5.out)
          have R10 := hide' (cells_below R9.out V5.out)
          go_wp2_with fail
          go_roundw
          case rel => exact ⟨i + 1, l, some ⟨ib, io, none⟩, rn, rc, by omega, by go_num, T10, R10⟩
          case measure => simp [intOf]; omega
    · go_wp2_with fail
      go_ret
      exact ⟨rfl, tbq_bel HT.out⟩
end Go.Proofs.Ytikkmnclcbanfaa
