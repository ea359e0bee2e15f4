/- The walk of LruPairs. -/
import Derived.Test.YtikkmnclcbanfaaLrZ
namespace Go.Proofs.Ytikkmnclcbanfaa
open Go.RowKit Go.Maps Go.WideMaps
theorem refPutD {w W : World} {g1 g2 c : Nat} {room : Int} {lt : LP} {lu : LY} {l : IL} {q : List Nat} {rv : Value} (h : TbD w g1 g2 room lt lu c q rv l W) (p : ItI) (hn : l.length ≤ 100000) (hok : TOk room l) :
    Calls Try.prog 14 #[.agg #[.int .i64 room, rv], .string ⟨p.key.toArray⟩, .int .i64 p.v, .int .i64 p.size] W fun e W' => ∃ a n cc gv, e = .returned (.tuple #[.agg #[.int .i64 room, .slice a n cc], gv, .bool (putOk room p.size)]) ∧ TbD w g1 g2 room lt lu c q (.slice a n cc) (putT room l p) W' ∧ Below W.heap.size W W' := by
  refine (putRefC room rv l p W (tbd_holds h) hn hok).mono ?_
  rintro e W' ⟨a, n, cc, gv, rfl, h1, h2, h3⟩
  exact ⟨a, n, cc, gv, rfl, tbd_rv h h3 h1, h3⟩
theorem refWithoutD {w W : World} {g1 g2 c : Nat} {room : Int} {lt : LP} {lu : LY} {l : IL} {q : List Nat} {rv : Value} (h : TbD w g1 g2 room lt lu c q rv l W) (k : Nm) (hn : l.length ≤ 1000000) :
    Calls Try.prog 20 #[.agg #[.int .i64 room, rv], .string ⟨k.toArray⟩] W fun e W' => ∃ a n cc, e = .returned (.agg #[.int .i64 room, .slice a n cc]) ∧ TbD w g1 g2 room lt lu c q (.slice a n cc) (withT l k) W' ∧ Below W.heap.size W W' := by
  refine (withoutRefC room rv l k W (tbd_holds h) hn).mono ?_
  rintro e W' ⟨a, n, cc, rfl, ho⟩
  exact ⟨a, n, cc, rfl, tbd_rv h ho.2 (fun T hT _ => ownI_mask ho hT), ho.2⟩
theorem alike_len {lt : LP} {lu : LY} {lr : IL} (h : Alike lt lu lr) : lr.length = lt.length := by rw [h.one, List.length_map]
theorem alike_ok {room : Int} {lt : LP} {lu : LY} {lr : IL} (h : Alike lt lu lr) (hk : TOk room lt) : TOk room lr := by
  have h1 := h.one
  subst h1
  refine ⟨by rw [← keys_map fP (fun _ => rfl)]; exact hk.once, fun x hx => hk.pos (fP x) (List.mem_map.2 ⟨x, hx, rfl⟩), by rw [← used_map fP (fun _ => rfl)]; exact hk.fit, hk.rm, fun x hx => hk.len (fP x) (List.mem_map.2 ⟨x, hx, rfl⟩)⟩
theorem tbd_more {w W : World} {g1 g2 c c' : Nat} {room : Int} {lt : LP} {lu : LY} {lr : IL} {q : List Nat} {rv : Value} (h : TbD w g1 g2 room lt lu c q rv lr W) (hc : c ≤ c') : TbD w g1 g2 room lt lu c' q rv lr W := by
  obtain ⟨U1, U2, h⟩ := h
  exact ⟨U1, U2, tb_moreP h.t1 hc, tb_moreY h.t2 hc, h.since, h.apart, h.out, h.bel, h.ref, h.txt⟩
set_option maxRecDepth 20000 in
set_option maxHeartbeats 8000000 in
theorem pairsC (room : Int) (v : Value) (os : KL) (w : World) (h : HoldsK w v os) (hl : ∀ o ∈ os, o.key.length ≤ 140737488351232) (hn : os.length * 40 ≤ 140737488351232) :
    Calls Try.prog 4 #[.int .i64 room, v] w fun e w' => e = .returned (.bool true) ∧ Below w.heap.size w w' := by
  have CA := hide' (aliveC w)
  have HK := hide' h
  have HLN := hide' hl
  have hn2 : os.length ≤ 9000000000000000000 := by omega
  clear h hl
  go_enter Try.func4, Try.ntmps4
  go_wp2_with fail
  refine CA.out.mono ?_
  rintro e w1 ⟨rfl, b1⟩
  have B1 := hide' b1
  have CN := hide' (newPC room w1)
  clear b1 CA
  go_wp2_with fail
  refine CN.out.mono ?_
  rintro e w1b ⟨U1, g1, rfl, t1b, b1b, s1b⟩
  have CN2 := hide' (newD w w1 w1b room B1.out t1b b1b s1b)
  clear t1b b1b s1b CN
  go_wp2_with fail
  refine CN2.out.mono ?_
  rintro e w2 ⟨g2, rfl, t2, b2⟩
  have CR := hide' (newRefC room w2)
  obtain ⟨rm, hrm⟩ : ∃ rm, rm = min (max room 0) 1073741824 := ⟨_, rfl⟩
  rw [← hrm] at t2 CR
  have HRM := hide' hrm
  have T2 := hide' t2
  clear t2 b2 CN2 hrm
  go_wp2_with fail
  refine CR.out.mono ?_
  rintro e w3 ⟨rfl, b3⟩
  have bN := below_alloc' w3 (.cells #[.int .i64 rm, .slice none 0 0] 28)
  have T4 := hide' (tbd_new (b := w3.heap.size) (tbd_below T2.out b3) bN (Nat.le_refl _) (by simp))
  have K4 : Hid (Blk w3.heap.size (w3.alloc (.cells #[.int .i64 rm, .slice none 0 0] 28)) [.int .i64 rm, .slice none 0 0]) := cells_lit w3 #[.int .i64 rm, .slice none 0 0] 28
  obtain ⟨qr, hqr⟩ : ∃ qr, qr = w3.heap.size := ⟨_, rfl⟩
  have HQR := hide' hqr
  rw [← hqr] at T4 K4
  have CC := hide' (cutC v os w (w3.alloc (.cells #[.int .i64 rm, .slice none 0 0] 28)) HK.out hn2)
  clear b3 bN CR hqr
  go_wp2_with fail
  refine CC.out.mono ?_
  rintro e w5 ⟨v', rfl, h3, ew⟩
  rw [ew, ← HQR.out]
  clear ew w5 CC
  obtain ⟨n, hN⟩ : ∃ n, n = (os.take 300).length := ⟨_, rfl⟩
  have hn3 : n ≤ 300 := by rw [hN, List.length_take]; omega
  have HL3 : Hid (∀ j (hj : j < (os.take 300).length), ((os.take 300)[j]).key.length ≤ 140737488351232) := fun j hj => HLN.out _ (List.mem_of_mem_take (List.getElem_mem hj))
  obtain ⟨a3, c3, rfl, hat⟩ := holdsK_at h3
  have HAT := hide' hat
  have HN := hide' hN
  rw [← hN]
  clear h3 hat hN hn
  generalize os.take 300 = os3 at *
  go_wp2_with fail
  go_loopw [8, 9, 10, 11, 12, 13, 14, 15, 16, 17] (fun iv _ _ _ _ _ _ _ _ _ wr => ∃ (i : Nat) (lt : LP) (lu : LY) (l : IL) (ra : Option Addr) (rn rc : Nat), i ≤ n ∧ iv = .int .i64 i ∧ Hid (TbD w g1 g2 rm lt lu (2 * i) [qr] (.slice ra rn rc) l wr) ∧ Hid (Alike lt lu l) ∧ Hid (Blk qr wr [.int .i64 rm, .slice ra rn rc])) (fun iv _ _ _ _ _ _ _ _ _ _ => n - (intOf iv).toNat)
  case atStart => exact ⟨0, [], [], [], none, 0, 0, by omega, rfl, T4, ⟨rfl, rfl⟩, K4⟩
  case round =>
    obtain ⟨i, lt, lu, l, ra, rn, rc, hi, rfl, HT, HA, HR⟩ := hrel
    by_cases hlt : i < n
    · have hil : i < os3.length := by rw [← HN.out]; exact hlt
      obtain ⟨b, off, rfl, hb, e0, e1, e2, e3⟩ := HAT.out i hil
      have KP : ∀ o, wr.cell? ⟨b, o, none⟩ = w.cell? ⟨b, o, none⟩ := fun o => (tbd_bel HT.out).cell (p := ⟨b, o, none⟩) hb
      rw [← KP] at e0 e1 e2 e3
      have hkl := HL3.out i hil
      obtain ⟨op, hop⟩ : ∃ op, op = os3[i] := ⟨_, rfl⟩
      rw [← hop] at e0 e1 e2 e3 hkl
      obtain ⟨wt, key, ov, sz⟩ := op
      simp only at e0 e1 e2 e3 hkl
      obtain ⟨kb, hkb⟩ : ∃ kb : ByteArray, kb = ⟨key.toArray⟩ := ⟨_, rfl⟩
      have HKB := hide' hkb
      have hks : kb.size ≤ 140737488351232 := by rw [hkb, size_l]; exact hkl
      have HKD : Hid (kb.data.toList = key) := by unfold Hid; rw [hkb]
      rw [← hkb] at e1
      have bN := below_alloc' wr (.cells #[.int .i64 wt, .string kb, .int .i64 ov, .int .i64 sz] 32)
      obtain ⟨w4, hw4⟩ : ∃ w4, w4 = wr.alloc (.cells #[.int .i64 wt, .string kb, .int .i64 ov, .int .i64 sz] 32) := ⟨_, rfl⟩
      have HW4 := hide' hw4
      have T4' := hide' (tbd_new (b := wr.heap.size) HT.out bN (Nat.le_refl _) (by simp))
      have K4' := hide' (cells_lit wr #[.int .i64 wt, .string kb, .int .i64 ov, .int .i64 sz] 32)
      have R4 := hide' (cells_below HR.out bN)
      obtain ⟨bo, hbo⟩ : ∃ bo, bo = wr.heap.size := ⟨_, rfl⟩
      have HBO := hide' hbo
      rw [← hbo] at T4' K4'
      rw [← hw4] at T4' K4' R4
      have HQB : Hid (qr < bo) := by unfold Hid; rw [HBO.out]; exact HR.out.2
      have hok := tbd_ok T4'.out
      have hlen : l.length ≤ 2 * i := by rw [alike_len HA.out]; exact hok.2.2.1
      have HOKL := hide' (alike_ok HA.out hok.1)
      have HLEN := hide' hlen
      clear KP hkl hop hkb bN hbo HT HR hw4 hlen hok
      by_cases hw : wt = 1
      case' pos =>
        subst hw
        have C1 := hide' (putD1 T4'.out (by omega) (fP ⟨key, ov, sz⟩) kb HKD.out.symm hks)
        unfold fP at C1
        simp only at C1
        rw [← HKB.out] at C1
        go_wp2_with fail
        rw [← HW4.out, ← HBO.out]
        refine C1.out.mono ?_
        rintro e w5 ⟨gv1, rfl, t5, k5, z5⟩
        have K5 := hide' (keepQ_blk K4'.out k5 (by simp) z5)
        have R5 := hide' (keepQ_blk R4.out k5 (by simp) z5)
        obtain ⟨f1, f2, f3⟩ : w5.cell? ⟨bo, 1, none⟩ = some (.string kb) ∧ w5.cell? ⟨bo, 2, none⟩ = some (.int .i64 ov) ∧ w5.cell? ⟨bo, 3, none⟩ = some (.int .i64 sz) := ⟨(K5.out.1 1 (by simp)).1, (K5.out.1 2 (by simp)).1, (K5.out.1 3 (by simp)).1⟩
        have hcv := Lib.run_convert_string_bytes (P := Try.prog) w5 9 56 5 kb (u := .string) Try.underlying9 Try.underlying56 Try.underlying5
        have C2 := hide' (putD2 t5 (by omega) key sz kb HKD.out.symm hks)
        have hb5 := below_bytes w5 kb
        have K5b := cells_below K5.out hb5
        have f3b : (Lib.bytesWorld w5 5 kb).cell? ⟨bo, 3, none⟩ = some (.int .i64 sz) := (K5b.1 3 (by simp)).1
        clear C1 t5 k5 z5 hb5 K5b e0 e1 e2 e3
        go_wp2_with fail
        refine C2.out.mono ?_
        rintro e w6 ⟨gv2, lu2, rfl, t6, hlu, k6, z6⟩
        have K6 := hide' (keepQ_blk K5.out k6 (by simp) z6)
        have R6 := hide' (keepQ_blk R5.out k6 (by simp) z6)
        have A6 := hide' (alike_put (room := rm) (p := ⟨key, ov, sz⟩) HA.out hlu)
        obtain ⟨x1, x2, x3⟩ : w6.cell? ⟨bo, 1, none⟩ = some (.string kb) ∧ w6.cell? ⟨bo, 2, none⟩ = some (.int .i64 ov) ∧ w6.cell? ⟨bo, 3, none⟩ = some (.int .i64 sz) := ⟨(K6.out.1 1 (by simp)).1, (K6.out.1 2 (by simp)).1, (K6.out.1 3 (by simp)).1⟩
        obtain ⟨x4, x5⟩ : w6.cell? ⟨qr, 0, none⟩ = some (.int .i64 rm) ∧ w6.cell? ⟨qr, 1, none⟩ = some (.slice ra rn rc) := ⟨(R6.out.1 0 (by simp)).1, (R6.out.1 1 (by simp)).1⟩
        have CF := hide' (refPutD t6 ⟨key, ov, sz⟩ (by have := HLEN.out; omega) HOKL.out)
        simp only at CF
        rw [← HKB.out] at CF
        have hgm : Hid (fP ⟨key, ov, sz⟩ = ⟨key, (key, ov), sz⟩) := rfl
        obtain ⟨l2, hl2⟩ : ∃ l2, l2 = putT rm l ⟨key, ov, sz⟩ := ⟨_, rfl⟩
        rw [← hl2] at CF A6
        rw [hgm.out] at A6
        clear C2 t6 k6 z6 hlu f1 f2 f3 f3b hcv hl2
        go_wp2_with fail
        refine CF.out.mono ?_
        rintro e w7 ⟨a9, n9, c9, gv3, rfl, t7, b7⟩
        have R7 := hide' (cells_below R6.out b7)
        have K7 := cells_below K6.out b7
        obtain ⟨y0, y1, yf0, yf1⟩ : w7.cell? ⟨qr, 0, none⟩ = some (.int .i64 rm) ∧ w7.cell? ⟨qr, 1, none⟩ = some (.slice ra rn rc) ∧ w7.frozen? ⟨qr, 0, none⟩ = false ∧ w7.frozen? ⟨qr, 1, none⟩ = false := ⟨(R7.out.1 0 (by simp)).1, (R7.out.1 1 (by simp)).1, (R7.out.1 0 (by simp)).2, (R7.out.1 1 (by simp)).2⟩
        have hql := R7.out.2
        have hqm : qr ∈ [bo, qr] := by simp
        have hbq : bo ≠ qr := fun e => by have h1 := HQB.out; omega
        obtain ⟨w9, hw9⟩ : ∃ w9, w9 = ((w7.setCell ⟨qr, 0, none⟩ (.int .i64 rm)).setCell ⟨qr, 1, none⟩ (.slice a9 n9 c9)).alloc (.cells #[.int .i64 rm, .slice a9 n9 c9] 28) := ⟨_, rfl⟩
        have HW9 := hide' hw9
        have T9 : Hid (TbD w g1 g2 rm (putT rm lt ⟨key, (key, ov), sz⟩) lu2 (2 * (i + 1)) [qr] (.slice a9 n9 c9) l2 w9) := by
          rw [hw9]; exact tbd_sub (tbd_more (tbd_below (tbd_poke (tbd_poke t7 hqm) hqm) (below_alloc' _ _)) (by omega)) (fun k hk => by rw [List.mem_singleton.1 hk]; simp)
        have R9 : Hid (Blk qr w9 [.int .i64 rm, .slice a9 n9 c9]) := by
          rw [hw9]
          have := cells_below (cells_set (cells_set R7.out (j := 0) (by simp) (.int .i64 rm)) (j := 1) (by simp) (.slice a9 n9 c9)) (below_alloc' _ (.cells #[.int .i64 rm, .slice a9 n9 c9] 28))
          simpa [Hid] using this
        have K9 : Hid (Blk bo w9 [.int .i64 1, .string kb, .int .i64 ov, .int .i64 sz]) := by
          rw [hw9]
          exact cells_below (cells_other (cells_other K7 hbq _) hbq _) (below_alloc' _ _)
        generalize putT rm lt ⟨key, (key, ov), sz⟩ = lt9 at *
        generalize lu2 = lu9 at *
        have D9 : Hid (∀ W, Below w9.heap.size w9 W → W.cell? ⟨bo, 1, none⟩ = some (.string kb) ∧ bo < W.heap.size) := fun W hW => ⟨((cells_below K9.out hW).1 1 (by simp)).1, (cells_below K9.out hW).2⟩
        have A9 := A6
        have z1 : (((w7.setCell ⟨qr, 0, none⟩ (.int .i64 rm)).setCell ⟨qr, 1, none⟩ (.slice a9 n9 c9)).alloc (.cells #[.int .i64 rm, .slice a9 n9 c9] 28)).cell? ⟨bo, 1, none⟩ = some (.string kb) := by
          have := (K9.out.1 1 (by simp)).1
          rw [hw9] at this
          exact this
        clear CF t7 b7 K7 hw9 hqm x1 x2 x3 x4 x5 A6
        go_wp2_with fail
        rw [← HW9.out]
        clear y0 y1 yf0 yf1 hql HW9 z1
      case' neg =>
        have q : (wt == 1) = false := by simpa using hw
        have C1 := hide' (dropD1 T4'.out kb hks)
        rw [HKD.out] at C1
        go_wp2_with fail
        rw [← HW4.out, ← HBO.out]
        refine C1.out.mono ?_
        rintro e w5 ⟨gb1, rfl, t5, k5, z5⟩
        have K5 := hide' (keepQ_blk K4'.out k5 (by simp) z5)
        have R5 := hide' (keepQ_blk R4.out k5 (by simp) z5)
        have f1 : w5.cell? ⟨bo, 1, none⟩ = some (.string kb) := (K5.out.1 1 (by simp)).1
        have C2 := hide' (dropD2 t5 kb hks)
        rw [HKD.out] at C2
        clear C1 t5 k5 z5 e0 e1 e2 e3 q hw
        go_wp2_with fail
        refine C2.out.mono ?_
        rintro e w6 ⟨gb2, rfl, t6, k6, z6⟩
        have K6 := hide' (keepQ_blk K5.out k6 (by simp) z6)
        have R6 := hide' (keepQ_blk R5.out k6 (by simp) z6)
        have A6 := hide' (alike_with HA.out key)
        have x1 : w6.cell? ⟨bo, 1, none⟩ = some (.string kb) := (K6.out.1 1 (by simp)).1
        obtain ⟨x4, x5⟩ : w6.cell? ⟨qr, 0, none⟩ = some (.int .i64 rm) ∧ w6.cell? ⟨qr, 1, none⟩ = some (.slice ra rn rc) := ⟨(R6.out.1 0 (by simp)).1, (R6.out.1 1 (by simp)).1⟩
        have CF := hide' (refWithoutD t6 key (by have := HLEN.out; omega))
        rw [← HKB.out] at CF
        obtain ⟨l2, hl2⟩ : ∃ l2, l2 = withT l key := ⟨_, rfl⟩
        rw [← hl2] at CF A6
        clear C2 t6 k6 z6 f1 hl2
        go_wp2_with fail
        refine CF.out.mono ?_
        rintro e w7 ⟨a9, n9, c9, rfl, t7, b7⟩
        have R7 := hide' (cells_below R6.out b7)
        have K7 := cells_below K6.out b7
        obtain ⟨y0, y1, yf0, yf1⟩ : w7.cell? ⟨qr, 0, none⟩ = some (.int .i64 rm) ∧ w7.cell? ⟨qr, 1, none⟩ = some (.slice ra rn rc) ∧ w7.frozen? ⟨qr, 0, none⟩ = false ∧ w7.frozen? ⟨qr, 1, none⟩ = false := ⟨(R7.out.1 0 (by simp)).1, (R7.out.1 1 (by simp)).1, (R7.out.1 0 (by simp)).2, (R7.out.1 1 (by simp)).2⟩
        have hql := R7.out.2
        have hqm : qr ∈ [bo, qr] := by simp
        have hbq : bo ≠ qr := fun e => by have h1 := HQB.out; omega
        have hqb : qr ≠ bo := fun e => hbq e.symm
        obtain ⟨w9, hw9⟩ : ∃ w9, w9 = (w7.setCell ⟨qr, 0, none⟩ (.int .i64 rm)).setCell ⟨qr, 1, none⟩ (.slice a9 n9 c9) := ⟨_, rfl⟩
        have HW9 := hide' hw9
        have T9 : Hid (TbD w g1 g2 rm (withT lt key) (withT lu key) (2 * (i + 1)) [qr] (.slice a9 n9 c9) l2 w9) := by
          rw [hw9]; exact tbd_sub (tbd_more (tbd_poke (tbd_poke t7 hqm) hqm) (by omega)) (fun k hk => by rw [List.mem_singleton.1 hk]; simp)
        have R9 : Hid (Blk qr w9 [.int .i64 rm, .slice a9 n9 c9]) := by
          rw [hw9]
          have := cells_set (cells_set R7.out (j := 0) (by simp) (.int .i64 rm)) (j := 1) (by simp) (.slice a9 n9 c9)
          simpa [Hid] using this
        have K9 := hide' (show Blk bo w9 [.int .i64 wt, .string kb, .int .i64 ov, .int .i64 sz] by rw [hw9]; exact cells_other (cells_other K7 hbq _) hbq _)
        have z1 : w7.cell? ⟨bo, 1, none⟩ = some (.string kb) := (K7.1 1 (by simp)).1
        generalize withT lt key = lt9 at *
        generalize withT lu key = lu9 at *
        have D9 : Hid (∀ W, Below w9.heap.size w9 W → W.cell? ⟨bo, 1, none⟩ = some (.string kb) ∧ bo < W.heap.size) := fun W hW => ⟨((cells_below K9.out hW).1 1 (by simp)).1, (cells_below K9.out hW).2⟩
        have A9 := A6
        clear CF t7 b7 K7 hw9 hqm x1 x4 x5 A6
        go_wp2_with fail
        rw [← HW9.out]
        clear y0 y1 yf0 yf1 hql HW9 z1
      all_goals
        have hok9 := tbd_ok T9.out
        have hlen9 : l2.length ≤ 1000000 := by rw [alike_len A9.out]; have := hok9.2.2.1; omega
        have CA2 := hide' (atRefC rm (.slice a9 n9 c9) l2 key w9 (tbd_holds T9.out) hlen9)
        rw [← HKB.out] at CA2
        refine CA2.out.mono ?_
        rintro e w10 ⟨rfl, b10⟩
        have T10 := hide' (tbd_below T9.out b10)
        have R10 := hide' (cells_below R9.out b10)
        have d10 := (D9.out w10 b10).1
        have CP1 := hide' (peekD1 T10.out kb hks)
        rw [HKD.out] at CP1
        have B10 := hide' b10
        clear b10 CA2 hok9 hlen9
        cases hf : findT l2 key with
        | none =>
          have ea : atI l2 key = -1 := by unfold atI; rw [hf, if_pos rfl]
          obtain ⟨ep, ey⟩ := alike_none A9.out hf
          rw [ea]
          rw [ep] at CP1
          have EY := hide' ey
          clear ea ep ey hf
          go_wp2_with fail
          refine CP1.out.mono ?_
          rintro e w11 ⟨rfl, b11⟩
          have b12 := b11.trans ((below_alloc' w11 (.cells #[.string ⟨#[]⟩, .int .i64 0] 53)).mono b11.size)
          have T12 := hide' (tbd_below T10.out b12)
          have R12 := hide' (cells_below R10.out b12)
          have dd := D9.out _ (B10.out.trans (b12.mono B10.out.size))
          have d12 := dd.1
          have d12l := dd.1
          have CP2 := hide' (peekD2 T12.out kb hks)
          rw [HKD.out, EY.out] at CP2
          obtain ⟨w12, hw12⟩ : ∃ w12, w12 = w11.alloc (.cells #[.string ⟨#[]⟩, .int .i64 0] 53) := ⟨_, rfl⟩
          have HW12 := hide' hw12
          have KX : Blk w11.heap.size w12 [.string ⟨#[]⟩, .int .i64 0] := by rw [hw12]; exact cells_lit w11 #[.string ⟨#[]⟩, .int .i64 0] 53
          rw [← hw12] at T12 R12 d12 CP2
          obtain ⟨u0, u1⟩ : w12.cell? ⟨w11.heap.size, 0, none⟩ = some (.string ⟨#[]⟩) ∧ w12.cell? ⟨w11.heap.size, 1, none⟩ = some (.int .i64 0) := ⟨(KX.1 0 (by simp)).1, (KX.1 1 (by simp)).1⟩
          clear CP1 b11 b12 dd hw12 KX d10 EY
          go_wp2_with fail
          rw [← HW12.out]
          clear d12l
          refine CP2.out.mono ?_
          rintro e w13 ⟨rfl, ew⟩
          rw [ew]
          clear ew w13 CP2
          go_wp2_with fail
          go_quiet (fail)
          have T13 := hide' (tbd_below T12.out (below_drewN w12 nq))
          have R13 := hide' (cells_below R12.out (below_drewN w12 nq))
          go_wp2_with fail
          go_roundw
          case rel => exact ⟨i + 1, lt9, lu9, l2, a9, n9, c9, by omega, by go_num, T13, A9, R13⟩
          case measure => simp [intOf]; omega
        | some x =>
          obtain ⟨jx, hjx, ea, exj⟩ := at_idx hf
          have HJX := hide' hjx
          have HXJ : Hid (l2[jx]'HJX.out = x) := exj
          obtain ⟨ep, y, hym, hyk, ey⟩ := alike_some A9.out hf
          rw [ea]
          rw [ep] at CP1
          have EY := hide' ey
          have HYM := hide' hym
          have HYK := hide' hyk
          rw [← HKB.out] at CP1
          clear ea ep ey hf hym hyk exj hjx
          go_wp2_with fail
          refine CP1.out.mono ?_
          rintro e w11 ⟨rfl, b11⟩
          have b12 := b11.trans ((below_alloc' w11 (.cells #[.string kb, .int .i64 x.v] 53)).mono b11.size)
          have T12 := hide' (tbd_below T10.out b12)
          have R12 := hide' (cells_below R10.out b12)
          have dd := D9.out _ (B10.out.trans (b12.mono B10.out.size))
          have d12 := dd.1
          have d12l := dd.1
          have CP2 := hide' (peekD2 T12.out kb hks)
          rw [HKD.out, EY.out] at CP2
          obtain ⟨w12, hw12⟩ : ∃ w12, w12 = w11.alloc (.cells #[.string kb, .int .i64 x.v] 53) := ⟨_, rfl⟩
          have HW12 := hide' hw12
          have KX : Blk w11.heap.size w12 [.string kb, .int .i64 x.v] := by rw [hw12]; exact cells_lit w11 #[.string kb, .int .i64 x.v] 53
          rw [← hw12] at T12 R12 d12 CP2
          obtain ⟨u0, u1⟩ : w12.cell? ⟨w11.heap.size, 0, none⟩ = some (.string kb) ∧ w12.cell? ⟨w11.heap.size, 1, none⟩ = some (.int .i64 x.v) := ⟨(KX.1 0 (by simp)).1, (KX.1 1 (by simp)).1⟩
          have hcy : ∀ m, Sem.run Try.prog (convert 56 9 (.slice y.v.1 y.v.2.1 y.v.2.2)) (w12.drewN m) = .ok (.string kb) (w12.drewN m) := fun m => by
            have hY := tbd_txt (tbd_below T12.out (below_drewN w12 m)) y HYM.out
            rw [HYK.out] at hY
            rw [HKB.out]
            exact conv_Y hY
          obtain ⟨ia, ic, ei, hati⟩ := holdsI_at (tbd_holds T12.out)
          obtain ⟨ib, io, ei2, hib, -, p1, -⟩ := hati jx HJX.out
          simp only [Value.slice.injEq] at ei
          obtain ⟨ei3, ei4, -⟩ := ei
          rw [ei2] at ei3
          subst ei3
          rw [HXJ.out] at p1
          have hjn : jx < n9 := by rw [ei4]; exact HJX.out
          obtain ⟨s0, s1⟩ : w12.cell? ⟨qr, 0, none⟩ = some (.int .i64 rm) ∧ w12.cell? ⟨qr, 1, none⟩ = some (.slice (some ⟨ib, io, none⟩) n9 c9) := ⟨(R12.out.1 0 (by simp)).1, (R12.out.1 1 (by simp)).1⟩
          clear CP1 b11 b12 dd hw12 KX d10 EY hati ei2 ei4
          go_wp2_with fail
          rw [← HW12.out]
          clear d12l
          refine CP2.out.mono ?_
          rintro e w13 ⟨rfl, ew⟩
          rw [ew]
          clear ew w13 CP2
          go_wp2_with fail
          go_quiet (fail)
          have T13 := hide' (tbd_below T12.out (below_drewN w12 nq))
          have R13 := hide' (cells_below R12.out (below_drewN w12 nq))
          go_wp2_with fail
          go_roundw
          case rel => exact ⟨i + 1, lt9, lu9, l2, some ⟨ib, io, none⟩, n9, c9, by omega, by go_num, T13, A9, R13⟩
          case measure => simp [intOf]; omega
    · have C1 := hide' (keysD1 HT.out (by omega))
      have hok := tbd_ok HT.out
      have EK : Hid (keysT lt = keysT l ∧ keysT lu = keysT l ∧ usedT lt = usedT l ∧ usedT lu = usedT l) := by
        refine ⟨by rw [HA.out.one, keys_map fP (fun _ => rfl)], by rw [← sk_keys, HA.out.two, sk_keys], by rw [HA.out.one, used_map fP (fun _ => rfl)], by rw [← sk_used, HA.out.two, sk_used]⟩
      have hkl : (keysT l).length ≤ 8388608 := by
        rw [← EK.out.1]
        unfold keysT
        rw [List.length_map]
        have := hok.2.2.1
        omega
      rw [EK.out.1] at C1
      have U1' := hide' (tbd_bel HT.out)
      clear hok
      go_wp2_with fail
      refine C1.out.mono ?_
      rintro e w5 ⟨k5, rfl, o5⟩
      have T5 := hide' (tbd_below HT.out o5.2)
      have C2 := hide' (keysD2 T5.out (by omega))
      rw [EK.out.2.1] at C2
      have O5 := hide' o5
      clear C1 o5
      go_wp2_with fail
      refine C2.out.mono ?_
      rintro e w6 ⟨k6, rfl, o6⟩
      have T6 := hide' (tbd_below T5.out o6.2)
      have CS := hide' (sameTexts k5 k6 (keysT l) (keysT l) w6 (holds_mono (holds_own O5.out) o6.2) (holds_own o6) hkl hkl)
      rw [show decide (keysT l = keysT l) = true by simp] at CS
      clear C2 o6
      go_wp2_with fail
      refine CS.out.mono ?_
      rintro e w7 ⟨rfl, n7, ew⟩
      have b7 : Below w6.heap.size w6 w7 := by rw [ew]; exact below_drewN _ _
      have T7 := hide' (tbd_below T6.out b7)
      have C3 := hide' (usedD1 T7.out)
      have C4 := hide' (usedD2 T7.out)
      rw [EK.out.2.2.1] at C3
      rw [EK.out.2.2.2] at C4
      clear CS ew b7
      go_wp2_with (first
        | (go_at_call 35; refine C3.out.mono ?_; rintro e w8 ⟨rfl, ew⟩; rw [ew]; clear ew w8)
        | (go_at_call 36; refine C4.out.mono ?_; rintro e w8 ⟨rfl, ew⟩; rw [ew]; clear ew w8))
      go_ret
      exact ⟨by simp, tbd_bel T7.out⟩
end Go.Proofs.Ytikkmnclcbanfaa
