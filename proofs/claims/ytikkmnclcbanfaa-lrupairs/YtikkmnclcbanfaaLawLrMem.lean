/- The walk of LruMemory. -/
import Derived.Test.YtikkmnclcbanfaaLrY
import Derived.Deep.RegionHeld3
namespace Go.Proofs.Ytikkmnclcbanfaa
open Go.RowKit Go.Maps Go.WideMaps
/-- the document's Put beside the table -/
theorem refPutQ {w W : World} {g c : Nat} {room : Int} {l l2 : IL} {q : List Nat} {rv : Value} (h : TbQ w g room l2 c q rv l W) (p : ItI) (hn : l.length ≤ 100000) (hok : TOk room l) :
    Calls Try.prog 14 #[.agg #[.int .i64 room, rv], .string ⟨p.key.toArray⟩, .int .i64 p.v, .int .i64 p.size] W fun e W' => ∃ a n cc gv, e = .returned (.tuple #[.agg #[.int .i64 room, .slice a n cc], gv, .bool (putOk room p.size)]) ∧ TbQ w g room l2 c q (.slice a n cc) (putT room l p) W' ∧ OwnT W.heap.size gv (putG room l p) W' ∧ Below W.heap.size W W' := by
  refine (putRefC room rv l p W (tbq_holds h) hn hok).mono ?_
  rintro e W' ⟨a, n, cc, gv, rfl, h1, h2, h3⟩
  exact ⟨a, n, cc, gv, rfl, tbq_rv h h3 h1, h2, h3⟩
/-- texts' cells that may be written: how many there are, and where -/
theorem ownT_cells {base : Nat} {W : World} {v : Value} {ss : List Nm} (h : OwnT base v ss W) : ∃ a c, v = .slice a ss.length c ∧ ∀ j, j < ss.length → ∃ b, a = some ⟨b, 0, none⟩ ∧ v.ownBlock = some b ∧ (∃ x, W.cell? ⟨b, j, none⟩ = some x) ∧ W.frozen? ⟨b, j, none⟩ = false := by
  obtain ⟨hl, ⟨rfl, hn⟩ | ⟨g, cap, cur, rfl, hg, hh, hr⟩⟩ := id h
  · exact ⟨none, 0, by rw [hn], fun j hj => by omega⟩
  · refine ⟨_, _, rfl, fun j hj => ⟨g, rfl, rfl, ?_, ?_⟩⟩
    · exact ⟨_, World.ownsRow.cellAt h j (by omega) |>.trans (List.getElem?_eq_getElem (by rw [List.length_map]; exact hj))⟩
    · unfold World.frozen?
      rw [hh]
      simp
/-- a block's cells of which the place alone is told: they stay so whatever is stored -/
def Pok (b n : Nat) (W : World) : Prop := ∀ j, j < n → (∃ x, W.cell? ⟨b, j, none⟩ = some x) ∧ W.frozen? ⟨b, j, none⟩ = false
theorem pok_set {b n : Nat} {W : World} (h : Pok b n W) (c o : Nat) (v : Value) : Pok b n (W.setCell ⟨c, o, none⟩ v) := fun j hj => by
  obtain ⟨⟨x, hx⟩, hf⟩ := h j hj
  refine ⟨?_, by simpa using hf⟩
  by_cases e : (⟨b, j, none⟩ : Addr) = ⟨c, o, none⟩
  · rw [← e]; exact ⟨v, World.cell?_setCell_same _ _ _ hx⟩
  · exact ⟨x, by rw [World.cell?_setCell_other _ _ _ _ (fun h => e h.symm)]; exact hx⟩
theorem pok_block {b n : Nat} {W W' : World} (h : Pok b n W) (hb : W'.heap[b]? = W.heap[b]?) : Pok b n W' := fun j hj => by
  obtain ⟨⟨x, hx⟩, hf⟩ := h j hj
  exact ⟨⟨x, by rw [World.cell?_of_block (w := W) (a := ⟨b, j, none⟩) hb]; exact hx⟩, by rw [World.frozen?_of_block (w := W) (a := ⟨b, j, none⟩) hb]; exact hf⟩
/-- a row whose cells may be written, outside -/
def PokV (a : Option Addr) (n : Nat) (Q : List Nat) (qr : Nat) (W : World) : Prop := 0 < n → ∃ b, a = some ⟨b, 0, none⟩ ∧ b ∈ Q ∧ b ≠ qr ∧ Pok b n W
theorem pokV_set {a : Option Addr} {n qr : Nat} {Q : List Nat} {W : World} (h : PokV a n Q qr W) (c o : Nat) (v : Value) : PokV a n Q qr (W.setCell ⟨c, o, none⟩ v) := fun hn => by
  obtain ⟨b, h1, h2, h3, h4⟩ := h hn
  exact ⟨b, h1, h2, h3, pok_set h4 c o v⟩
theorem pokV_own {base : Nat} {W : World} {a : Option Addr} {n c qr : Nat} {ss : List Nm} {Q : List Nat} (h : OwnT base (.slice a n c) ss W) (hQ : ∀ b, (Value.slice a n c).ownBlock = some b → b ∈ Q) (hq : qr < base) : n = ss.length ∧ PokV a n Q qr W := by
  obtain ⟨a', c', e, hc⟩ := ownT_cells h
  simp only [Value.slice.injEq] at e
  obtain ⟨rfl, rfl, rfl⟩ := e
  refine ⟨rfl, fun hn => ?_⟩
  obtain ⟨b, e1, e2, _, _⟩ := hc 0 hn
  refine ⟨b, e1, hQ b e2, fun e => by have := (ownT_lt h b e2).1; omega, fun j hj => ?_⟩
  obtain ⟨b', e3, e4, e5, e6⟩ := hc j hj
  rw [e1] at e3
  cases e3
  exact ⟨e5, e6⟩
set_option maxRecDepth 20000 in
set_option maxHeartbeats 8000000 in
theorem memoryC (room : Int) (v : Value) (os : KL) (w : World) (h : HoldsK w v os) (hl : ∀ o ∈ os, o.key.length ≤ 140737488351232) (hn : os.length * 40 ≤ 140737488351232) :
    Calls Try.prog 7 #[.int .i64 room, v] w fun e w' => e = .returned (.bool true) ∧ Below w.heap.size w w' := by
  have CA := hide' (aliveC w)
  have HK := hide' h
  have HLN := hide' hl
  have hn2 : os.length ≤ 9000000000000000000 := by omega
  clear h hl
  go_enter Try.func7, Try.ntmps7
  go_wp2_with fail
  refine CA.out.mono ?_
  rintro e w1 ⟨rfl, b1⟩
  have CN := hide' (newQ w w1 room b1 [] (fun k hk => by cases hk))
  clear b1 CA
  go_wp2_with fail
  refine CN.out.mono ?_
  rintro e w2 ⟨g, rfl, t2, b2⟩
  have CR := hide' (newRefC room w2)
  obtain ⟨rm, hrm⟩ : ∃ rm, rm = min (max room 0) 1073741824 := ⟨_, rfl⟩
  rw [← hrm] at t2 CR
  have HRM := hide' hrm
  have T2 := hide' t2
  clear t2 b2 CN hrm
  go_wp2_with fail
  refine CR.out.mono ?_
  rintro e w3 ⟨rfl, b3⟩
  have bN := below_alloc' w3 (.cells #[.int .i64 rm, .slice none 0 0] 28)
  have T4 := hide' (tbq_new (b := w3.heap.size) (tbq_below T2.out b3) bN (Nat.le_refl _) (by simp))
  have K4 : Hid (Blk w3.heap.size (w3.alloc (.cells #[.int .i64 rm, .slice none 0 0] 28)) [.int .i64 rm, .slice none 0 0]) := cells_lit w3 #[.int .i64 rm, .slice none 0 0] 28
  obtain ⟨qr, hqr⟩ : ∃ qr, qr = w3.heap.size := ⟨_, rfl⟩
  have HQR := hide' hqr
  rw [← hqr] at T4 K4
  have CC := hide' (cutC v os w (w3.alloc (.cells #[.int .i64 rm, .slice none 0 0] 28)) HK.out hn2)
  clear b3 bN CR hqr
  go_wp2_with fail
  refine CC.out.mono ?_
  rintro e w5 ⟨v', rfl, h3, ew⟩
  rw [ew, ← HQR.out]
  clear ew w5 CC
  obtain ⟨n, hN⟩ : ∃ n, n = (os.take 300).length := ⟨_, rfl⟩
  have hn3 : n ≤ 300 := by rw [hN, List.length_take]; omega
  have HL3 : Hid (∀ j (hj : j < (os.take 300).length), ((os.take 300)[j]).key.length ≤ 140737488351232) := fun j hj => HLN.out _ (List.mem_of_mem_take (List.getElem_mem hj))
  obtain ⟨a3, c3, rfl, hat⟩ := holdsK_at h3
  have HAT := hide' hat
  have HN := hide' hN
  rw [← hN]
  clear h3 hat hN hn
  generalize os.take 300 = os3 at *
  go_wp2_with fail
  go_loopw [7, 8, 9, 10, 11, 12, 13, 14, 15, 16] (fun iv _ _ _ _ _ _ _ _ _ wr => ∃ (i : Nat) (l : IL) (ra : Option Addr) (rn rc : Nat), i ≤ n ∧ iv = .int .i64 i ∧ Hid (TbQ w g rm l i [qr] (.slice ra rn rc) l wr) ∧ Hid (Blk qr wr [.int .i64 rm, .slice ra rn rc])) (fun iv _ _ _ _ _ _ _ _ _ _ => n - (intOf iv).toNat)
  case atStart => exact ⟨0, [], none, 0, 0, by omega, rfl, T4, K4⟩
  case round =>
    obtain ⟨i, l, ra, rn, rc, hi, rfl, HT, HR⟩ := hrel
    by_cases hlt : i < n
    · have hil : i < os3.length := by rw [← HN.out]; exact hlt
      obtain ⟨b, off, rfl, hb, e0, e1, e2, e3⟩ := HAT.out i hil
      have KP : ∀ o, wr.cell? ⟨b, o, none⟩ = w.cell? ⟨b, o, none⟩ := fun o => (tbq_bel HT.out).cell (p := ⟨b, o, none⟩) hb
      rw [← KP] at e0 e1 e2 e3
      have hkl := HL3.out i hil
      obtain ⟨op, hop⟩ : ∃ op, op = os3[i] := ⟨_, rfl⟩
      rw [← hop] at e0 e1 e2 e3 hkl
      obtain ⟨wt, key, ov, sz⟩ := op
      simp only at e0 e1 e2 e3 hkl
      obtain ⟨kb, hkb⟩ : ∃ kb : ByteArray, kb = ⟨key.toArray⟩ := ⟨_, rfl⟩
      have HKB := hide' hkb
      have hks : kb.size ≤ 140737488351232 := by rw [hkb, size_l]; exact hkl
      have HKD : Hid (kb.data.toList = key) := by unfold Hid; rw [hkb]
      rw [← hkb] at e1
      have bN := below_alloc' wr (.cells #[.int .i64 wt, .string kb, .int .i64 ov, .int .i64 sz] 32)
      have T1 := hide' (tbq_new (b := wr.heap.size) HT.out bN (Nat.le_refl _) (by simp))
      have K1 := hide' (cells_lit wr #[.int .i64 wt, .string kb, .int .i64 ov, .int .i64 sz] 32)
      have R1 := hide' (cells_below HR.out bN)
      obtain ⟨bo, hbo⟩ : ∃ bo, bo = wr.heap.size := ⟨_, rfl⟩
      have HBO := hide' hbo
      rw [← hbo] at T1 K1
      have CP := hide' (putQ T1.out (by omega) ⟨key, ov, sz⟩ kb HKD.out.symm hks)
      simp only at CP
      clear KP hkl hop hkb bN hbo HT HR
      go_wp2_with fail
      rw [← HBO.out]
      refine CP.out.mono ?_
      rintro e w4 ⟨gv, rfl, g4, t4, k4, z4⟩
      have K4' := hide' (keepQ_blk K1.out k4 (by simp) z4)
      have R4 := hide' (keepQ_blk R1.out k4 (by simp) z4)
      obtain ⟨d1, d2, d3⟩ : w4.cell? ⟨bo, 1, none⟩ = some (.string kb) ∧ w4.cell? ⟨bo, 2, none⟩ = some (.int .i64 ov) ∧ w4.cell? ⟨bo, 3, none⟩ = some (.int .i64 sz) := ⟨(K4'.out.1 1 (by simp)).1, (K4'.out.1 2 (by simp)).1, (K4'.out.1 3 (by simp)).1⟩
      obtain ⟨r0, r1⟩ : w4.cell? ⟨qr, 0, none⟩ = some (.int .i64 rm) ∧ w4.cell? ⟨qr, 1, none⟩ = some (.slice ra rn rc) := ⟨(R4.out.1 0 (by simp)).1, (R4.out.1 1 (by simp)).1⟩
      have hlen := tbq_len T1.out
      have CF := hide' (refPutQ t4 ⟨key, ov, sz⟩ (by omega) (tbq_ok T1.out))
      simp only at CF
      rw [← HKB.out] at CF
      obtain ⟨l2, hl2⟩ : ∃ l2, l2 = putT rm l ⟨key, ov, sz⟩ := ⟨_, rfl⟩
      rw [← hl2] at CF
      have G4 := hide' g4
      have hgl : (putG rm l ⟨key, ov, sz⟩).length ≤ 1000 := by
        unfold putG
        split
        · unfold goneT
          rw [List.length_map, List.length_reverse, List.length_drop]
          have := (with_sub l key).length_le
          simp only
          omega
        · simp
      generalize putG rm l ⟨key, ov, sz⟩ = G at *
      clear CP t4 k4 z4 g4 hl2
      go_wp2_with fail
      refine CF.out.mono ?_
      rintro e w5 ⟨a5, n5, c5, gv2, rfl, t5, _, b5⟩
      have R5 := hide' (cells_below R4.out b5)
      have G5 := hide' (ownT_apart (S := fun _ => False) G4.out (off_of b5) (fun _ _ e => e))
      have hqm : qr ∈ gv.ownBlock.toList ++ [bo, qr] := by simp
      have hqb : qr < (wr.alloc (.cells #[.int .i64 wt, .string kb, .int .i64 ov, .int .i64 sz] 32)).heap.size := R1.out.2
      obtain ⟨w6, hw6⟩ : ∃ w6, w6 = ((w5.setCell ⟨qr, 0, none⟩ (.int .i64 rm)).setCell ⟨qr, 1, none⟩ (.slice a5 n5 c5)).alloc (.cells #[.int .i64 rm, .slice a5 n5 c5] 28) := ⟨_, rfl⟩
      have HW6 := hide' hw6
      have T6 : Hid (TbQ w g rm l2 (i + 1) (gv.ownBlock.toList ++ [bo, qr]) (.slice a5 n5 c5) l2 w6) := by
        rw [hw6]; exact tbq_below (tbq_poke (tbq_poke t5 hqm) hqm) (below_alloc' _ _)
      have R6 : Hid (Blk qr w6 [.int .i64 rm, .slice a5 n5 c5]) := by
        rw [hw6]
        have := cells_below (cells_set (cells_set R5.out (j := 0) (by simp) (.int .i64 rm)) (j := 1) (by simp) (.slice a5 n5 c5)) (below_alloc' _ (.cells #[.int .i64 rm, .slice a5 n5 c5] 28))
        simpa [Hid] using this
      have G6 : Hid (OwnT (wr.alloc (.cells #[.int .i64 wt, .string kb, .int .i64 ov, .int .i64 sz] 32)).heap.size gv G w6) := by
        rw [hw6]
        have po : Off (fun k => k = qr) w5 ((w5.setCell ⟨qr, 0, none⟩ (.int .i64 rm)).setCell ⟨qr, 1, none⟩ (.slice a5 n5 c5)) := Off.trans (off_poke (S := fun k => k = qr) ⟨qr, 0, none⟩ rfl _) (off_poke (S := fun k => k = qr) ⟨qr, 1, none⟩ rfl _) (fun i e => .inl e)
        exact ownT_off (S := fun _ => False) (ownT_off G5.out po (fun k e => by rw [e]; exact hqb)) (off_of (below_alloc' _ _)) (fun k e => e.elim)
      obtain ⟨x0, x1, xf0, xf1⟩ : w5.cell? ⟨qr, 0, none⟩ = some (.int .i64 rm) ∧ w5.cell? ⟨qr, 1, none⟩ = some (.slice ra rn rc) ∧ w5.frozen? ⟨qr, 0, none⟩ = false ∧ w5.frozen? ⟨qr, 1, none⟩ = false := ⟨(R5.out.1 0 (by simp)).1, (R5.out.1 1 (by simp)).1, (R5.out.1 0 (by simp)).2, (R5.out.1 1 (by simp)).2⟩
      have hql := R5.out.2
      have CK := hide' (keysQ T6.out (by omega))
      clear CF t5 b5 d1 d2 d3 r0 r1 hw6 hqm
      go_wp2_with fail
      rw [← HW6.out]
      clear x0 x1 xf0 xf1
      refine CK.out.mono ?_
      rintro e w7 ⟨kv, rfl, o7⟩
      have T7 := tbq_row T6.out o7
      have R7 := cells_below R6.out o7.2
      have g7 := ownT_apart (S := fun _ => False) G6.out (off_of o7.2) (fun _ _ e => e)
      have k7 : OwnT w6.heap.size kv (keysT l2) w7 := o7.1
      obtain ⟨ga, gc, eg⟩ := ownT_len g7
      obtain ⟨ka, kc, ek⟩ := ownT_len k7
      have hnk : (keysT l2).length ≤ 1000 := by rw [keys_len]; have := tbq_len T7; omega
      generalize G.length = ng at *
      generalize (keysT l2).length = nk at *
      subst eg ek
      obtain ⟨Q, hQ⟩ : ∃ Q, Q = (Value.slice ka nk kc).ownBlock.toList ++ ((Value.slice ga ng gc).ownBlock.toList ++ [bo, qr]) := ⟨_, rfl⟩
      have PG := hide' (pokV_own (Q := Q) g7 (fun b e => by rw [hQ]; simp [e]) hqb).2
      have PK := hide' (pokV_own (Q := Q) (qr := qr) k7 (fun b e => by rw [hQ]; simp [e]) R6.out.2).2
      rw [← hQ] at T7
      have hqQ : Hid (qr ∈ Q) := by unfold Hid; rw [hQ]; simp
      have HT7 := hide' T7
      have HR7 := hide' R7
      clear CK o7 T7 R7 g7 k7 hQ hqb T6 R6 G6 R5 G5 R4 K4' R1 K1 T1
      go_wp2_with fail
      go_loopw [15] (fun jv wz => ∃ j : Nat, j ≤ ng ∧ jv = .int .i64 j ∧ Hid (TbQ w g rm l2 (i + 1) Q (.slice a5 n5 c5) l2 wz) ∧ Hid (Blk qr wz [.int .i64 rm, .slice a5 n5 c5]) ∧ Hid (PokV ga ng Q qr wz) ∧ Hid (PokV ka nk Q qr wz)) (fun jv _ => ng - (intOf jv).toNat)
      case atStart => exact ⟨0, by omega, rfl, HT7, HR7, PG, PK⟩
      case round =>
        obtain ⟨j, hj, rfl, HTz, HRz, HGz, HKz⟩ := hrel
        by_cases hjl : j < ng
        · obtain ⟨b8, rfl, hbQ, hbq, hpk⟩ := HGz.out (by omega)
          obtain ⟨⟨x8, hx8⟩, hf8⟩ := hpk j hjl
          have T9 := hide' (tbq_poke (o := j) (v := .string ⟨#[109, 97, 114, 107]⟩) HTz.out hbQ)
          have R9 := hide' (cells_other (o := j) HRz.out (fun e => hbq e.symm) (.string ⟨#[109, 97, 114, 107]⟩))
          have G9 := hide' (pokV_set HGz.out b8 j (.string ⟨#[109, 97, 114, 107]⟩))
          have K9 := hide' (pokV_set HKz.out b8 j (.string ⟨#[109, 97, 114, 107]⟩))
          clear hpk hbQ
          go_wp2_with fail
          go_roundw
          case rel => exact ⟨j + 1, by omega, by go_num, T9, R9, G9, K9⟩
          case measure => simp [intOf]; omega
        · go_wp2_with fail
          go_loopw [16] (fun jv wz => ∃ j : Nat, j ≤ nk ∧ jv = .int .i64 j ∧ Hid (TbQ w g rm l2 (i + 1) Q (.slice a5 n5 c5) l2 wz) ∧ Hid (Blk qr wz [.int .i64 rm, .slice a5 n5 c5]) ∧ Hid (PokV ka nk Q qr wz)) (fun jv _ => nk - (intOf jv).toNat)
          case atStart => exact ⟨0, by omega, rfl, HTz, HRz, HKz⟩
          case round =>
            obtain ⟨j2, hj2, rfl, HTy, HRy, HKy⟩ := hrel
            by_cases hjl2 : j2 < nk
            · obtain ⟨b8, rfl, hbQ, hbq, hpk⟩ := HKy.out (by omega)
              obtain ⟨⟨x8, hx8⟩, hf8⟩ := hpk j2 hjl2
              have T9 := hide' (tbq_poke (o := j2) (v := .string ⟨#[109, 97, 114, 107]⟩) HTy.out hbQ)
              have R9 := hide' (cells_other (o := j2) HRy.out (fun e => hbq e.symm) (.string ⟨#[109, 97, 114, 107]⟩))
              have K9 := hide' (pokV_set HKy.out b8 j2 (.string ⟨#[109, 97, 114, 107]⟩))
              clear hpk hbQ
              go_wp2_with fail
              go_roundw
              case rel => exact ⟨j2 + 1, by omega, by go_num, T9, R9, K9⟩
              case measure => simp [intOf]; omega
            · have T10 := hide' (tbq_sub HTy.out (q' := [qr]) (fun k hk => by rw [List.mem_singleton.1 hk]; exact hqQ.out))
              go_wp2_with fail
              go_roundw
              case rel => exact ⟨i + 1, l2, a5, n5, c5, by omega, by go_num, T10, HRy⟩
              case measure => simp [intOf]; omega
    · have CK : Hid (∀ W, Below wr.heap.size wr W → Calls Try.prog 23 #[.pointer (some ⟨g, 0, none⟩)] W fun e W' => ∃ kv, e = .returned kv ∧ Hid (OwnS W kv (keysT l) W' ∧ Below wr.heap.size wr W') ∧ W'.cell? ⟨qr, 0, none⟩ = some (.int .i64 rm) ∧ W'.cell? ⟨qr, 1, none⟩ = some (.slice ra rn rc)) := fun W hW => by
        refine (keysQ (tbq_below HT.out hW) (by omega)).mono ?_
        rintro e W' ⟨kv, rfl, ho⟩
        have hb := hW.trans (ho.2.mono hW.size)
        have hk := cells_below HR.out hb
        exact ⟨kv, rfl, ⟨ho, hb⟩, (hk.1 0 (by simp)).1, (hk.1 1 (by simp)).1⟩
      have hll := tbq_len HT.out
      have CF : Hid (∀ W, Below wr.heap.size wr W → Calls Try.prog 24 #[.agg #[.int .i64 rm, .slice ra rn rc]] W fun e W' => ∃ kv, e = .returned kv ∧ Hid (OwnS W kv (keysT l) W' ∧ Below wr.heap.size wr W') ∧ W'.cell? ⟨qr, 0, none⟩ = some (.int .i64 rm) ∧ W'.cell? ⟨qr, 1, none⟩ = some (.slice ra rn rc)) := fun W hW => by
        refine (keysRefC rm (.slice ra rn rc) l W (tbq_holds (tbq_below HT.out hW)) (by omega)).mono ?_
        rintro e W' ⟨kv, rfl, ho⟩
        have hb := hW.trans (ho.2.mono hW.size)
        have hk := cells_below HR.out hb
        exact ⟨kv, rfl, ⟨ho, hb⟩, (hk.1 0 (by simp)).1, (hk.1 1 (by simp)).1⟩
      have CS : Hid (∀ W0 W1 k1 k2 W, OwnS W0 k1 (keysT l) W1 → Below W1.heap.size W1 W → OwnS W1 k2 (keysT l) W → Below wr.heap.size wr W → Calls Try.prog 15 #[k1, k2] W fun e W' => e = .returned (.bool true) ∧ Hid (Below wr.heap.size wr W') ∧ W'.cell? ⟨qr, 0, none⟩ = some (.int .i64 rm) ∧ W'.cell? ⟨qr, 1, none⟩ = some (.slice ra rn rc)) := fun W0 W1 k1 k2 W h1 h2 h3 h4 => by
        refine (sameTexts k1 k2 (keysT l) (keysT l) W (holds_mono (holds_own h1) h2) (holds_own h3) (by rw [keys_len]; omega) (by rw [keys_len]; omega)).mono ?_
        rintro e W' ⟨rfl, m, ew⟩
        have hb : Below wr.heap.size wr W' := by rw [ew]; exact below_drawn h4 m
        have hk := cells_below HR.out hb
        exact ⟨by simp, hb, (hk.1 0 (by simp)).1, (hk.1 1 (by simp)).1⟩
      obtain ⟨r0, r1⟩ : wr.cell? ⟨qr, 0, none⟩ = some (.int .i64 rm) ∧ wr.cell? ⟨qr, 1, none⟩ = some (.slice ra rn rc) := ⟨(HR.out.1 0 (by simp)).1, (HR.out.1 1 (by simp)).1⟩
      have hql := HR.out.2
      have BB := hide' (tbq_bel HT.out)
      go_wp2_with fail
      go_region_held3 (fun w' => w'.cell? ⟨qr, 0, none⟩ = some (.int .i64 rm) ∧ w'.cell? ⟨qr, 1, none⟩ = some (.slice ra rn rc)) (go_keep)
        (first
          | (go_at_call 23; refine (CK.out _ ?_).mono ?_; (first | exact (Below.refl _ _).drew | exact Below.refl _ _); rintro e w5 ⟨k5, rfl, O5, x50, x51⟩)
          | (go_at_call 24; refine (CF.out _ O5.out.2).mono ?_; rintro e w6 ⟨k6, rfl, O6, x60, x61⟩)
          | (go_at_call 15; refine (CS.out _ _ _ _ _ O5.out.1 O6.out.1.2 O6.out.1 O6.out.2).mono ?_; rintro e w7 ⟨rfl, B7, x70, x71⟩))
      go_wp2_with fail
      go_ret
      exact ⟨rfl, BB.out.trans (B7.out.mono BB.out.size)⟩
end Go.Proofs.Ytikkmnclcbanfaa
