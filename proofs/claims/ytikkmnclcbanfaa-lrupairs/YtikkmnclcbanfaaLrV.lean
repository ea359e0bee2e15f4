/- The document's table: Put. -/
import Derived.Test.YtikkmnclcbanfaaLrU
import Derived.Test.YtikkmnclcbanfaaLrDI
import Derived.Deep.RegionHeld3
namespace Go.Proofs.Ytikkmnclcbanfaa
open Go.RowKit Go.Maps Go.WideMaps
/-- one text appended: what else there is is as it was -/
theorem appT2 {ops : Array Oper} {rest : List Oper} {o : Oper} {a : Act} {Q : Exit → Act → World → Prop} {wr : World} {t : ByteArray} (hgd : o.guard = none) (s x : Operand)
    (ho : o.op = .call { callee := .builtin .append, args := #[s, x], argTypes := #[36, 36] }) (base : Nat) (hbase : base ≤ wr.heap.size) (v : Value) (ss : List Nm) (hs : a.eval s = v) (hown : OwnT base v ss wr)
    (l : Nm) (ht : t = ⟨l.toArray⟩) (hx : a.eval x = .slice (some ⟨wr.heap.size, 0, none⟩) 1 1) (hlen : (ss.length + 1) * 16 ≤ 140737488355328)
    (h : ∀ v' w', OwnT base v' (ss ++ [l]) w' → Off (fun k => v.ownBlock = some k) wr w' → wpList Try.prog ops Q rest (a.put o.dst v') w') : wpList Try.prog ops Q (o :: rest) a (wr.alloc (.cells #[.string t] 9)) := by
  subst ht
  obtain ⟨i0, hi, hz0, hz1, hz2⟩ := info_parts Try.info9
  refine wpList_append_own _ hgd s x 36 ho base 9 i0 (.string ⟨#[]⟩) 1 16 Try.underlying36 hi hz0 hz1 hz2 rfl (by decide) v ss.length (ss.map S) hs (World.ownsRow.alloc hown _) ⟨wr.heap.size, 0, none⟩ 1 1 [S l] hx rfl ?_ ?_ ?_ ?_ ?_ ?_
  · intro j u hj
    match j, hj with
    | 0, hj => simp at hj; subst hj; simp [Addr.add, S]
  · intro u hu; simp at hu; subst hu; rfl
  · unfold maxLen; omega
  · omega
  · simp; omega
  · intro v' w' h1 h2 _
    exact h v' w' (by unfold OwnT; simpa using h1) (Off.trans (off_alloc _) (off_grown (S := fun k => v.ownBlock = some k) h2 (fun k e => e)) (fun i e => .inl e))
theorem row_types {w : World} {b1 b2 k1 k2 n1 n2 : Nat} {t1 t2 : TypeId} {v1 v2 : Value} {c1 c2 : List Value} (h1 : w.ownsRow b1 t1 k1 v1 n1 c1) (h2 : w.ownsRow b2 t2 k2 v2 n2 c2) (ht : t1 ≠ t2) : ∀ k, v1.ownBlock = some k → ¬ v2.ownBlock = some k := by
  intro k e1 e2
  obtain ⟨_, ⟨q, _⟩ | ⟨g, cap, cur, q, _, hg, _⟩⟩ := h1
  · rw [q] at e1; simp [Value.ownBlock] at e1
  · obtain ⟨_, ⟨q2, _⟩ | ⟨g2, cap2, cur2, q2, _, hg2, _⟩⟩ := h2
    · rw [q2] at e2; simp [Value.ownBlock] at e2
    · rw [q] at e1; rw [q2] at e2
      simp only [Value.ownBlock, Option.some.injEq] at e1 e2
      subst e1 e2
      rw [hg] at hg2
      simp only [Option.some.injEq, Obj.cells.injEq] at hg2
      exact ht hg2.2.1
/-- the loop's state -/
structure PutI (w : World) (room : Int) (l1 : IL) (j : Nat) (gv : Value) (a : Option Addr) (c : Nat) (wr : World) : Prop where
  box : Blk w.heap.size wr [.int .i64 room, .slice a j c]
  res : Blk (w.heap.size + 1) wr [.int .i64 0, .slice none 0 0]
  row : RowI (w.heap.size + 1 + 1) (.slice a j c) (l1.take j) wr
  gone : OwnT (w.heap.size + 1 + 1) gv (goneT l1 j) wr
  bel : Below w.heap.size w wr
  sz : w.heap.size + 1 + 1 ≤ wr.heap.size
theorem putI_below {w : World} {room : Int} {l1 : IL} {j : Nat} {gv : Value} {a : Option Addr} {c : Nat} {wr w' : World} (h : PutI w room l1 j gv a c wr) (hb : Below wr.heap.size wr w') : PutI w room l1 j gv a c w' :=
  ⟨cells_below h.box hb, cells_below h.res hb, rowI_off (T := fun _ => False) h.row (off_of hb) (fun _ _ e => e), ownT_apart (S := fun _ => False) h.gone (off_of hb) (fun _ _ e => e), h.bel.trans (hb.mono (by have := h.sz; omega)), Nat.le_trans h.sz hb.size⟩
/-- one goes: its key told, the table without it -/
theorem putI_step {w : World} {room : Int} {l1 : IL} {i : Nat} {gv gv' : Value} {a a' : Option Addr} {c n' c' : Nat} {wr w3 w4 : World} (h : PutI w room l1 (i + 1) gv a c wr) (hi : i < l1.length) (ho : (keysT l1).Nodup) (hg : OwnT (w.heap.size + 1 + 1) gv' (goneT l1 (i + 1) ++ [l1[i].key]) w3) (h3 : Off (fun k => gv.ownBlock = some k) wr w3)
    (h4 : OwnI w3 (.slice a' n' c') (withT (l1.take (i + 1)) l1[i].key) w4) : n' = i ∧ PutI w room l1 i gv' a' c' ((w4.setCell ⟨w.heap.size, 0, none⟩ (.int .i64 room)).setCell ⟨w.heap.size, 1, none⟩ (.slice a' i c')) := by
  have gl := ownT_lt h.gone
  have n0 : ¬ gv.ownBlock = some w.heap.size := fun e => by have := (gl _ e).1; omega
  have n1 : ¬ gv.ownBlock = some (w.heap.size + 1) := fun e => by have := (gl _ e).1; omega
  have s3 := h3.size
  have s4 := h4.2.size
  have s0 := h.sz
  have ew : withT (l1.take (i + 1)) l1[i].key = l1.take i := by
    have hn : (keysT (l1.take (i + 1))).Nodup := ho.sublist ((List.take_sublist _ _).map _)
    rw [List.take_succ_eq_append_getElem hi] at hn ⊢
    unfold withT
    rw [List.filter_append]
    have e1 : List.filter (fun x : ItI => decide (x.key ≠ l1[i].key)) [l1[i]] = [] := by simp
    rw [e1, List.append_nil]
    refine with_id (fun hm => ?_)
    unfold keysT at hn
    rw [List.map_append] at hn
    exact (List.nodup_append.1 hn).2.2 _ hm _ (by simp) rfl
  rw [ew] at h4
  have hn' : n' = i := by
    obtain ⟨x, y, e⟩ := ownI_sl h4
    simp only [Value.slice.injEq] at e
    rw [e.2.1, List.length_take]; omega
  subst hn'
  rw [gone_stepI hi] at hg
  have b3 := blk_off h.box h3 n0
  have b4 := cells_below b3 h4.2
  have r3 := blk_off h.res h3 n1
  have r4 := cells_below r3 h4.2
  have p1 : Off (fun k => k = w.heap.size) w4 ((w4.setCell ⟨w.heap.size, 0, none⟩ (.int .i64 room)).setCell ⟨w.heap.size, 1, none⟩ (.slice a' n' c')) := Off.trans (off_poke (S := fun k => k = w.heap.size) ⟨w.heap.size, 0, none⟩ rfl _) (off_poke (S := fun k => k = w.heap.size) ⟨w.heap.size, 1, none⟩ rfl _) (fun i e => .inl e)
  refine ⟨rfl, ?_, ?_, ?_, ?_, ?_, ?_⟩
  · have := cells_set (cells_set b4 (j := 0) (by simp) (.int .i64 room)) (j := 1) (by simp) (.slice a' n' c')
    simpa using this
  · exact blk_off r4 p1 (by omega)
  · have q := row_base (rowI_own h4) (show w.heap.size + 1 + 1 ≤ w3.heap.size by omega)
    exact rowI_off (base := w.heap.size + 1 + 1) q p1 (fun k e e2 => by have := (rowI_lt (base := w.heap.size + 1 + 1) q k e).1; omega)
  · have q := ownT_apart (S := fun _ => False) hg (off_of h4.2) (fun _ _ e => e)
    exact ownT_apart q p1 (fun k e e2 => by have := (ownT_lt q k e).1; omega)
  · have q1 : Below w.heap.size w w3 := h.bel.trans ⟨h3.os, h3.tape, h3.output, h3.size, fun k hk => h3.block k (by omega) (fun e => by have := (gl _ e).1; omega)⟩
    exact ((q1.trans (h4.2.mono (by omega))).setCell (Nat.le_refl _) _).setCell (Nat.le_refl _) _
  · simp; omega
set_option maxRecDepth 20000 in
set_option maxHeartbeats 8000000 in
theorem putRefC (room : Int) (v : Value) (l : IL) (p : ItI) (w : World) (h : HoldsI w v l) (hn : l.length ≤ 100000) (hok : TOk room l) :
    Calls Try.prog 14 #[.agg #[.int .i64 room, v], .string ⟨p.key.toArray⟩, .int .i64 p.v, .int .i64 p.size] w fun e w' => ∃ a n c gv, e = .returned (.tuple #[.agg #[.int .i64 room, .slice a n c], gv, .bool (putOk room p.size)]) ∧ (∀ T : Nat → Prop, (∀ k, T k → k < w.heap.size) → HoldsI (mask T w) v l → HoldsI (mask T w') (.slice a n c) (putT room l p)) ∧ OwnT w.heap.size gv (putG room l p) w' ∧ Below w.heap.size w w' := by
  obtain ⟨a, cap, rfl, hat⟩ := holdsI_at h
  obtain ⟨n, hN⟩ : ∃ n, n = l.length := ⟨_, rfl⟩
  have HN := hide' hN
  obtain ⟨w1, hw1⟩ : ∃ w1, w1 = (w.alloc (.cells #[.int .i64 room, .slice a l.length cap] 28)).alloc (.cells #[.int .i64 0, .slice none 0 0] 28) := ⟨_, rfl⟩
  have k0 : Blk w.heap.size w1 [.int .i64 room, .slice a l.length cap] := by rw [hw1]; exact cells_below (cells_lit w #[.int .i64 room, .slice a l.length cap] 28) (below_alloc' _ _)
  have k1 : Blk (w.heap.size + 1) w1 [.int .i64 0, .slice none 0 0] := by
    rw [hw1]
    have := cells_lit (w.alloc (.cells #[.int .i64 room, .slice a l.length cap] 28)) #[.int .i64 0, .slice none 0 0] 28
    simpa using this
  have hz : w1.heap.size = w.heap.size + 1 + 1 := by rw [hw1]; simp
  have LB : Hid (Below w.heap.size w w1) := by rw [hw1]; exact (below_alloc' _ _).trans ((below_alloc' _ _).mono (by simp))
  have hrm := hok.rm
  by_cases hp : 0 ≤ p.size ∧ p.size ≤ room
  · have hpo : putOk room p.size = true := decide_eq_true hp
    have HPT : Hid (putT room l p = p :: (withT l p.key).take (fitT (withT l p.key) (room - p.size)) ∧ putG room l p = goneT (withT l p.key) (fitT (withT l p.key) (room - p.size))) := by
      unfold Hid putT putG; rw [hpo]; exact ⟨rfl, rfl⟩
    have hok1 := tok_sub hok (with_sub l p.key)
    have hkn := with_key l p.key
    have CW := hide' (withoutRefC room (.slice a l.length cap) l p.key w1 (holdsI_mono h LB.out) (by omega))
    have hl1 : (withT l p.key).length ≤ 100000 := by have := (with_sub l p.key).length_le; omega
    rw [hpo]
    generalize withT l p.key = l1 at *
    have HOK := hide' hok1
    have HKN := hide' hkn
    rw [← hN] at hn k0 hw1 CW ⊢
    have K0 := hide' k0
    have K1 := hide' k1
    have HW1 := hide' hw1
    obtain ⟨N, hNN⟩ : ∃ N, N = l1.length := ⟨_, rfl⟩
    have HNN := hide' hNN
    rw [← hNN] at hl1
    have q1 : decide (p.size < 0) = false := by rw [decide_eq_false_iff_not]; omega
    have q2 : decide (room < p.size) = false := by rw [decide_eq_false_iff_not]; omega
    obtain ⟨kb, hkb⟩ : ∃ kb : ByteArray, kb = ⟨p.key.toArray⟩ := ⟨_, rfl⟩
    have HKB := hide' hkb
    rw [← hkb] at CW ⊢
    have c00 := (k0.1 0 (by simp)).1
    have c01 := (k0.1 1 (by simp)).1
    simp only [List.getElem_cons_zero, List.getElem_cons_succ] at c00 c01
    clear h hat hN hok hok1 hkn k0 k1 hw1 hNN hkb hpo
    go_enter Try.func14, Try.ntmps14
    go_wp2_with fail
    rw [← HW1.out]
    refine CW.out.mono ?_
    rintro e w2 ⟨a2, n2, c2, rfl, ho⟩
    have hn2 : n2 = N := by
      obtain ⟨x, y, e⟩ := ownI_sl ho
      simp only [Value.slice.injEq] at e
      rw [e.2.1, HNN.out]
    subst hn2
    have B0 := cells_below K0.out ho.2
    have e00 := (B0.1 0 (by simp)).1
    have e01 := (B0.1 1 (by simp)).1
    have g00 := (B0.1 0 (by simp)).2
    have g01 := (B0.1 1 (by simp)).2
    simp only [List.getElem_cons_zero, List.getElem_cons_succ] at e00 e01
    have hz2 := ho.2.size
    have ST : Hid (PutI w room l1 n2 (.slice (some ⟨w2.heap.size, 0, none⟩) 0 0) a2 c2 (((w2.setCell ⟨w.heap.size, 0, none⟩ (.int .i64 room)).setCell ⟨w.heap.size, 1, none⟩ (.slice a2 n2 c2)).alloc (.cells #[] 9))) := by
      have hz3 : ((w2.setCell ⟨w.heap.size, 0, none⟩ (.int .i64 room)).setCell ⟨w.heap.size, 1, none⟩ (.slice a2 n2 c2)).heap.size = w2.heap.size := by simp
      have bb := below_alloc' ((w2.setCell ⟨w.heap.size, 0, none⟩ (.int .i64 room)).setCell ⟨w.heap.size, 1, none⟩ (.slice a2 n2 c2)) (.cells #[] 9)
      have et : l1.take n2 = l1 := List.take_of_length_le (by rw [← HNN.out]; exact Nat.le_refl _)
      refine ⟨?_, ?_, ?_, ?_, ?_, ?_⟩
      · have := cells_below (cells_set (cells_set B0 (j := 0) (by simp) (.int .i64 room)) (j := 1) (by simp) (.slice a2 n2 c2)) bb
        simpa using this
      · exact cells_below (cells_other (cells_other (cells_below K1.out ho.2) (by omega) _) (by omega) _) bb
      · rw [et]
        have q := row_poke (b := w.heap.size) (o := 1) (x := .slice a2 n2 c2) (row_poke (b := w.heap.size) (o := 0) (x := .int .i64 room) ho.1 (by omega)) (by omega)
        exact row_base (row_below q bb) (by omega)
      · have q := (ownS_empty ((w2.setCell ⟨w.heap.size, 0, none⟩ (.int .i64 room)).setCell ⟨w.heap.size, 1, none⟩ (.slice a2 n2 c2))).1
        rw [hz3] at q
        have e : goneT l1 n2 = [] := by unfold goneT; rw [HNN.out, List.drop_length]; rfl
        rw [e]
        exact row_base q (by omega)
      · exact (((LB.out.trans (ho.2.mono (by omega))).setCell (Nat.le_refl _) _).setCell (Nat.le_refl _) _).alloc (by simp; omega) _
      · simp; omega
    clear ho B0 CW c00 c01
    go_wp2_with fail
    clear e00 e01 g00 g01
    go_loopw [11, 12] (fun gv _ wr => ∃ (j : Nat) (aj : Option Addr) (cj : Nat), j ≤ n2 ∧ lenS gv = n2 - j ∧ Hid (PutI w room l1 j gv aj cj wr) ∧ Hid (fitN l1 (room - p.size) j = fitT l1 (room - p.size))) (fun gv _ _ => n2 - lenS gv)
    case atStart => exact ⟨n2, a2, c2, Nat.le_refl _, by simp [lenS], ST, by unfold Hid fitT; rw [HNN.out]⟩
    case round =>
      obtain ⟨j, aj, cj, hj, hlen, HP, HF⟩ := hrel
      have d00 := (HP.out.box.1 0 (by simp)).1
      have d01 := (HP.out.box.1 1 (by simp)).1
      simp only [List.getElem_cons_zero, List.getElem_cons_succ] at d00 d01
      have hdl := HP.out.box.2
      have hjt : (l1.take j).length = j := by rw [List.length_take, ← HNN.out]; omega
      have hu0 := used_pos (l := l1.take j) (fun x hx => HOK.out.pos x (List.mem_of_mem_take hx))
      have hu1 := used_sub (List.take_sublist j l1) HOK.out.pos
      have hu2 := HOK.out.fit
      have CU : Hid (∀ W, Below wr.heap.size wr W → Calls Try.prog 22 #[.agg #[.int .i64 room, .slice aj j cj]] W fun e w' => e = .returned (.int .i64 (usedT (l1.take j))) ∧ Hid (Below wr.heap.size wr w') ∧ w'.cell? ⟨w.heap.size, 0, none⟩ = some (.int .i64 room) ∧ w'.cell? ⟨w.heap.size, 1, none⟩ = some (.slice aj j cj)) := fun W hb => by
        refine (usedRefC room _ (l1.take j) W (holdsI_mono (rowI_holds HP.out.row) hb) (fun x hx => HOK.out.pos x (List.mem_of_mem_take hx)) (by omega) (by omega)).mono ?_
        rintro e w' ⟨rfl, b'⟩
        have bb := hb.trans (b'.mono hb.size)
        exact ⟨rfl, bb, by rw [bb.cell (p := ⟨w.heap.size, 0, none⟩) hdl]; exact d00, by rw [bb.cell (p := ⟨w.heap.size, 1, none⟩) hdl]; exact d01⟩
      have HU3 := hide' (And.intro hu1 hu2)
      by_cases hcase : usedT (l1.take j) ≤ room - p.size
      · have hft : Hid (j = fitT l1 (room - p.size)) := by unfold Hid; rw [← HF.out]; exact (fitN_stop hcase).symm
        have hq : ¬ (room - p.size < usedT (l1.take j)) := by omega
        have hub : usedT (l1.take j) ≤ 1073741824 := by omega
        have hwr : IntKind.i64.wrap (room - p.size) = room - p.size := by rw [IntKind.wrap_i64]; omega
        generalize usedT (l1.take j) = u at *
        clear hu1 hu2 hcase
        go_wp2_with fail
        go_region_held3 (fun w' => w'.cell? ⟨w.heap.size, 0, none⟩ = some (.int .i64 room) ∧ w'.cell? ⟨w.heap.size, 1, none⟩ = some (.slice aj j cj)) (go_keep)
          (first
            | (go_at_call 22; refine (CU.out _ ?_).mono ?_; (first | exact (Below.refl _ _).drew | exact Below.refl _ _); rintro e w5 ⟨rfl, B5, x0, x1⟩))
        have P5 := hide' (putI_below HP.out B5.out)
        have CF := hide' (firstRefC room (.slice aj j cj) (l1.take j) p w5 (rowI_holds P5.out.row) (by omega))
        rw [← HKB.out] at CF
        go_wp2_with fail
        refine CF.out.mono ?_
        rintro e w6 ⟨a6, n6, c6, rfl, ho6⟩
        have R6 := cells_below P5.out.res ho6.2
        have y0 := (R6.1 0 (by simp)).1
        have y1 := (R6.1 1 (by simp)).1
        have yf0 := (R6.1 0 (by simp)).2
        have yf1 := (R6.1 1 (by simp)).2
        simp only [List.getElem_cons_zero, List.getElem_cons_succ] at y0 y1
        have F2 := cells_set (cells_set R6 (j := 0) (by simp) (.int .i64 room)) (j := 1) (by simp) (.slice a6 n6 c6)
        have r0 := (F2.1 0 (by simp)).1
        have r1 := (F2.1 1 (by simp)).1
        simp only [List.set_cons_zero, List.set_cons_succ, List.getElem_cons_zero, List.getElem_cons_succ] at r0 r1
        have Z0 := hide' r0
        have Z1 := hide' r1
        have H6 := hide' ho6
        clear ho6 R6 F2 r0 r1
        go_wp2_with fail
        have ek : withT (l1.take j) p.key = l1.take j := with_id (fun hm => HKN.out (by
          obtain ⟨x, hx, e⟩ := List.mem_map.1 hm
          exact List.mem_map.2 ⟨x, List.mem_of_mem_take hx, e⟩))
        refine bodyPost_ret (v := .tuple #[.agg #[.int .i64 room, .slice a6 n6 c6], u11, .bool true]) (by simp [results, Try.results14, go_sem, Z0.out, Z1.out]) rfl ⟨_, _, _, _, rfl, ?_, ?_, ?_⟩
        all_goals
          have o6 := H6.out
          rw [ek] at o6
          have s5 := P5.out.sz
          have s6 := o6.2.size
          have b5 := P5.out.bel
          have p0 := row_poke (b := w.heap.size + 1) (o := 0) (x := .int .i64 room) o6.1 (by omega)
          have p1 := row_poke (b := w.heap.size + 1) (o := 1) (x := .slice a6 n6 c6) p0 (by omega)
          have bw : Below w.heap.size w ((w6.setCell ⟨w.heap.size + 1, 0, none⟩ (.int .i64 room)).setCell ⟨w.heap.size + 1, 1, none⟩ (.slice a6 n6 c6)) := ((b5.trans (o6.2.mono (by omega))).setCell (Nat.le_succ _) _).setCell (Nat.le_succ _) _
        · intro T hT _
          rw [HPT.out.1, ← hft.out]
          exact ownI_mask (w := w) ⟨row_base p1 (by omega), bw⟩ hT
        · rw [HPT.out.2, ← hft.out]
          have q1 := ownT_apart (S := fun _ => False) P5.out.gone (off_of o6.2) (fun _ _ e => e)
          have po : Off (fun k => k = w.heap.size + 1) w6 ((w6.setCell ⟨w.heap.size + 1, 0, none⟩ (.int .i64 room)).setCell ⟨w.heap.size + 1, 1, none⟩ (.slice a6 n6 c6)) := Off.trans (off_poke (S := fun k => k = w.heap.size + 1) ⟨w.heap.size + 1, 0, none⟩ rfl _) (off_poke (S := fun k => k = w.heap.size + 1) ⟨w.heap.size + 1, 1, none⟩ rfl _) (fun i e => .inl e)
          exact ownT_base (ownT_apart q1 po (fun k e e2 => by have := (ownT_lt q1 k e).1; omega)) (by omega)
        · exact bw
      · cases j with
        | zero => exact absurd (by rw [List.take_zero, used_nil]; omega) hcase
        | succ i =>
          have hil : i < l1.length := by rw [← HNN.out]; omega
          have hq : room - p.size < usedT (l1.take (i + 1)) := by omega
          have hub : usedT (l1.take (i + 1)) ≤ 1073741824 := by omega
          have hwr : IntKind.i64.wrap (room - p.size) = room - p.size := by rw [IntKind.wrap_i64]; omega
          have HF2 : Hid (fitN l1 (room - p.size) i = fitT l1 (room - p.size)) := by unfold Hid; rw [← HF.out]; exact (fitN_more hcase).symm
          have HTI : Hid (i < (l1.take (i + 1)).length) := by unfold Hid; omega
          have ETI : Hid ((l1.take (i + 1))[i]'HTI.out = l1[i]) := by unfold Hid; simp
          clear hjt
          generalize usedT (l1.take (i + 1)) = u at *
          clear hu1 hu2 hcase
          go_wp2_with fail
          go_region_held3 (fun w' => w'.cell? ⟨w.heap.size, 0, none⟩ = some (.int .i64 room) ∧ w'.cell? ⟨w.heap.size, 1, none⟩ = some (.slice aj (i + 1) cj)) (go_keep)
            (first
              | (go_at_call 22; refine (CU.out _ ?_).mono ?_; (first | exact (Below.refl _ _).drew | exact Below.refl _ _); rintro e w5 ⟨rfl, B5, x0, x1⟩))
          have P5 := hide' (putI_below HP.out B5.out)
          obtain ⟨a7, c7, e7, hat7⟩ := holdsI_at (rowI_holds P5.out.row)
          obtain ⟨b7, o7, ea7, hb7, z0, _, _⟩ := hat7 i HTI.out
          simp only [Value.slice.injEq] at e7
          obtain ⟨e7a, -, -⟩ := e7
          rw [ea7] at e7a
          subst e7a
          rw [ETI.out] at z0
          unfold S at z0
          have hgl : (goneT l1 (i + 1)).length = n2 - (i + 1) := by unfold goneT; rw [List.length_map, List.length_reverse, List.length_drop, ← HNN.out]
          have HGL := hide' hgl
          obtain ⟨lb, hlb⟩ : ∃ lb : ByteArray, lb = ⟨l1[i].key.toArray⟩ := ⟨_, rfl⟩
          rw [← hlb] at z0
          have HLB := hide' hlb
          have hsz5 := P5.out.sz
          have NB : Hid (∀ w6, Off (fun k => u11.ownBlock = some k) w5 w6 → Blk w.heap.size w6 [.int .i64 room, .slice (some ⟨b7, o7, none⟩) (i + 1) cj]) := fun w6 ho => blk_off P5.out.box ho (fun e => by have := (ownT_lt P5.out.gone _ e).1; omega)
          clear hat7 hgl hlb ea7
          go_wp2_with (at_builtin; refine appT2 rfl (.tmp 42) (.tmp 44) rfl (w.heap.size + 1 + 1) hsz5 u11 (goneT l1 (i + 1)) rfl P5.out.gone l1[i].key HLB.out rfl (by rw [HGL.out]; omega) ?_; intro v6 w6 a6 o6; have A6 := hide' a6; have O6 := hide' o6; clear a6 o6; have BX := hide' (NB.out w6 O6.out); have y00 : w6.cell? ⟨w.heap.size, 0, none⟩ = some (.int .i64 room) := (BX.out.1 0 (by simp)).1; have y01 : w6.cell? ⟨w.heap.size, 1, none⟩ = some (.slice (some ⟨b7, o7, none⟩) (i + 1) cj) := (BX.out.1 1 (by simp)).1)
          have RW : HoldsI w6 (.slice (some ⟨b7, o7, none⟩) (i + 1) cj) (l1.take (i + 1)) := rowI_holds (rowI_off P5.out.row O6.out (fun k e => row_types P5.out.row P5.out.gone (by decide) k e))
          have CW2 := hide' (withoutRefC room _ (l1.take (i + 1)) l1[i].key w6 RW (by have := HTI.out; rw [List.length_take]; omega))
          rw [← HLB.out] at CW2
          clear RW
          refine CW2.out.mono ?_
          rintro e w7 ⟨a8, n8, c8, rfl, o8⟩
          obtain ⟨hn8, PS⟩ := putI_step P5.out hil HOK.out.once A6.out O6.out o8
          subst hn8
          have HPS := hide' PS
          have B7 := cells_below BX.out o8.2
          have x00 := (B7.1 0 (by simp)).1
          have x01 := (B7.1 1 (by simp)).1
          have xf0 := (B7.1 0 (by simp)).2
          have xf1 := (B7.1 1 (by simp)).2
          simp only [List.getElem_cons_zero, List.getElem_cons_succ] at x00 x01
          have E6 := hide' (ownT_len A6.out)
          clear PS o8 B7 y00 y01
          go_wp2_with fail
          go_roundw
          case rel =>
            refine ⟨n8, a8, c8, by omega, ?_, HPS, HF2⟩
            obtain ⟨_, _, e9⟩ := E6.out
            rw [e9]
            show (goneT l1 (n8 + 1) ++ [_]).length = n2 - n8
            rw [List.length_append, HGL.out]
            simp
            omega
          case measure =>
            obtain ⟨_, _, e9⟩ := E6.out
            have e8 : lenS v6 = n2 - n8 := by
              rw [e9]
              show (goneT l1 (n8 + 1) ++ [_]).length = n2 - n8
              rw [List.length_append, HGL.out]
              simp
              omega
            first | (rw [e8, hlen]; omega) | (show n2 - lenS v6 < n2 - lenS u11; rw [e8, hlen]; omega)
  · have hpo : putOk room p.size = false := decide_eq_false hp
    have R : Hid (putT room l p = l ∧ putG room l p = []) := by
      unfold Hid putT putG; rw [hpo]; exact ⟨rfl, rfl⟩
    rw [hpo, R.out.1, R.out.2]
    have FB : Hid (∀ T : Nat → Prop, HoldsI (mask T w) (.slice a l.length cap) l → ∀ w', Below w.heap.size w w' → HoldsI (mask T w') (.slice a l.length cap) l) := fun T hh w' hb => holdsI_sub hh (off_mask (S := T) (off_of hb) (fun k e => .inl e))
    clear R k0 k1 h hat hw1 hz LB w1
    by_cases hs0 : p.size < 0
    · have q1 : decide (p.size < 0) = true := decide_eq_true hs0
      go_enter Try.func14, Try.ntmps14
      go_wp2_with fail
      have bw := (below_alloc' w (.cells #[.int .i64 room, .slice a l.length cap] 28)).trans ((below_alloc' (w.alloc (.cells #[.int .i64 room, .slice a l.length cap] 28)) (.cells #[.int .i64 room, .slice a l.length cap] 28)).mono (by simp))
      exact bodyPost_ret (v := .tuple #[.agg #[.int .i64 room, .slice a l.length cap], .slice none 0 0, .bool false]) (by simp [results, Try.results14, go_sem]) rfl ⟨_, _, _, _, rfl, fun T _ hh => FB.out T hh _ bw, ownT_nil _ _, bw⟩
    · have q1 : decide (p.size < 0) = false := decide_eq_false hs0
      have q2 : decide (room < p.size) = true := by rw [decide_eq_true_iff]; omega
      go_enter Try.func14, Try.ntmps14
      go_wp2_with fail
      have bw := (below_alloc' w (.cells #[.int .i64 room, .slice a l.length cap] 28)).trans ((below_alloc' (w.alloc (.cells #[.int .i64 room, .slice a l.length cap] 28)) (.cells #[.int .i64 room, .slice a l.length cap] 28)).mono (by simp))
      exact bodyPost_ret (v := .tuple #[.agg #[.int .i64 room, .slice a l.length cap], .slice none 0 0, .bool false]) (by simp [results, Try.results14, go_sem]) rfl ⟨_, _, _, _, rfl, fun T _ hh => FB.out T hh _ bw, ownT_nil _ _, bw⟩
end Go.Proofs.Ytikkmnclcbanfaa
