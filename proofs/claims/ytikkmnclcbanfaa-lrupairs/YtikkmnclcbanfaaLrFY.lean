/- A table's Put. -/
import Derived.Test.YtikkmnclcbanfaaLrEY
namespace Go.Proofs.Ytikkmnclcbanfaa
open Go.RowKit Go.Maps Go.WideMaps
theorem tab_putY {ns : List (Nat × It (Option Addr × Nat × Nat))} {x : It (Option Addr × Nat × Nat)} {nb : Nat} {nl : NL} (hs : SortedN nl) (h : ∀ k, atN nl k = (ns.find? (fun x => decide (x.2.key = k))).map (fun x => x.1)) : ∀ k, atN (putN nl x.key nb) k = (((nb, x) :: ns).find? (fun x => decide (x.2.key = k))).map (fun x => x.1) := by
  intro k
  have hd := sorted_put hs x.key nb
  rw [List.find?_cons]
  by_cases e : x.key = k
  · have h1 : atN (putN nl x.key nb) k = some nb := at_mem hd (mem_put.2 (.inl (by rw [e])))
    rw [h1]
    simp [e]
  · have h1 : atN (putN nl x.key nb) k = atN nl k := by
      cases h2 : atN nl k with
      | none =>
        cases h3 : atN (putN nl x.key nb) k with
        | none => rfl
        | some b =>
          rcases mem_put.1 (at_some h3) with e2 | e2
          · exact absurd (congrArg Prod.fst e2).symm e
          · exact absurd rfl (at_none h2 _ e2.1)
      | some b => exact at_mem hd (mem_put.2 (.inr ⟨at_some h2, fun e2 => e e2.symm⟩))
    rw [h1, h k]
    simp [e]
/-- behind the new node, the map's new entry, the sum and the join -/
theorem put_endY {U : Nat → Prop} {g m rb c : Nat} {ns : List (Nat × It (Option Addr × Nat × Nat))} {nl : NL} {O N O' N' : Nat → Nat} {room : Int} {x : It (Option Addr × Nat × Nat)} {w3 w5 W7 : World} {v3 v4 : Value} (h : LrY g m rb ns nl O N room w3) (hS : ∀ k, LrSY g m rb ns k → U k) (hlt : ∀ k, U k → k < w3.heap.size)
    (ht : Tbn w5 m (putN nl x.key w3.heap.size)) (hg : (w3.alloc (.cells #[S x.key, .slice x.v.1 x.v.2.1 x.v.2.2, .int .i64 x.size, v3, v4] 82)).grownBy w5 (some m)) (hok : TOk room (x :: ns.map (fun x => x.2)))
    (hr : RgY rb ((w3.heap.size, x) :: ns) O' N' W7) (ho : Off (fun k => k = w3.heap.size ∨ RingSY rb ns k) (w5.setCell ⟨g, 1, none⟩ (.int .i64 (usedT (ns.map (fun x => x.2)) + x.size))) W7) (hc : nl.length ≤ c ∧ ns.length ≤ c) :
    TbY (fun k => U k ∨ k = w3.heap.size) g room (x :: ns.map (fun x => x.2)) (c + 1) W7 ∧ Off U w3 W7 := by
  have o0 : Off (fun _ => False) w3 (w3.alloc (.cells #[S x.key, .slice x.v.1 x.v.2.1 x.v.2.2, .int .i64 x.size, v3, v4] 82)) := off_of (below_alloc' _ _)
  have o1 : Off (fun k => k = m) w3 w5 := Off.trans (o0.mono (fun _ e => e.elim)) (off_grown (S := fun k => k = m) hg (fun k e => (Option.some.inj e).symm)) (fun i e => .inl e)
  have hgl := h.blk.2
  have hml := tbn_lt h.tbl
  have hgr : ¬ (g = w3.heap.size ∨ RingSY rb ns g) := fun e => by
    rcases e with e | e
    · omega
    · exact h.gn e
  have hmr : ¬ (m = w3.heap.size ∨ RingSY rb ns m) := fun e => by
    rcases e with e | e
    · omega
    · exact h.mn e
  have o2 : Off (fun k => k = g) w5 (w5.setCell ⟨g, 1, none⟩ (.int .i64 (usedT (ns.map (fun x => x.2)) + x.size))) := off_poke (S := fun k => k = g) ⟨g, 1, none⟩ rfl _
  have hz : w3.heap.size < W7.heap.size := by
    have h1 := hg.size
    have h2 := ho.size
    simp at h1 h2
    omega
  refine ⟨⟨m, rb, (w3.heap.size, x) :: ns, putN nl x.key w3.heap.size, O', N', ⟨?_, hr, ?_, tab_putY h.srt h.tab, sorted_put h.srt _ _, h.gm, ?_, ?_, hok⟩, rfl, ?_, ?_, ?_, ?_⟩, ?_⟩
  · have k1 := blk_off h.blk o1 h.gm
    have k2 := cells_set k1 (j := 1) (by simp) (.int .i64 (usedT (ns.map (fun x => x.2)) + x.size))
    have k3 := blk_off k2 ho hgr
    rw [List.map_cons, used_cons, Int.add_comm]
    simpa using k3
  · exact tbn_off (tbn_off ht o2 (fun e => h.gm e.symm)) ho hmr
  · intro e
    rcases List.mem_cons.1 e with e | e
    · exact h.gn (by rw [e]; simp)
    · rcases List.mem_cons.1 e with e | e
      · have e' : g = w3.heap.size := e
        omega
      · exact h.gn (List.mem_cons_of_mem _ e)
  · intro e
    rcases List.mem_cons.1 e with e | e
    · exact h.mn (by rw [e]; simp)
    · rcases List.mem_cons.1 e with e | e
      · have e' : m = w3.heap.size := e
        omega
      · exact h.mn (List.mem_cons_of_mem _ e)
  · have := putN_len nl x.key w3.heap.size
    have := hc.1
    omega
  · simp only [List.length_cons, List.length_map]
    have := hc.2
    omega
  · intro k hk
    rcases hk with e | e | e
    · exact .inl (hS k (.inl e))
    · exact .inl (hS k (.inr (.inl e)))
    · rcases List.mem_cons.1 e with e | e
      · exact .inl (hS k (.inr (.inr (by rw [e]; exact List.mem_cons_self))))
      · rcases List.mem_cons.1 e with e | e
        · exact .inr e
        · exact .inl (hS k (.inr (.inr (List.mem_cons_of_mem _ e))))
  · intro k hk
    rcases hk with e | e
    · have := hlt k e
      omega
    · rw [e]; exact hz
  · refine Off.trans (Off.trans (o1.mono (T := U) (fun k e => hS k (.inr (.inl e)))) (o2.mono (T := U) (fun k e => hS k (.inl e))) (fun i e => .inl e)) (ho.mono (T := fun k => U k ∨ k = w3.heap.size) (fun k e => ?_)) (fun i e => ?_)
    · rcases e with e | e
      · exact .inr e
      · exact .inl (hS k (.inr (.inr e)))
    · rcases e with e | e
      · exact .inl e
      · right; omega
set_option maxRecDepth 20000 in
set_option maxHeartbeats 4000000 in
theorem putYC {U : Nat → Prop} {g c : Nat} {room : Int} {l : List (It (Option Addr × Nat × Nat))} {W : World} (h : TbY U g room l c W) (hc : c ≤ 100000) (x : It (Option Addr × Nat × Nat)) (kb : ByteArray) (hk : x.key = kb.data.toList) (hs : kb.size ≤ 140737488351232) :
    Calls Try.prog 28 #[.pointer (some ⟨g, 0, none⟩), .string kb, .slice x.v.1 x.v.2.1 x.v.2.2, .int .i64 x.size] W fun e W' => ∃ gv U', e = .returned (.tuple #[gv, .bool (putOk room x.size)]) ∧ OwnT W.heap.size gv (putG room l x) W' ∧ TbY U' g room (putT room l x) (c + 1) W' ∧ Off U W W' ∧ (∀ k, U k → U' k) ∧ (∀ k, U' k → U k ∨ W.heap.size ≤ k) ∧ ∀ k, gv.ownBlock = some k → ¬ U' k := by
  by_cases hz : 0 ≤ x.size ∧ x.size ≤ room
  · have hp : putOk room x.size = true := decide_eq_true hz
    have HPT : Hid (putT room l x = x :: (withT l x.key).take (fitT (withT l x.key) (room - x.size)) ∧ putG room l x = goneT (withT l x.key) (fitT (withT l x.key) (room - x.size))) := by
      unfold Hid putT putG; rw [hp]; exact ⟨rfl, rfl⟩
    have hok := put_tok (tb_okY h) (x := x) (by rw [hk]; simpa using hs)
    have hrm := (tb_okY h).rm
    have HOK := hide' hok
    have CD := hide' (dropYC h kb hs)
    have HT := hide' h
    have HK := hide' hk
    have HC := hide' hc
    have c0 : W.cell? ⟨g, 0, none⟩ = some (.int .i64 room) := by
      obtain ⟨m, rb, ns, nl, O, N, h1, _⟩ := h
      exact (lr_cellsY h1).1
    rw [hp]
    have q1 : decide (x.size < 0) = false := by rw [decide_eq_false_iff_not]; omega
    have q2 : decide (room < x.size) = false := by rw [decide_eq_false_iff_not]; omega
    clear h hk hok hp
    go_enter Try.func28, Try.ntmps28
    go_wp2_with fail
    refine CD.out.mono ?_
    rintro e W1 ⟨rfl, t1, o1⟩
    have T1 := hide' t1
    have O1 := hide' o1
    have CM := hide' (makeRoomYC t1 x.size hz (by omega))
    clear t1 o1
    go_wp2_with fail
    refine CM.out.mono ?_
    rintro e W2 ⟨gv, rfl, g2, t2, o2⟩
    have G2 := hide' g2
    have T2 := hide' t2
    have O2 := hide' o2
    clear g2 t2 o2
    go_wp2_with fail
    refine (clone kb W2 hs).mono ?_
    rintro e w3 ⟨rfl, b3⟩
    have B3 := hide' b3
    obtain ⟨m, rb, ns, nl, O, N, h1, h2, h3, h4, h5, h6⟩ := tb_belowY T2.out b3
    obtain ⟨d0, d1, d2, d3, f1⟩ := lr_cellsY h1
    have hSk : S x.key = .string kb := by unfold S; rw [HK.out, ba_eta]
    have hgl := h1.blk.2
    have hml := tbn_lt h1.tbl
    have hgm := h1.gm
    have E2 := hide' h2
    have hok2 : TOk room (x :: ns.map (fun x => x.2)) := by
      have := HOK.out
      rw [HPT.out.1, HK.out, E2.out] at this
      exact this
    have hu0 := used_pos h1.ok.pos
    have hu1 := hok2.fit
    rw [used_cons] at hu1
    have hnc : nl.length ≤ c := h3
    obtain ⟨w5, hrun, t5, g5⟩ := (tbn_block (W' := (w3.alloc (.cells #[.string kb, .slice x.v.1 x.v.2.1 x.v.2.2, .int .i64 x.size, .pointer none, .pointer none] 82)).drew) (tbn_off (S := fun _ => False) h1.tbl (off_of (below_alloc' w3 _)) (fun e => e)) rfl).update kStr Try.underlying83 (by unfold maxLen; omega) (key_str hs) (pel_at w3.heap.size)
    have t5' := tbn_put t5
    have g5' : (w3.alloc (.cells #[.string kb, .slice x.v.1 x.v.2.1 x.v.2.2, .int .i64 x.size, .pointer none, .pointer none] 82)).grownBy w5 (some m) := grown_drew g5
    have og : Off (fun k => k = m) (w3.alloc (.cells #[.string kb, .slice x.v.1 x.v.2.1 x.v.2.2, .int .i64 x.size, .pointer none, .pointer none] 82)) w5 := off_grown g5' (fun k e => (Option.some.inj e).symm)
    have o3 : Off (fun k => k = m) w3 w5 := Off.trans (off_of (S := fun k => k = m) (below_alloc' w3 _)) og (fun i e => .inl e)
    obtain ⟨_, e1, _, e3, f5⟩ : w5.cell? ⟨g, 0, none⟩ = some (.int .i64 room) ∧ w5.cell? ⟨g, 1, none⟩ = some (.int .i64 (usedT (ns.map (fun x => x.2)))) ∧ w5.cell? ⟨g, 2, none⟩ = some (.map (some m)) ∧ w5.cell? ⟨g, 3, none⟩ = some (.pointer (some ⟨rb, 0, none⟩)) ∧ w5.frozen? ⟨g, 1, none⟩ = false := by
      have k1 := blk_off h1.blk o3 hgm
      exact ⟨(k1.1 0 (by simp)).1, (k1.1 1 (by simp)).1, (k1.1 2 (by simp)).1, (k1.1 3 (by simp)).1, (k1.1 1 (by simp)).2⟩
    have CJ : Hid (Calls Try.prog 45 #[.pointer (some ⟨w3.heap.size, 0, none⟩), .pointer (some ⟨rb, 0, none⟩)] (w5.setCell ⟨g, 1, none⟩ (.int .i64 (usedT (ns.map (fun x => x.2)) + x.size))) fun e W' => e = .returned (.tuple #[]) ∧ ∃ O' N', RgY rb ((w3.heap.size, x) :: ns) O' N' W' ∧ Off (fun k => k = w3.heap.size ∨ RingSY rb ns k) (w5.setCell ⟨g, 1, none⟩ (.int .i64 (usedT (ns.map (fun x => x.2)) + x.size))) W') := by
      have kb1 := cells_lit w3 #[.string kb, .slice x.v.1 x.v.2.1 x.v.2.2, .int .i64 x.size, .pointer none, .pointer none] 82
      have kp1 := pln_lit w3 #[.string kb, .slice x.v.1 x.v.2.1 x.v.2.2, .int .i64 x.size, .pointer none, .pointer none] 82
      have kb2 := cells_other (blk_off kb1 og (by omega)) (show w3.heap.size ≠ g by omega) (o := 1) (.int .i64 (usedT (ns.map (fun x => x.2)) + x.size))
      have kp2 := pln_set (pln_off kp1 og (by omega)) ⟨g, 1, none⟩ (.int .i64 (usedT (ns.map (fun x => x.2)) + x.size))
      have hr6 : RgY rb ns O N (w5.setCell ⟨g, 1, none⟩ (.int .i64 (usedT (ns.map (fun x => x.2)) + x.size))) := rg_offY (rg_offY h1.rg o3 (fun k hk e => h1.mn (by rw [← e]; exact hk))) (off_poke (S := fun k => k = g) ⟨g, 1, none⟩ rfl _) (fun k hk e => h1.gn (by rw [← e]; exact hk))
      refine joinYC hr6 (by rw [hSk]; exact kb2) kp2 (fun hm => ?_)
      obtain ⟨y, hy, e9⟩ := mem_ringY hm
      have := (h1.rg.all y hy).2
      omega
    have HE : Hid (∀ O' N' W7, RgY rb ((w3.heap.size, x) :: ns) O' N' W7 → Off (fun k => k = w3.heap.size ∨ RingSY rb ns k) (w5.setCell ⟨g, 1, none⟩ (.int .i64 (usedT (ns.map (fun x => x.2)) + x.size))) W7 → TbY (fun k => U k ∨ k = w3.heap.size) g room (x :: ns.map (fun x => x.2)) (c + 1) W7 ∧ Off U w3 W7) := fun O' N' W7 r1 r2 => by
      refine put_endY (v3 := .pointer none) (v4 := .pointer none) h1 h5 h6 (by rw [HK.out]; exact t5') (by rw [hSk]; exact g5') hok2 r1 r2 ⟨h3, ?_⟩
      have := h4
      rw [E2.out, List.length_map] at this
      exact this
    generalize usedT (ns.map (fun x => x.2)) = u at *
    clear h1 h2 h3 h4 h5 h6 b3 t5 g5 t5' g5' og o3 hok2 hSk hml
    go_wp2_with fail
    go_region
    all_goals
      go_wp2_with fail
      refine CJ.out.mono ?_
      rintro e W7 ⟨rfl, h9⟩
      have H9 := hide' h9
      clear h9
      go_wp2_with fail
      go_ret2
      obtain ⟨O', N', r1, r2⟩ := H9.out
      obtain ⟨z1, z2⟩ := HE.out O' N' W7 r1 r2
      have zt : putT room l x = x :: ns.map (fun x => x.2) := by rw [HPT.out.1, HK.out, E2.out]
      have hU := tb_ltY T1.out
      have hU2 := tb_ltY T2.out
      have zo : Off U W W7 := by
        have y1 : Off (fun k => U k ∨ W1.heap.size ≤ k) W W2 := Off.trans (O1.out.mono (T := fun k => U k ∨ W1.heap.size ≤ k) (fun k e => .inl e)) O2.out (fun k e => .inl e)
        have y2 : Off (fun k => U k ∨ W1.heap.size ≤ k) W W7 := Off.trans (Off.trans y1 (off_of (S := fun _ => False) B3.out) (fun k e => e.elim)) z2 (fun k e => .inl (.inl e))
        refine ⟨y2.os, y2.tape, y2.output, y2.size, fun k hk hn => y2.block k hk (fun e => ?_)⟩
        rcases e with e | e
        · exact hn e
        · have := O1.out.size; omega
      have s1 := O1.out.size
      have s2 := O2.out.size
      have s3 := B3.out.size
      have gb : ∀ k, gv.ownBlock = some k → ¬ (U k ∨ k = w3.heap.size) := fun k e => by
        have y := ownT_lt G2.out k e
        intro e2
        rcases e2 with e2 | e2
        · have := hU k e2; omega
        · omega
      have zg : OwnT W.heap.size gv (putG room l x) W7 := by
        have y0 : OwnT W1.heap.size gv (putG room l x) W2 := by rw [HPT.out.2, HK.out]; exact G2.out
        have y1 := ownT_apart (S := fun _ => False) y0 (off_of B3.out) (fun _ _ e => e)
        exact ownT_base (ownT_apart y1 z2 (fun k e e2 => gb k e (.inl e2))) s1
      rw [← zt] at z1
      first
        | exact ⟨gv, fun k => U k ∨ k = w3.heap.size, rfl, zg, z1, zo, fun _ e => .inl e, fun k e => (by rcases e with e | e; exact .inl e; exact .inr (by omega)), gb⟩
        | exact ⟨gv, rfl, zg, fun k => U k ∨ k = w3.heap.size, z1, zo, fun _ e => .inl e, fun k e => (by rcases e with e | e; exact .inl e; exact .inr (by omega)), gb⟩
  · have hp : putOk room x.size = false := decide_eq_false hz
    have R : Hid (putT room l x = l ∧ putG room l x = []) := by
      unfold Hid putT putG; rw [hp]; exact ⟨rfl, rfl⟩
    have T' : Hid (TbY U g room l (c + 1) W) := by
      obtain ⟨m, rb, ns, nl, O, N, h1, h2, h3, h4, h5, h6⟩ := h
      exact ⟨m, rb, ns, nl, O, N, h1, h2, by omega, by omega, h5, h6⟩
    have c0 : W.cell? ⟨g, 0, none⟩ = some (.int .i64 room) := by
      obtain ⟨m, rb, ns, nl, O, N, h1, _⟩ := h
      exact (lr_cellsY h1).1
    rw [hp, R.out.1, R.out.2]
    by_cases h0 : x.size < 0
    · have q1 : decide (x.size < 0) = true := decide_eq_true h0
      clear h hk hp hz
      go_enter Try.func28, Try.ntmps28
      go_wp2_with fail
      go_ret2
      first
        | exact ⟨_, U, rfl, ownT_nil _ _, T'.out, Off.refl _ _, fun _ h => h, fun _ h => .inl h, fun k e => by cases e⟩
        | exact ⟨_, rfl, ownT_nil _ _, U, T'.out, Off.refl _ _, fun _ h => h, fun _ h => .inl h, fun k e => by cases e⟩
    · have q1 : decide (x.size < 0) = false := decide_eq_false h0
      have q2 : decide (room < x.size) = true := by rw [decide_eq_true_iff]; omega
      clear h hk hp hz
      go_enter Try.func28, Try.ntmps28
      go_wp2_with fail
      go_ret2
      first
        | exact ⟨_, U, rfl, ownT_nil _ _, T'.out, Off.refl _ _, fun _ h => h, fun _ h => .inl h, fun k e => by cases e⟩
        | exact ⟨_, rfl, ownT_nil _ _, U, T'.out, Off.refl _ _, fun _ h => h, fun _ h => .inl h, fun k e => by cases e⟩
end Go.Proofs.Ytikkmnclcbanfaa
