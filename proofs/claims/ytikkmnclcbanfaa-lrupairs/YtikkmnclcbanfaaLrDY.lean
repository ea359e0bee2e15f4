/- A table's Peek and makeRoom. -/
import Derived.Test.YtikkmnclcbanfaaLrCY
namespace Go.Proofs.Ytikkmnclcbanfaa
open Go.RowKit Go.Maps Go.WideMaps
def valY (x : It (Option Addr × Nat × Nat)) : Value := .slice x.v.1 x.v.2.1 x.v.2.2
def peekY (l : List (It (Option Addr × Nat × Nat))) (k : Nm) : Value := match findT l k with | some x => .tuple #[valY x, .bool true] | none => .tuple #[.slice none 0 0, .bool false]
set_option maxHeartbeats 1000000 in
theorem peekYC {S : Nat → Prop} {g c : Nat} {room : Int} {l : List (It (Option Addr × Nat × Nat))} {W : World} (h : TbY S g room l c W) (kb : ByteArray) (hs : kb.size ≤ 140737488351232) :
    Calls Try.prog 32 #[.pointer (some ⟨g, 0, none⟩), .string kb] W fun e W' => e = .returned (peekY l kb.data.toList) ∧ W' = W := by
  obtain ⟨m, rb, ns, nl, O, N, h1, h2, h3, h4, h5, h6⟩ := h
  obtain ⟨c0, c1, c2, c3, f1⟩ := lr_cellsY h1
  subst h2
  rcases find_splitY h1 kb.data.toList with ⟨a1, a2, a3⟩ | ⟨l1, x, l2, e1, ek, a1, a2, a3⟩
  · have hlk := look_noneY h1.tbl hs a1
    have R : Hid (peekY (ns.map (fun x => x.2)) kb.data.toList = .tuple #[.slice none 0 0, .bool false]) := by unfold Hid peekY; rw [a2]
    rw [R.out]
    clear h1 h3 h4 h5 h6 a1 a2 a3 c0 c1 c3 f1
    go_enter Try.func32, Try.ntmps32
    go_wp2_with fail
    go_ret2
    exact ⟨rfl, rfl⟩
  · have hlk := look_someY h1.tbl hs a1
    have R : Hid (peekY (ns.map (fun x => x.2)) kb.data.toList = .tuple #[valY x.2, .bool true]) := by unfold Hid peekY; rw [a2]
    rw [R.out]
    subst e1
    have bx := h1.rg.all x (by simp)
    unfold celY at bx
    have d1 := (bx.1 1 (by simp)).1
    simp only [List.getElem_cons_succ, List.getElem_cons_zero] at d1
    unfold valY
    clear h1 h3 h4 h5 h6 a1 a2 a3 c0 c1 c3 f1 bx
    go_enter Try.func32, Try.ntmps32
    go_wp2_with fail
    go_ret2
    exact ⟨rfl, rfl⟩
theorem gone_stepY {l : List (It (Option Addr × Nat × Nat))} {i : Nat} (h : i < l.length) : goneT l (i + 1) ++ [l[i].key] = goneT l i := by
  unfold goneT
  rw [List.drop_eq_getElem_cons h, List.reverse_cons, List.map_append]
  rfl
set_option maxRecDepth 20000 in
set_option maxHeartbeats 4000000 in
theorem makeRoomYC {S : Nat → Prop} {g c : Nat} {room : Int} {l : List (It (Option Addr × Nat × Nat))} {W : World} (h : TbY S g room l c W) (size : Int) (hz : 0 ≤ size ∧ size ≤ room) (hc : c ≤ 1000000) :
    Calls Try.prog 44 #[.pointer (some ⟨g, 0, none⟩), .int .i64 size] W fun e W' => ∃ gv, e = .returned gv ∧ OwnT W.heap.size gv (goneT l (fitT l (room - size))) W' ∧ TbY S g room (l.take (fitT l (room - size))) c W' ∧ Off (fun k => S k ∨ W.heap.size ≤ k) W W' := by
  obtain ⟨m, rb, ns, nl, O, N, h1, h2, h3, h4, h5, h6⟩ := h
  obtain ⟨n, hn⟩ : ∃ n, n = l.length := ⟨_, rfl⟩
  have hnn : n ≤ 1000000 := by omega
  have hnl : ns.length = n := by rw [hn, h2, List.length_map]
  have H0 := hide' h1
  have E2 := hide' h2
  have HN := hide' hn
  have HNL := hide' hnl
  have H5 := hide' h5
  have H6 := hide' h6
  have H34 := hide' (And.intro h3 h4)
  have hrm := h1.ok.rm
  clear h1 h2 h3 h4 h5 h6 hn hnl
  go_enter Try.func44, Try.ntmps44
  go_wp2_with fail
  go_loopw [5, 6] (fun gv _ wr => ∃ (j : Nat), j ≤ n ∧ lenS gv = n - j ∧ Hid (OwnT W.heap.size gv (goneT l j) wr) ∧ Hid (∃ nl' O' N', nl'.length ≤ nl.length ∧ LrY g m rb (ns.take j) nl' O' N' room wr) ∧ Hid (fitN l (room - size) j = fitT l (room - size)) ∧ Hid (Off (fun k => S k ∨ W.heap.size ≤ k) W wr)) (fun gv _ _ => n - lenS gv)
  case atStart =>
    refine ⟨n, Nat.le_refl _, by simp [lenS], ?_, ⟨nl, O, N, Nat.le_refl _, ?_⟩, ?_, Off.refl _ _⟩
    · unfold Hid goneT; rw [HN.out, List.drop_length]; exact ownT_nil _ _
    · rw [List.take_of_length_le (by rw [HNL.out]; exact Nat.le_refl _)]; exact H0.out
    · unfold Hid fitT; rw [HN.out]
  case round =>
    obtain ⟨j, hj, hlen, HG, HL, HF, HO⟩ := hrel
    obtain ⟨nl', O', N', q1, q2⟩ := HL.out
    have Q1 := hide' q1
    have Q2 := hide' q2
    obtain ⟨c0, c1, c2, c3, f1⟩ := lr_cellsY q2
    have hu0 := used_pos q2.ok.pos
    have hu1 := q2.ok.fit
    have EU : Hid ((ns.take j).map (fun x => x.2) = l.take j) := by unfold Hid; rw [E2.out, List.map_take]
    rw [EU.out] at c1 hu0 hu1
    by_cases hcase : usedT (l.take j) ≤ room - size
    · have hft : Hid (j = fitT l (room - size)) := by unfold Hid; rw [← HF.out]; exact (fitN_stop hcase).symm
      have hq : ¬ (room - size < usedT (l.take j)) := by omega
      generalize usedT (l.take j) = u at *
      clear q1 q2 hcase f1 c2 c3
      go_wp2_with fail
      go_quiet (fail)
      go_wp2_with fail
      go_ret
      have hlr := lr_belowY Q2.out (below_drewN wr nq)
      have hjl : j ≤ l.length := by rw [← HN.out]; exact hj
      refine ⟨u5, rfl, ?_, ?_, Off.trans HO.out (off_of (S := fun _ => False) (below_drewN wr nq)) (fun i hi => hi.elim)⟩
      · rw [← hft.out]; exact ownT_off (S := fun _ => False) HG.out (off_of (below_drewN wr nq)) (fun k hk => hk.elim)
      · rw [← hft.out]
        refine ⟨m, rb, ns.take j, nl', O', N', hlr, EU.out.symm, Nat.le_trans Q1.out H34.out.1, ?_, fun k hk => H5.out k (lr_subY (fun y hy => List.mem_of_mem_take hy) hk), fun k hk => ?_⟩
        · rw [List.length_take]; have := H34.out.2; omega
        · have h1 := H6.out k hk
          have h2 := HO.out.size
          have h3 := (below_drewN wr nq).size
          omega
    · cases j with
      | zero => exact absurd (by rw [List.take_zero, used_nil]; omega) hcase
      | succ i =>
        have hil : i < ns.length := by rw [HNL.out]; omega
        have hill : i < l.length := by rw [← HN.out]; omega
        have e1 : ns.take (i + 1) = ns.take i ++ [ns[i]] := List.take_succ_eq_append_getElem hil
        have e3 : l[i] = ns[i].2 := by
          have := E2.out
          subst this
          simp
        have hNr : N' rb = ns[i].1 := by
          have := q2.rg.chain
          rw [e1, List.map_append] at this
          exact ch_last this
        rw [e1] at q2
        have HS : Hid (∀ k, LrSY g m rb (ns.take i ++ [ns[i]]) k → S k) := fun k hk => H5.out k (lr_subY (fun y hy => by rw [← e1] at hy; exact List.mem_of_mem_take hy) hk)
        have CT2 : Hid (∀ q, Calls Try.prog 47 #[.pointer (some ⟨g, 0, none⟩), .pointer (some ⟨ns[i].1, 0, none⟩)] (wr.drewN q) fun e W' => e = .returned (.tuple #[]) ∧ W'.cell? ⟨ns[i].1, 0, none⟩ = some (.string ⟨(ns[i].2.key).toArray⟩) ∧ W.heap.size ≤ W'.heap.size ∧ Hid ((∃ nl2 O2 N2, nl2.length ≤ nl'.length ∧ LrY g m rb (ns.take i ++ []) nl2 O2 N2 room W' ∧ Off (fun k => S k ∨ W.heap.size ≤ k) W W') ∧ OwnT W.heap.size u5 (goneT l (i + 1)) W')) := fun q => by
          refine (takeOutYC (lr_belowY q2 (below_drewN wr q))).mono ?_
          rintro e W' ⟨rfl, nl2, O2, N2, p1, p2, p3, p4⟩
          have o1 : Off (fun k => S k ∨ W.heap.size ≤ k) W (wr.drewN q) := Off.trans HO.out (off_of (S := fun _ => False) (below_drewN wr q)) (fun i hi => hi.elim)
          have o2 : Off (fun k => S k ∨ W.heap.size ≤ k) W W' := Off.trans o1 p3 (fun k hk => .inl (.inl (HS.out k hk)))
          exact ⟨rfl, p4, o2.size, ⟨nl2, O2, N2, p1, p2, o2⟩, ownT_off (ownT_off (S := fun _ => False) HG.out (off_of (below_drewN wr q)) (fun k hk => hk.elim)) p3 (fun k hk => H6.out k (HS.out k hk))⟩
        have hr4 := (cel_cellsY (q2.rg.all (rb, nilY) (by simp))).2.2.2.1
        have hr4' : wr.cell? ⟨rb, 4, none⟩ = some (.pointer (some ⟨ns[i].1, 0, none⟩)) := by rw [← hNr]; exact hr4
        have HF2 : Hid (fitN l (room - size) i = fitT l (room - size)) := by unfold Hid; rw [← HF.out]; exact (fitN_more hcase).symm
        have GS := hide' (gone_stepY (l := l) hill)
        have hq : room - size < usedT (l.take (i + 1)) := by omega
        have hgl : (goneT l (i + 1)).length = n - (i + 1) := by unfold goneT; rw [List.length_map, List.length_reverse, List.length_drop, HN.out]
        rw [e3] at GS
        have HGL := hide' hgl
        generalize usedT (l.take (i + 1)) = u at *
        generalize ns[i].1 = xb at *
        clear q1 q2 hcase f1 c2 hr4 hgl hill e3
        go_wp2_with fail
        go_quiet (fail)
        go_wp2_with fail
        refine (CT2.out nq).mono ?_
        rintro e w2 ⟨rfl, d0, dz, HX⟩
        go_wp2_with (at_builtin; refine appT rfl (.tmp 28) (.tmp 33) rfl W.heap.size dz u5 (goneT l (i + 1)) rfl (HX.out.2) _ rfl rfl (by rw [HGL.out]; omega) ?_; intro v' w3 a1 a2 a3; have A1 := hide' a1; have A2 := hide' a2; have A3 := hide' a3; clear a1 a2 a3)
        go_roundw
        case rel =>
          obtain ⟨⟨nl2, O2, N2, p1, p2, p3⟩, p4⟩ := HX.out
          have hA := A1.out
          rw [GS.out] at hA
          have b3 : Off (fun k => W.heap.size ≤ k) w2 w3 := ⟨A3.out.os, A3.out.tape, A3.out.output, A2.out, fun k _ hn => A3.out.block k (by omega)⟩
          refine ⟨i, by omega, ?_, hA, ⟨nl2, O2, N2, Nat.le_trans p1 Q1.out, ?_⟩, HF2, ?_⟩
          · obtain ⟨a, c9, e9⟩ := ownT_len hA
            rw [e9]
            show (goneT l i).length = n - i
            unfold goneT
            rw [List.length_map, List.length_reverse, List.length_drop, HN.out]
          · rw [List.append_nil] at p2
            exact lr_offY p2 b3 (fun k hk hk2 => by have := H6.out k (H5.out k (lr_subY (fun y hy => List.mem_of_mem_take hy) hk)); omega)
          · exact Off.trans p3 b3 (fun k hk => .inl (.inr hk))
        case measure =>
          obtain ⟨a, c9, e9⟩ := ownT_len A1.out
          have e8 : lenS v' = n - i := by
            rw [e9]
            show (goneT l (i + 1) ++ [_]).length = n - i
            rw [List.length_append, HGL.out]
            simp
            omega
          first | (rw [e8, hlen]; omega) | (show n - lenS v' < n - lenS u5; rw [e8, hlen]; omega)
end Go.Proofs.Ytikkmnclcbanfaa
