/- A table's Get (of numbers). -/
import Derived.Test.YtikkmnclcbanfaaLrFI
namespace Go.Proofs.Ytikkmnclcbanfaa
open Go.RowKit Go.Maps Go.WideMaps
set_option maxRecDepth 20000 in
set_option maxHeartbeats 2000000 in
theorem getIC {U : Nat → Prop} {g c : Nat} {room : Int} {l : List (It Int)} {W : World} (h : TbI U g room l c W) (kb : ByteArray) (hs : kb.size ≤ 140737488351232) :
    Calls Try.prog 16 #[.pointer (some ⟨g, 0, none⟩), .string kb] W fun e W' => e = .returned (peekI l kb.data.toList) ∧ TbI U g room (getT l kb.data.toList) c W' ∧ Off U W W' := by
  have HT := hide' h
  obtain ⟨m, rb, ns, nl, O, N, h1, h2, h3, h4, h5, h6⟩ := h
  obtain ⟨c0, c1, c2, c3, f1⟩ := lr_cellsI h1
  subst h2
  rcases find_splitI h1 kb.data.toList with ⟨a1, a2, a3⟩ | ⟨l1, x, l2, e1, ek, a1, a2, a3⟩
  · have hlk := look_noneI h1.tbl hs a1
    have R : Hid (getT (ns.map (fun x => x.2)) kb.data.toList = ns.map (fun x => x.2)) := by unfold Hid getT; rw [a2]
    have CP := hide' (peekIC HT.out kb hs)
    rw [R.out]
    clear h1 h3 h4 h5 h6 a1 a2 a3 c0 c1 c3 f1
    go_enter Try.func16, Try.ntmps16
    obtain ⟨pv, hpv⟩ : ∃ pv, pv = peekI (ns.map (fun x => x.2)) kb.data.toList := ⟨_, rfl⟩
    rw [← hpv] at CP
    have HPV := hide' hpv
    obtain ⟨v0, b0, e0⟩ : ∃ v0 b0, pv = .tuple #[.int .i64 v0, .bool b0] := by
      rw [hpv]; unfold peekI; split
      · exact ⟨_, _, rfl⟩
      · exact ⟨0, false, rfl⟩
    subst e0
    clear hpv
    go_wp2_with (go_at_call 18; refine CP.out.mono ?_; rintro e w9 ⟨rfl, ew⟩; rw [ew]; clear ew w9)
    refine bodyPost_ret (v := .tuple #[.int .i64 v0, .bool b0]) (by simp [results, Try.results16, go_sem]) rfl ⟨by rw [HPV.out], HT.out, Off.refl _ _⟩
  · have hlk := look_someI h1.tbl hs a1
    subst e1
    have R : Hid (getT ((l1 ++ x :: l2).map (fun x => x.2)) kb.data.toList = ((x.1, x.2) :: (l1 ++ l2)).map (fun x => x.2)) := by unfold Hid getT; rw [a2, a3]; rfl
    have hok := get_tok h1.ok kb.data.toList
    rw [R.out] at hok
    have CL := hide' (leaveIC h1.rg)
    have hxr : x.1 ∈ rb :: (l1 ++ x :: l2).map (fun x => x.1) := List.mem_cons_of_mem _ (List.mem_map.2 ⟨x, by simp, rfl⟩)
    have hnot : x.1 ∉ rb :: (l1 ++ l2).map (fun x => x.1) := by
      have h0 := h1.rg.once
      rw [List.map_append, List.map_cons] at h0
      rw [List.map_append]
      have h00 := List.nodup_cons.1 h0
      have h01 := List.nodup_append.1 h00.2
      intro e
      rcases List.mem_cons.1 e with e | e
      · exact h00.1 (by rw [← e]; simp)
      · rcases List.mem_append.1 e with e | e
        · exact h01.2.2 x.1 e x.1 (by simp) rfl
        · exact (List.nodup_cons.1 h01.2.1).1 e
    have hgn : ¬ RingSI rb (l1 ++ x :: l2) g := h1.gn
    have hmn : ¬ RingSI rb (l1 ++ x :: l2) m := h1.mn
    have hgl := h1.blk.2
    have K3 : Hid (∀ W1, Off (RingSI rb (l1 ++ x :: l2)) W W1 → W1.cell? ⟨g, 3, none⟩ = some (.pointer (some ⟨rb, 0, none⟩))) := fun W1 ho => by rw [World.cell?_of_block (w := W) (a := ⟨g, 3, none⟩) (ho.block g hgl hgn)]; exact c3
    have hmem : ∀ k, k ∈ rb :: ((x.1, x.2) :: (l1 ++ l2)).map (fun x => x.1) → k ∈ rb :: (l1 ++ x :: l2).map (fun x => x.1) := fun k hk => by
      rcases List.mem_cons.1 hk with e | e
      · rw [e]; simp
      · rcases List.mem_cons.1 e with e | e
        · rw [e]; exact hxr
        · obtain ⟨y, hy, e2⟩ := List.mem_map.1 e
          exact List.mem_cons_of_mem _ (List.mem_map.2 ⟨y, by rcases List.mem_append.1 hy with e | e <;> simp [e], e2⟩)
    have hus : usedT ((l1 ++ x :: l2).map (fun x => x.2)) = usedT (((x.1, x.2) :: (l1 ++ l2)).map (fun x => x.2)) := by
      simp only [List.map_append, List.map_cons, used_app, used_cons]; omega
    have htab : ∀ k, atN nl k = (((x.1, x.2) :: (l1 ++ l2)).find? (fun x => decide (x.2.key = k))).map (fun x => x.1) := fun k => by
      rw [h1.tab k]
      have hd := nodup_splitI h1.ok.once
      by_cases e : x.2.key = k
      · have f1 : (l1 ++ x :: l2).find? (fun x => decide (x.2.key = k)) = some x := by
          rw [List.find?_append, List.find?_eq_none.2 (fun y hy => by rw [← e]; simpa using hd y (by simp [hy]))]
          simp [e]
        rw [f1, List.find?_cons]
        simp [e]
      · rw [List.find?_cons, List.find?_append, List.find?_append, List.find?_cons]
        have : decide (x.2.key = k) = false := by simpa using e
        simp only [this]
    have FIN : Hid (∀ W1 W2 O' N', Off (RingSI rb (l1 ++ x :: l2)) W W1 → RgI rb ((x.1, x.2) :: (l1 ++ l2)) O' N' W2 → Off (fun k => k = x.1 ∨ RingSI rb (l1 ++ l2) k) W1 W2 → TbI U g room (((x.1, x.2) :: (l1 ++ l2)).map (fun x => x.2)) c W2 ∧ Off U W W2) := fun W1 W2 O' N' o1 r o2 => by
      have o2' : Off (RingSI rb (l1 ++ x :: l2)) W1 W2 := o2.mono (fun k e => by
        rcases e with e | e
        · rw [e]; exact hxr
        · exact hmem k (by rcases List.mem_cons.1 e with e | e; rw [e]; simp; exact List.mem_cons_of_mem _ (List.mem_cons_of_mem _ e)))
      have o3 : Off (RingSI rb (l1 ++ x :: l2)) W W2 := Off.trans o1 o2' (fun i e => .inl e)
      refine ⟨⟨m, rb, _, nl, O', N', ⟨by rw [← hus]; exact blk_off h1.blk o3 hgn, r, tbn_off h1.tbl o3 hmn, htab, h1.srt, h1.gm, fun e => h1.gn (hmem g e), fun e => h1.mn (hmem m e), hok⟩, rfl, h3, ?_, fun k hk => h5 k ?_, fun k hk => Nat.lt_of_lt_of_le (h6 k hk) o3.size⟩, o3.mono (fun k e => h5 k (.inr (.inr e)))⟩
      · simp at h4 ⊢; omega
      · rcases hk with e | e | e
        · exact .inl e
        · exact .inr (.inl e)
        · exact .inr (.inr (hmem k e))
    have hpk : Hid (peekI ((l1 ++ x :: l2).map (fun x => x.2)) kb.data.toList = .tuple #[.int .i64 x.2.v, .bool true]) := by unfold Hid peekI; rw [a2]; rfl
    have hpk2 : Hid (peekI (((x.1, x.2) :: (l1 ++ l2)).map (fun x => x.2)) kb.data.toList = .tuple #[.int .i64 x.2.v, .bool true]) := by
      unfold Hid peekI findT
      rw [List.map_cons, List.find?_cons]
      simp only [ek, decide_true]
      rfl
    rw [R.out, hpk.out]
    generalize hxb : x.1 = xb at *
    have HXB := hide' hxb
    clear h1 h3 h4 h5 h6 a1 a2 a3 c0 c1 f1 hok hmem hus htab hxr hgn hmn hxb
    go_enter Try.func16, Try.ntmps16
    go_wp2_with fail
    refine CL.out.mono ?_
    rintro e W1 ⟨rfl, O1, N1, r1, o1, oo, nn, bx, px⟩
    have O1' := hide' o1
    have k3 := K3.out W1 o1
    have CJ : Hid (Calls Try.prog 39 #[.pointer (some ⟨xb, 0, none⟩), .pointer (some ⟨rb, 0, none⟩)] W1 fun e W2 => e = .returned (.tuple #[]) ∧ Hid (TbI U g room (((xb, x.2) :: (l1 ++ l2)).map (fun x => x.2)) c W2 ∧ Off U W W2)) := by
      refine (joinIC (x := x.2) r1 bx px hnot).mono ?_
      rintro e W2 ⟨rfl, O', N', q1, q2⟩
      exact ⟨rfl, FIN.out W1 W2 O' N' o1 q1 q2⟩
    clear r1 o1 bx px
    go_wp2_with fail
    refine CJ.out.mono ?_
    rintro e W2 ⟨rfl, HF⟩
    have CP := hide' (peekIC HF.out.1 kb hs)
    rw [hpk2.out] at CP
    go_wp2_with (go_at_call 18; refine CP.out.mono ?_; rintro e w9 ⟨rfl, ew⟩; rw [ew]; clear ew w9)
    exact bodyPost_ret (v := .tuple #[.int .i64 x.2.v, .bool true]) (by simp [results, Try.results16, go_sem]) rfl ⟨rfl, HF.out.1, HF.out.2⟩
end Go.Proofs.Ytikkmnclcbanfaa
