/- A table's ring in memory: its nodes' blocks; leave and join. -/
import Derived.Test.YtikkmnclcbanfaaLrM
import Derived.BigRegion
namespace Go.Proofs.Ytikkmnclcbanfaa
open Go.RowKit
def celP (x : It (Nm × Int)) (o n : Nat) : List Value := [S x.key, S x.v.1, .int .i64 x.v.2, .int .i64 x.size, .pointer (some ⟨o, 0, none⟩), .pointer (some ⟨n, 0, none⟩)]
def nilP : It (Nm × Int) := ⟨[], ([], 0), 0⟩
def AllP (L : List (Nat × It (Nm × Int))) (O N : Nat → Nat) (W : World) : Prop := ∀ x ∈ L, Blk x.1 W (celP x.2 (O x.1) (N x.1))
theorem all_newerP {L : List (Nat × It (Nm × Int))} {O N : Nat → Nat} {W : World} (h : AllP L O N W) (c d : Nat) : AllP L O (updF N c d) (W.setCell ⟨c, 5, none⟩ (.pointer (some ⟨d, 0, none⟩))) := by
  intro x hx
  by_cases e : x.1 = c
  · rw [← e, updF_same]
    have := cells_set (h x hx) (j := 5) (by simp [celP]) (.pointer (some ⟨d, 0, none⟩))
    simpa [celP] using this
  · rw [updF_other _ _ e]
    exact cells_other (h x hx) e _
theorem all_olderP {L : List (Nat × It (Nm × Int))} {O N : Nat → Nat} {W : World} (h : AllP L O N W) (c d : Nat) : AllP L (updF O c d) N (W.setCell ⟨c, 4, none⟩ (.pointer (some ⟨d, 0, none⟩))) := by
  intro x hx
  by_cases e : x.1 = c
  · rw [← e, updF_same]
    have := cells_set (h x hx) (j := 4) (by simp [celP]) (.pointer (some ⟨d, 0, none⟩))
    simpa [celP] using this
  · rw [updF_other _ _ e]
    exact cells_other (h x hx) e _
theorem all_belowP {L : List (Nat × It (Nm × Int))} {O N : Nat → Nat} {W W' : World} (h : AllP L O N W) (hb : Below W.heap.size W W') : AllP L O N W' := fun x hx => cells_below (h x hx) hb
/-- the ring rb with the nodes ns -/
structure RgP (rb : Nat) (ns : List (Nat × It (Nm × Int))) (O N : Nat → Nat) (W : World) : Prop where
  all : AllP ((rb, nilP) :: ns) O N W
  chain : Ch O N rb (ns.map (fun x => x.1) ++ [rb])
  once : (rb :: ns.map (fun x => x.1)).Nodup
  pln : ∀ k ∈ rb :: ns.map (fun x => x.1), Pln k W
theorem rg_offP {rb : Nat} {ns : List (Nat × It (Nm × Int))} {O N : Nat → Nat} {W W' : World} {S : Nat → Prop} (h : RgP rb ns O N W) (ho : Off S W W') (hn : ∀ k ∈ rb :: ns.map (fun x => x.1), ¬ S k) : RgP rb ns O N W' :=
  ⟨fun x hx => blk_off (h.all x hx) ho (hn x.1 (by rcases List.mem_cons.1 hx with e | e; rw [e]; simp; exact List.mem_cons_of_mem _ (List.mem_map.2 ⟨x, e, rfl⟩))), h.chain, h.once, fun k hk => pln_off (h.pln k hk) ho (hn k hk)⟩
theorem rg_belowP {rb : Nat} {ns : List (Nat × It (Nm × Int))} {O N : Nat → Nat} {W W' : World} (h : RgP rb ns O N W) (hb : Below W.heap.size W W') : RgP rb ns O N W' := rg_offP (S := fun _ => False) h (off_of hb) (fun _ _ e => e)
def RingSP (rb : Nat) (ns : List (Nat × It (Nm × Int))) (k : Nat) : Prop := k ∈ rb :: ns.map (fun x => x.1)
theorem cel_cellsP {b : Nat} {W : World} {x : It (Nm × Int)} {o n : Nat} (h : Blk b W (celP x o n)) : W.cell? ⟨b, 0, none⟩ = some (S x.key) ∧ W.cell? ⟨b, 3, none⟩ = some (.int .i64 x.size) ∧ W.cell? ⟨b, 4, none⟩ = some (.pointer (some ⟨o, 0, none⟩)) ∧ W.cell? ⟨b, 5, none⟩ = some (.pointer (some ⟨n, 0, none⟩)) ∧ W.frozen? ⟨b, 4, none⟩ = false ∧ W.frozen? ⟨b, 5, none⟩ = false :=
  ⟨(h.1 0 (by simp [celP])).1, (h.1 3 (by simp [celP])).1, (h.1 4 (by simp [celP])).1, (h.1 5 (by simp [celP])).1, (h.1 4 (by simp [celP])).2, (h.1 5 (by simp [celP])).2⟩
theorem mem_ringP {rb k : Nat} {ns : List (Nat × It (Nm × Int))} (h : k ∈ rb :: ns.map (fun x => x.1)) : ∃ x ∈ (rb, nilP) :: ns, x.1 = k := by
  rcases List.mem_cons.1 h with e | e
  · exact ⟨(rb, nilP), by simp, e.symm⟩
  · obtain ⟨x, hx, e2⟩ := List.mem_map.1 e
    exact ⟨x, by simp [hx], e2⟩
set_option maxRecDepth 20000 in
set_option maxHeartbeats 4000000 in
theorem leavePC {rb : Nat} {l1 l2 : List (Nat × It (Nm × Int))} {x : Nat × It (Nm × Int)} {O N : Nat → Nat} {W : World} (h : RgP rb (l1 ++ x :: l2) O N W) :
    Calls Try.prog 49 #[.pointer (some ⟨x.1, 0, none⟩)] W fun e W' => e = .returned (.tuple #[]) ∧ ∃ O' N', RgP rb (l1 ++ l2) O' N' W' ∧ Off (RingSP rb (l1 ++ x :: l2)) W W' ∧ ∃ o n, Blk x.1 W' (celP x.2 o n) ∧ Pln x.1 W' := by
  have hch : Ch O N rb (l1.map (fun x => x.1) ++ x.1 :: l2.map (fun x => x.1) ++ [rb]) := by simpa using h.chain
  have hon : (rb :: (l1.map (fun x => x.1) ++ x.1 :: l2.map (fun x => x.1))).Nodup := by simpa using h.once
  have hR := ring_leave hch hon
  have hp := ch_prev (l1.map (fun x => x.1)) rb x.1 (l2.map (fun x => x.1) ++ [rb]) (by simpa using hch)
  have hxm : x ∈ (rb, nilP) :: (l1 ++ x :: l2) := by simp
  have hnm : N x.1 ∈ rb :: (l1 ++ x :: l2).map (fun x => x.1) := by
    rcases List.mem_cons.1 hp.1 with e | e
    · rw [e]; simp
    · exact List.mem_cons_of_mem _ (by rw [List.map_append]; exact List.mem_append_left _ e)
  have hom : O x.1 ∈ rb :: (l1 ++ x :: l2).map (fun x => x.1) := by
    have h2 := ((ch_app (l1.map (fun x => x.1)) rb x.1 (l2.map (fun x => x.1) ++ [rb])).1 (by simpa using hch)).2
    cases l2 with
    | nil => rw [h2.1]; simp
    | cons y r => rw [h2.1]; simp
  obtain ⟨yo, hyo, eo⟩ := mem_ringP hom
  obtain ⟨yn, hyn, en⟩ := mem_ringP hnm
  obtain ⟨_, _, c3, c4, _, _⟩ := cel_cellsP (h.all x hxm)
  have bo := h.all yo hyo
  have bn := h.all yn hyn
  rw [eo] at bo
  rw [en] at bn
  obtain ⟨_, _, _, d4, _, g4⟩ := cel_cellsP bo
  obtain ⟨_, _, d3, _, g3, _⟩ := cel_cellsP bn
  have A2 := hide' (all_olderP (all_newerP h.all (O x.1) (N x.1)) (N x.1) (O x.1))
  have HO : Hid (Off (RingSP rb (l1 ++ x :: l2)) W ((W.setCell ⟨O x.1, 5, none⟩ (.pointer (some ⟨N x.1, 0, none⟩))).setCell ⟨N x.1, 4, none⟩ (.pointer (some ⟨O x.1, 0, none⟩)))) := Off.trans (off_poke ⟨O x.1, 5, none⟩ hom _) (off_poke (S := RingSP rb (l1 ++ x :: l2)) ⟨N x.1, 4, none⟩ hnm _) (fun i hi => .inl hi)
  have P2 : Hid (∀ k ∈ rb :: (l1 ++ x :: l2).map (fun x => x.1), Pln k ((W.setCell ⟨O x.1, 5, none⟩ (.pointer (some ⟨N x.1, 0, none⟩))).setCell ⟨N x.1, 4, none⟩ (.pointer (some ⟨O x.1, 0, none⟩))).drew) := fun k hk => pln_drew (pln_set (pln_set (h.pln k hk) _ _) _ _)
  have HR : Hid (∀ W', AllP ((rb, nilP) :: (l1 ++ x :: l2)) (updF O (N x.1) (O x.1)) (updF N (O x.1) (N x.1)) W' → (∀ k ∈ rb :: (l1 ++ x :: l2).map (fun x => x.1), Pln k W') → RgP rb (l1 ++ l2) (updF O (N x.1) (O x.1)) (updF N (O x.1) (N x.1)) W' ∧ ∃ o n, Blk x.1 W' (celP x.2 o n) ∧ Pln x.1 W') := fun W' ha hpl => by
    refine ⟨⟨fun y hy => ha y ?_, by simpa using hR, ?_, fun k hk => hpl k ?_⟩, _, _, ha x hxm, hpl x.1 (List.mem_cons_of_mem _ (List.mem_map.2 ⟨x, by simp, rfl⟩))⟩
    · rcases List.mem_cons.1 hy with e | e
      · rw [e]; simp
      · rcases List.mem_append.1 e with e | e <;> simp [e]
    · have := h.once
      rw [List.map_append, List.map_cons] at this
      rw [List.map_append]
      exact this.sublist (List.Sublist.cons_cons _ (List.Sublist.append (List.Sublist.refl _) (List.sublist_cons_self _ _)))
    · rcases List.mem_cons.1 hk with e | e
      · rw [e]; simp
      · obtain ⟨y, hy, e2⟩ := List.mem_map.1 e
        exact List.mem_cons_of_mem _ (List.mem_map.2 ⟨y, by rcases List.mem_append.1 hy with e | e <;> simp [e], e2⟩)
  generalize O x.1 = ob at *
  generalize N x.1 = nb at *
  clear hch hon hR hp hxm hnm hom hyo hyn eo en bo bn h
  go_enter Try.func49, Try.ntmps49
  go_wp2_with fail
  go_region
  all_goals
    go_wp2_with fail
    go_end0
    exact ⟨rfl, _, _, (HR.out _ (all_belowP A2.out ((Below.refl _ _).drew)) P2.out).1, off_drew HO.out, (HR.out _ (all_belowP A2.out ((Below.refl _ _).drew)) P2.out).2⟩
set_option maxRecDepth 20000 in
set_option maxHeartbeats 4000000 in
theorem joinPC {rb b : Nat} {ns : List (Nat × It (Nm × Int))} {x : It (Nm × Int)} {v3 v4 : Value} {O N : Nat → Nat} {W : World} (h : RgP rb ns O N W) (hb : Blk b W [S x.key, S x.v.1, .int .i64 x.v.2, .int .i64 x.size, v3, v4]) (hpb : Pln b W) (hn : b ∉ rb :: ns.map (fun x => x.1)) :
    Calls Try.prog 43 #[.pointer (some ⟨b, 0, none⟩), .pointer (some ⟨rb, 0, none⟩)] W fun e W' => e = .returned (.tuple #[]) ∧ ∃ O' N', RgP rb ((b, x) :: ns) O' N' W' ∧ Off (fun k => k = b ∨ RingSP rb ns k) W W' := by
  have hR := ring_join h.chain h.once hn
  have hbr : b ≠ rb := fun e => hn (by simp [e])
  have hrm : (rb, nilP) ∈ (rb, nilP) :: ns := by simp
  have hom : O rb ∈ rb :: ns.map (fun x => x.1) := by
    have h2 := h.chain
    cases ns with
    | nil => rw [h2.1]; simp
    | cons y r => rw [h2.1]; simp
  have hbo : b ≠ O rb := fun e => hn (by rw [e]; exact hom)
  obtain ⟨yo, hyo, eo⟩ := mem_ringP hom
  obtain ⟨_, _, c3, _, g3, _⟩ := cel_cellsP (h.all _ hrm)
  have bo := h.all yo hyo
  rw [eo] at bo
  obtain ⟨_, _, _, d4, _, g4⟩ := cel_cellsP bo
  have e3 := (hb.1 4 (by simp)).1
  have e4 := (hb.1 5 (by simp)).1
  have f3 := (hb.1 4 (by simp)).2
  have f4 := (hb.1 5 (by simp)).2
  simp only [List.getElem_cons_succ, List.getElem_cons_zero] at e3 e4
  have k1 : Blk b ((W.setCell ⟨b, 4, none⟩ (.pointer (some ⟨O rb, 0, none⟩))).setCell ⟨b, 5, none⟩ (.pointer (some ⟨rb, 0, none⟩))) (celP x (O rb) rb) := by
    have := cells_set (cells_set hb (j := 4) (by simp) (.pointer (some ⟨O rb, 0, none⟩))) (j := 5) (by simp) (.pointer (some ⟨rb, 0, none⟩))
    simpa [celP] using this
  have A1 : AllP ((rb, nilP) :: (b, x) :: ns) (updF O b (O rb)) (updF N b rb) ((W.setCell ⟨b, 4, none⟩ (.pointer (some ⟨O rb, 0, none⟩))).setCell ⟨b, 5, none⟩ (.pointer (some ⟨rb, 0, none⟩))) := by
    have key : ∀ y ∈ (rb, nilP) :: ns, Blk y.1 ((W.setCell ⟨b, 4, none⟩ (.pointer (some ⟨O rb, 0, none⟩))).setCell ⟨b, 5, none⟩ (.pointer (some ⟨rb, 0, none⟩))) (celP y.2 (updF O b (O rb) y.1) (updF N b rb y.1)) := fun y hy => by
      have hne : y.1 ≠ b := fun e => hn (by
        rw [← e]
        rcases List.mem_cons.1 hy with e2 | e2
        · rw [e2]; simp
        · exact List.mem_cons_of_mem _ (List.mem_map.2 ⟨y, e2, rfl⟩))
      rw [updF_other _ _ hne, updF_other _ _ hne]
      exact cells_other (cells_other (h.all y hy) hne _) hne _
    intro y hy
    rcases List.mem_cons.1 hy with e | e
    · exact key y (by rw [e]; simp)
    · rcases List.mem_cons.1 e with e | e
      · rw [e]
        show Blk b _ (celP x (updF O b (O rb) b) (updF N b rb b))
        rw [updF_same, updF_same]
        exact k1
      · exact key y (by simp [e])
  have A2 := hide' (all_olderP (all_newerP A1 (O rb) b) rb b)
  have HO : Hid (Off (fun k => k = b ∨ RingSP rb ns k) W ((((W.setCell ⟨b, 4, none⟩ (.pointer (some ⟨O rb, 0, none⟩))).setCell ⟨b, 5, none⟩ (.pointer (some ⟨rb, 0, none⟩))).setCell ⟨O rb, 5, none⟩ (.pointer (some ⟨b, 0, none⟩))).setCell ⟨rb, 4, none⟩ (.pointer (some ⟨b, 0, none⟩)))) :=
    Off.trans (Off.trans (Off.trans (off_poke ⟨b, 4, none⟩ (.inl rfl) _) (off_poke (S := fun k => k = b ∨ RingSP rb ns k) ⟨b, 5, none⟩ (.inl rfl) _) (fun i hi => .inl hi)) (off_poke (S := fun k => k = b ∨ RingSP rb ns k) ⟨O rb, 5, none⟩ (.inr hom) _) (fun i hi => .inl hi)) (off_poke (S := fun k => k = b ∨ RingSP rb ns k) ⟨rb, 4, none⟩ (.inr (by unfold RingSP; simp)) _) (fun i hi => .inl hi)
  have P2 : Hid (∀ k ∈ rb :: ((b, x) :: ns).map (fun x => x.1), Pln k ((((W.setCell ⟨b, 4, none⟩ (.pointer (some ⟨O rb, 0, none⟩))).setCell ⟨b, 5, none⟩ (.pointer (some ⟨rb, 0, none⟩))).setCell ⟨O rb, 5, none⟩ (.pointer (some ⟨b, 0, none⟩))).setCell ⟨rb, 4, none⟩ (.pointer (some ⟨b, 0, none⟩))).drew) := fun k hk => pln_drew (pln_set (pln_set (pln_set (pln_set (by
    rcases List.mem_cons.1 hk with e | e
    · exact h.pln k (by rw [e]; simp)
    · rcases List.mem_cons.1 e with e | e
      · rw [e]; exact hpb
      · exact h.pln k (List.mem_cons_of_mem _ e)) _ _) _ _) _ _) _ _)
  have HR : Hid (∀ W', AllP ((rb, nilP) :: (b, x) :: ns) (updF (updF O b (O rb)) rb b) (updF (updF N b rb) (O rb) b) W' → (∀ k ∈ rb :: ((b, x) :: ns).map (fun x => x.1), Pln k W') → RgP rb ((b, x) :: ns) (updF (updF O b (O rb)) rb b) (updF (updF N b rb) (O rb) b) W') := fun W' ha hpl =>
    ⟨ha, by simpa using hR, by
      rw [List.map_cons]
      have h1 := List.nodup_cons.1 h.once
      refine List.nodup_cons.2 ⟨fun e => ?_, List.nodup_cons.2 ⟨fun e => hn (List.mem_cons_of_mem _ e), h1.2⟩⟩
      rcases List.mem_cons.1 e with e | e
      · exact hbr e.symm
      · exact h1.1 e, hpl⟩
  have hrb : rb ≠ b := fun e => hbr e.symm
  generalize O rb = ob at *
  have hob : ob ≠ b := fun e => hbo e.symm
  clear hR hrm hom hyo eo bo h hn hb k1 A1 hpb
  go_enter Try.func43, Try.ntmps43
  go_wp2_with fail
  go_region
  all_goals
    go_wp2_with fail
    go_end0
    exact ⟨rfl, _, _, HR.out _ (all_belowP A2.out ((Below.refl _ _).drew)) P2.out, off_drew HO.out⟩
end Go.Proofs.Ytikkmnclcbanfaa
