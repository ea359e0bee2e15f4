/- The contract of Create. -/
import Derived.Test.YtibjcofbhldenaaGreatDoorZ20
namespace Go.Proofs.YtibjcofbhldenaaGreatDoor
open Go.RowKit Go.Maps
/-- what a call leaves of what was there, in three rules; but for block g -/
def KeepsC (W W' : World) : Prop := (∀ b, b < W.heap.size → b < W'.heap.size) ∧ (∀ b x, b < W.heap.size → W'.cell? ⟨b, x, none⟩ = W.cell? ⟨b, x, none⟩) ∧ (∀ b x, b < W.heap.size → W'.frozen? ⟨b, x, none⟩ = W.frozen? ⟨b, x, none⟩)
def KeepsN (g : Nat) (W W' : World) : Prop := (∀ b, b < W.heap.size → b < W'.heap.size) ∧ (∀ b x, b < W.heap.size → ¬ b = g → W'.cell? ⟨b, x, none⟩ = W.cell? ⟨b, x, none⟩) ∧ (∀ b x, b < W.heap.size → ¬ b = g → W'.frozen? ⟨b, x, none⟩ = W.frozen? ⟨b, x, none⟩)
theorem keepsN_off {g : Nat} {W W' : World} (h : Off (fun k => k = g) W W') : KeepsN g W W' :=
  ⟨fun _ hb => Nat.lt_of_lt_of_le hb h.size, fun b _ hb h1 => World.cell?_of_block (h.block b hb h1), fun b _ hb h1 => World.frozen?_of_block (h.block b hb h1)⟩
theorem keepsC_of {W W' : World} (h : Below W.heap.size W W') : KeepsC W W' := ⟨fun _ hg => Nat.lt_of_lt_of_le hg h.size, fun g o hg => h.cell (p := ⟨g, o, none⟩) hg, fun g o hg => h.frozen (p := ⟨g, o, none⟩) hg⟩
/-- a cell that is there and may be written -/
def CF (w : World) (b : Nat) (v : Value) : Prop := w.cell? ⟨b, 0, none⟩ = some v ∧ w.frozen? ⟨b, 0, none⟩ = false
theorem cf_al {w : World} {b : Nat} {v : Value} (h : CF w b v) (o : Obj) : CF (w.alloc o) b v := by
  have e := (below_alloc' w o).block b (cell_lt h.1)
  exact ⟨by rw [World.cell?_of_block (w := w) (a := ⟨b, 0, none⟩) e]; exact h.1, by rw [World.frozen?_of_block (w := w) (a := ⟨b, 0, none⟩) e]; exact h.2⟩
theorem cf_set {w : World} {b c j : Nat} {v x : Value} (h : CF w b v) (hn : b ≠ c) : CF (w.setCell ⟨c, j, none⟩ x) b v := by
  have e : (w.setCell ⟨c, j, none⟩ x).heap[b]? = w.heap[b]? := Below.heap_setCell _ _ _ _ hn
  exact ⟨by rw [World.cell?_of_block (w := w) (a := ⟨b, 0, none⟩) e]; exact h.1, by rw [World.frozen?_of_block (w := w) (a := ⟨b, 0, none⟩) e]; exact h.2⟩
/-- behind the new file and the two variables: the change is done, and kept -/
theorem cre_end {o : Ow} {g m0 m1 m2 : Nat} {pv : Value} {fb : Nat → Nat} {s : Dk} {cs : List Chg} {W We : World} {X A : Nat} {nm : ByteArray} (hN : NFw o g m0 m1 m2 pv fb s cs W X We) (hlt : ∀ k, o.has k → k < W.heap.size) (hog : o g = some .disk)
    (cA : We.cell? ⟨A, 0, none⟩ = some (.pointer (some ⟨X, 0, none⟩))) (cB : We.cell? ⟨W.heap.size, 0, none⟩ = some (.string nm)) (hA : W.heap.size < A) (hAX : A ≠ X) (hX : W.heap.size < X) (gd : goodN nm.data.toList = true)
    (hw : Wf ({ s with data := s.data ++ [[]], firm := s.firm ++ [0] }.named ((Chg.put nm.data.toList s.data.length).app s.now))) (ho : Once ((Chg.put nm.data.toList s.data.length).app s.now)) (hl : s.now.length ≤ 1000000000) (hcs : cs.length ≤ 1000000000) :
    Calls Tryz.prog 101 #[.pointer (some ⟨g, 0, none⟩), .func (.func 183) #[] #[.pointer (some ⟨A, 0, none⟩), .pointer (some ⟨W.heap.size, 0, none⟩)]] We fun e w' => e = .returned (.tuple #[]) ∧ ∃ o', Dsk o' g ({ s with data := s.data ++ [[]], firm := s.firm ++ [0] }.named ((Chg.put nm.data.toList s.data.length).app s.now)) w' ∧ Grow o W o' w' := by
  obtain ⟨hV, hO, hX1, hX2⟩ := hN
  have lA := cell_lt cA
  have lB := cell_lt cB
  have nA : (o.set X (.file s.data.length)) A = none := by rw [set_other _ _ hAX]; exact none_of_lt hlt (by omega)
  have nB : (o.set X (.file s.data.length)) W.heap.size = none := by rw [set_other _ _ (by omega)]; exact none_of_lt hlt (by omega)
  have nB2 : ((o.set X (.file s.data.length)).set A .cap) W.heap.size = none := by rw [set_other _ _ (by omega)]; exact nB
  have le1 : (o.set X (.file s.data.length)).le ((o.set X (.file s.data.length)).set A .cap) := le_set _ (.inl nA)
  have le2 : ((o.set X (.file s.data.length)).set A .cap).le (((o.set X (.file s.data.length)).set A .cap).set W.heap.size .cap) := le_set _ (.inl nB2)
  have le12 : (o.set X (.file s.data.length)).le (((o.set X (.file s.data.length)).set A .cap).set W.heap.size .cap) := fun k r e => le2 k r (le1 k r e)
  have le0 : o.le (o.set X (.file s.data.length)) := le_set _ (.inl (none_of_lt hlt (by omega)))
  have hV2 : DkV (((o.set X (.file s.data.length)).set A .cap).set W.heap.size .cap) g m0 m1 m2 pv (upd fb s.data.length X) { s with data := s.data ++ [[]], firm := s.firm ++ [0] } cs We := dkV_le hV le12 (fun k hk => by
    rcases has_set hk with e | e
    · rw [e]; exact lB
    · rcases has_set e with e | e
      · rw [e]; exact lA
      · exact hV.lt k e)
  have cv : ChgV (((o.set X (.file s.data.length)).set A .cap).set W.heap.size .cap) (upd fb s.data.length X) We (.func (.func 183) #[] #[.pointer (some ⟨A, 0, none⟩), .pointer (some ⟨W.heap.size, 0, none⟩)]) (.put nm.data.toList s.data.length) :=
    ⟨good_len gd, A, W.heap.size, rfl, by rw [upd_same]; exact cA, by rw [s_eta]; exact cB, le2 _ _ (set_same _ _ _), set_same _ _ _⟩
  refine (doC hV2 (.put nm.data.toList s.data.length) _ cv hw ho hl hcs).mono ?_
  rintro e w' ⟨rfl, o', pv', q1, q2⟩
  refine ⟨rfl, o', ⟨_, _, _, _, _, _, q1⟩, Grow.trans ⟨hO.mono (fun i e => by rw [e]; exact has_of hog), fun k r e => le12 k r (le0 k r e), fun k hk => ?_⟩ q2⟩
  rcases has_set hk with e | e
  · right; omega
  · rcases has_set e with e | e
    · right; omega
    · rcases has_set e with e | e
      · right; omega
      · exact .inl e
theorem cre_w2 {o : Ow} {g m0 m1 m2 : Nat} {pv : Value} {fb : Nat → Nat} {s : Dk} {cs : List Chg} {W L : World} {X A : Nat} {v0 v1 : Value} (nm : ByteArray) (hN : NFw o g m0 m1 m2 pv fb s cs W X L) (hlt : ∀ k, o.has k → k < W.heap.size) (hA : W.heap.size < A) (hAX : A ≠ X) (hX : W.heap.size < X)
    (cA : L.cell? ⟨A, 0, none⟩ = some v0) (cB : L.cell? ⟨W.heap.size, 0, none⟩ = some v1) :
    NFw o g m0 m1 m2 pv fb s cs W X ((L.setCell ⟨A, 0, none⟩ (.pointer (some ⟨X, 0, none⟩))).setCell ⟨W.heap.size, 0, none⟩ (.string nm)) ∧ ((L.setCell ⟨A, 0, none⟩ (.pointer (some ⟨X, 0, none⟩))).setCell ⟨W.heap.size, 0, none⟩ (.string nm)).cell? ⟨A, 0, none⟩ = some (.pointer (some ⟨X, 0, none⟩)) ∧ ((L.setCell ⟨A, 0, none⟩ (.pointer (some ⟨X, 0, none⟩))).setCell ⟨W.heap.size, 0, none⟩ (.string nm)).cell? ⟨W.heap.size, 0, none⟩ = some (.string nm) := by
  have nA : (o.set X (.file s.data.length)) A = none := by rw [set_other _ _ hAX]; exact none_of_lt hlt (by omega)
  have nB : (o.set X (.file s.data.length)) W.heap.size = none := by rw [set_other _ _ (by omega)]; exact none_of_lt hlt (by omega)
  have N1 := nf_off (S := fun k => k = A) hN (off_poke (S := fun k => k = A) ⟨A, 0, none⟩ rfl (.pointer (some ⟨X, 0, none⟩))) (fun k hk => ⟨by rw [hk]; exact nA, by omega⟩)
  have N2 := nf_off (S := fun k => k = W.heap.size) N1 (off_poke (S := fun k => k = W.heap.size) ⟨W.heap.size, 0, none⟩ rfl (.string nm)) (fun k hk => ⟨by rw [hk]; exact nB, by omega⟩)
  refine ⟨N2, ?_, ?_⟩
  · rw [World.cell?_of_block (w := L.setCell ⟨A, 0, none⟩ (.pointer (some ⟨X, 0, none⟩))) (a := ⟨A, 0, none⟩) (Below.heap_setCell _ _ _ _ (by show A ≠ W.heap.size; omega))]
    exact World.cell?_setCell_same _ _ _ cA
  · refine World.cell?_setCell_same (u := v1) _ _ _ ?_
    rw [World.cell?_of_block (w := L) (a := ⟨W.heap.size, 0, none⟩) (Below.heap_setCell _ _ _ _ (by show W.heap.size ≠ A; omega))]
    exact cB
theorem cre_w1 {o : Ow} {g m0 m1 m2 : Nat} {pv : Value} {fb : Nat → Nat} {s : Dk} {cs : List Chg} {W L : World} {X : Nat} {v1 : Value} (nm : ByteArray) (t : TypeId) (hN : NFw o g m0 m1 m2 pv fb s cs W X L) (hlt : ∀ k, o.has k → k < W.heap.size) (hX : W.heap.size < X)
    (cB : L.cell? ⟨W.heap.size, 0, none⟩ = some v1) :
    NFw o g m0 m1 m2 pv fb s cs W X ((L.setCell ⟨W.heap.size, 0, none⟩ (.string nm)).alloc (.cells #[.pointer (some ⟨X, 0, none⟩)] t)) ∧ ((L.setCell ⟨W.heap.size, 0, none⟩ (.string nm)).alloc (.cells #[.pointer (some ⟨X, 0, none⟩)] t)).cell? ⟨L.heap.size, 0, none⟩ = some (.pointer (some ⟨X, 0, none⟩)) ∧ ((L.setCell ⟨W.heap.size, 0, none⟩ (.string nm)).alloc (.cells #[.pointer (some ⟨X, 0, none⟩)] t)).cell? ⟨W.heap.size, 0, none⟩ = some (.string nm) := by
  have nB : (o.set X (.file s.data.length)) W.heap.size = none := by rw [set_other _ _ (by omega)]; exact none_of_lt hlt (by omega)
  have N2 := nf_off (S := fun k => k = W.heap.size) hN (off_poke (S := fun k => k = W.heap.size) ⟨W.heap.size, 0, none⟩ rfl (.string nm)) (fun k hk => ⟨by rw [hk]; exact nB, by omega⟩)
  have zz : (L.setCell ⟨W.heap.size, 0, none⟩ (.string nm)).heap.size = L.heap.size := by simp [World.setCell]
  have c1 : (L.setCell ⟨W.heap.size, 0, none⟩ (.string nm)).cell? ⟨W.heap.size, 0, none⟩ = some (.string nm) := World.cell?_setCell_same _ _ _ cB
  have bl := below_alloc' (L.setCell ⟨W.heap.size, 0, none⟩ (.string nm)) (.cells #[.pointer (some ⟨X, 0, none⟩)] t)
  refine ⟨nf_below N2 bl, ?_, ?_⟩
  · have := ((cells_lit (L.setCell ⟨W.heap.size, 0, none⟩ (.string nm)) #[.pointer (some ⟨X, 0, none⟩)] t).1 0 (by simp)).1
    rw [zz] at this
    simpa using this
  · rw [World.cell?_of_block (w := L.setCell ⟨W.heap.size, 0, none⟩ (.string nm)) (a := ⟨W.heap.size, 0, none⟩) (bl.block _ (cell_lt c1))]
    exact c1
set_option maxRecDepth 20000 in
set_option maxHeartbeats 8000000 in
theorem createC {o : Ow} {g : Nat} {s : Dk} {W : World} (h : Dsk o g s W) (nm : ByteArray) (to : Nm) (d : List UInt8) (hs : nm.size ≤ 140737488351232) (hB : Bd 900000000 s) :
    Calls Tryz.prog 156 #[.pointer (some ⟨g, 0, none⟩), .string nm] W fun e W' => StepPost o g s ⟨1, nm.data.toList, to, d⟩ W e W' := by
  obtain ⟨m0, m1, m2, pv, fb, cs, v⟩ := h
  have bA := below_alloc' W (.cells #[.string nm] 9)
  have zA : (W.alloc (.cells #[.string nm] 9)).heap.size = W.heap.size + 1 := by simp
  have bB := below_alloc' (W.alloc (.cells #[.string nm] 9)) (.cells #[.string nm] 9)
  have zB : ((W.alloc (.cells #[.string nm] 9)).alloc (.cells #[.string nm] 9)).heap.size = W.heap.size + 2 := by simp
  have blkA : Blk W.heap.size (W.alloc (.cells #[.string nm] 9)) [.string nm] := by simpa using cells_lit W #[.string nm] 9
  have blkB := cells_below blkA bB
  have hng : W.heap.size ≠ g := by have := v.blk.2; omega
  have V2 := dkV_below (dkV_below v bA) bB
  have hHo : Holds ((W.alloc (.cells #[.string nm] 9)).alloc (.cells #[.string nm] 9)) (.slice (some ⟨W.heap.size + 1, 0, none⟩) 1 1) [nm.data.toList] := by
    have := holds_lit1 (W.alloc (.cells #[.string nm] 9)) nm.data.toList
    rw [s_eta, zA] at this
    exact this
  have CO := hide' (stepC V2 _ _ hHo (fun n hn => by rw [List.mem_singleton.1 hn]; simpa using hs) (by simp) (by have := hB.1; omega) (fun ad n c e => by cases e; exact none_of_lt v.lt (by simp)))
  have V := hide' v
  have BAB : Hid (Below W.heap.size W ((W.alloc (.cells #[.string nm] 9)).alloc (.cells #[.string nm] 9))) := bA.trans (bB.mono (by omega))
  have BK : Hid (∀ w1, Off (fun k => k = g) ((W.alloc (.cells #[.string nm] 9)).alloc (.cells #[.string nm] 9)) w1 → Blk W.heap.size w1 [.string nm]) := fun w1 ho => by
    have e := ho.block W.heap.size blkB.2 hng
    exact ⟨fun j hj => ⟨by rw [World.cell?_of_block (a := ⟨W.heap.size, j, none⟩) e]; exact (blkB.1 j hj).1, by rw [World.frozen?_of_block (a := ⟨W.heap.size, j, none⟩) e]; exact (blkB.1 j hj).2⟩, Nat.lt_of_lt_of_le blkB.2 ho.size⟩
  have G1 : Hid (∀ w1, Off (fun k => k = g) ((W.alloc (.cells #[.string nm] 9)).alloc (.cells #[.string nm] 9)) w1 → Grow o W o w1) := fun w1 ho => (grow_below BAB.out).trans (grow_g ho V.out.og)
  have HBD := hide' hB
  by_cases hE : stepE s [nm.data.toList] = 0
  · obtain ⟨sp1, sp2⟩ := cre_spec s nm.data.toList to d hE
    have hgd := z_good hE nm.data.toList (by simp)
    rw [hE] at CO
    cases ha : atN s.now nm.data.toList with
    | some k =>
      have SP := hide' (sp1 k ha)
      have HA := hide' ha
      clear v hE sp1 sp2 V2 bA bB zA zB blkA blkB hB hHo ha
      go_enter Tryz.func156, Tryz.ntmps156
      go_wp2_with fail
      refine CO.out.mono ?_
      rintro e w1 ⟨rfl, h1, h2⟩
      have H1 := hide' h1
      have H2 := hide' h2
      have K1 := hide' (BK.out w1 h2)
      have c3 := (K1.out.1 0 (by simp)).1
      simp only [List.getElem_cons_zero] at c3
      obtain ⟨⟨_, _, _, _, _, c5, _⟩, _⟩ := cells_eight h1.blk
      have hlk : ∀ n, (Instr.lookup 117 (.map (some m1)) (.string nm) true).run Tryz.prog (w1.drewN n) = .ok (.tuple #[.pointer (some ⟨fb k, 0, none⟩), .bool true]) (w1.drewN n) := fun n => look_some (dkV_drew H1.out n).seen hs (by rw [cnt_now]; exact HA.out)
      clear h1 h2
      go_wp2_with fail
      go_quiet (fail)
      go_wp2_with fail
      go_ret
      exact ⟨by rw [SP.out]; rfl, o, by rw [SP.out]; exact ⟨_, _, _, _, _, _, dkV_drew H1.out _⟩, (G1.out _ H2.out).trans (grow_below (below_drewN _ _))⟩
    | none =>
      have SP := hide' (sp2 ha)
      have HA := hide' ha
      have hwf := wf_step v.wf ⟨1, nm.data.toList, to, d⟩
      have hon := once_step v.wf v.once ⟨1, nm.data.toList, to, d⟩
      rw [SP.out] at hwf hon
      have HW := hide' hwf
      have HO := hide' hon
      have HGD := hide' hgd
      have hcl : cs.length ≤ 1000000000 := by have h1 := v.sc.1; have h2 := hB.2.2.2.2.1; rw [h1, scan_len] at h2; omega
      have hnl : (cntS s).now.length ≤ 1000000000 := by rw [cnt_now]; have := hB.2.2.1; omega
      have HCL := hide' hcl
      have HNL := hide' hnl
      have HDL : Hid ((cntS s).data.length ≤ 1000000000) := by unfold Hid; rw [cnt_data]; have := hB.2.1; omega
      have hmf : ∀ (fn : Fn) (first cap : Array Value) (w : World), (Instr.makeFunc fn first cap).run Tryz.prog w = .ok (.func fn first cap) w := fun _ _ _ _ => rfl
      clear v hE sp1 sp2 V2 bA bB zA zB blkA blkB hB hHo ha hwf hon hgd hcl hnl
      go_enter Tryz.func156, Tryz.ntmps156
      go_wp2_with fail
      refine CO.out.mono ?_
      rintro e w1 ⟨rfl, h1, h2⟩
      have H1 := hide' h1
      have H2 := hide' h2
      have K1 := hide' (BK.out w1 h2)
      have c3 := (K1.out.1 0 (by simp)).1
      have f3 := (K1.out.1 0 (by simp)).2
      simp only [List.getElem_cons_zero] at c3
      obtain ⟨⟨_, _, _, _, _, c5, _⟩, _⟩ := cells_eight h1.blk
      have hlk : ∀ n, (Instr.lookup 117 (.map (some m1)) (.string nm) true).run Tryz.prog (w1.drewN n) = .ok (.tuple #[.pointer none, .bool false]) (w1.drewN n) := fun n => look_none (dkV_drew H1.out n).seen hs (by rw [cnt_now]; exact HA.out)
      clear h1 h2
      go_wp2_with fail
      go_quiet (fail)
      have V3 := hide' (dkV_drew H1.out nq)
      have O3 : Hid (Off (fun k => k = g) W (w1.drewN nq)) := Off.trans (Off.trans (off_of (S := fun k => k = g) BAB.out) H2.out (fun i hi => .inl hi)) (off_of (S := fun _ => False) (below_drewN w1 nq)) (fun i hi => hi.elim)
      have K3 := hide' (cells_below K1.out (below_drewN w1 nq))
      clear hlk c5 c3 f3 H1 H2 K1
      generalize w1.drewN nq = w2 at V3 O3 K3 ⊢
      have c3 := (K3.out.1 0 (by simp)).1
      have f3 := (K3.out.1 0 (by simp)).2
      simp only [List.getElem_cons_zero] at c3
      have hB2 := K3.out.2
      -- newFile in a world that has more than w2
      have hgz : g < w2.heap.size := V3.out.blk.2
      have CN : Hid (∀ Wx, Below w2.heap.size w2 Wx → Calls Tryz.prog 71 #[.pointer (some ⟨g, 0, none⟩)] Wx fun e w' => e = .returned (.pointer (some ⟨Wx.heap.size, 0, none⟩)) ∧ Hid (NFw o g m0 m1 m2 pv fb (cntS s) cs W Wx.heap.size w') ∧ (w'.cell? ⟨W.heap.size, 0, none⟩ = some (.string nm) ∧ w'.frozen? ⟨W.heap.size, 0, none⟩ = false ∧ W.heap.size < w'.heap.size ∧ g < w'.heap.size ∧ ¬ w'.heap.size = g) ∧ KeepsN g Wx w') := by
        intro Wx hb
        have Vx := dkV_below V3.out hb
        refine (newFileC Vx HDL.out).mono ?_
        rintro e w' ⟨rfl, rfl⟩
        have hN := dkV_new Vx
        have hoff : Off (fun k => k = g) Wx (newB Wx g (cntS s).data.length) := Off.trans (off_poke (S := fun k => k = g) ⟨g, 4, none⟩ rfl _) (off_alloc (S := fun _ => False) _) (fun i hi => hi.elim)
        have kb := cells_below K3.out hb
        have e := hoff.block W.heap.size kb.2 hng
        have k1 := (kb.1 0 (by simp)).1
        simp only [List.getElem_cons_zero] at k1
        refine ⟨rfl, ⟨hN, Off.trans (Off.trans O3.out (off_of (S := fun _ => False) hb) (fun i hi => hi.elim)) hoff (fun i hi => .inl hi), Nat.le_trans O3.out.size hb.size, ?_⟩, ⟨by rw [World.cell?_of_block (w := Wx) (a := ⟨W.heap.size, 0, none⟩) e]; exact k1, by rw [World.frozen?_of_block (w := Wx) (a := ⟨W.heap.size, 0, none⟩) e]; exact (kb.1 0 (by simp)).2, Nat.lt_of_lt_of_le kb.2 hoff.size, hN.blk.2, by have := hN.blk.2; omega⟩, keepsN_off hoff⟩
        simp [World.setCell]
      have CK : Hid (∀ Wx, CF Wx W.heap.size (.string nm) → g < Wx.heap.size → Calls Tryz.prog 73 #[.string nm] Wx fun e w' => e = .returned (.string nm) ∧ Hid (Below Wx.heap.size Wx w') ∧ (w'.cell? ⟨W.heap.size, 0, none⟩ = some (.string nm) ∧ w'.frozen? ⟨W.heap.size, 0, none⟩ = false ∧ W.heap.size < w'.heap.size ∧ g < w'.heap.size ∧ ¬ w'.heap.size = g) ∧ KeepsC Wx w') := fun Wx ⟨x1, x2⟩ xg => (clone nm Wx hs).mono (by
        rintro e w' ⟨rfl, hb⟩
        have hl := cell_lt x1
        have e := hb.block W.heap.size hl
        exact ⟨rfl, hb, ⟨by rw [World.cell?_of_block (w := Wx) (a := ⟨W.heap.size, 0, none⟩) e]; exact x1, by rw [World.frozen?_of_block (w := Wx) (a := ⟨W.heap.size, 0, none⟩) e]; exact x2, Nat.lt_of_lt_of_le hl hb.size, Nat.lt_of_lt_of_le xg hb.size, by have := hb.size; omega⟩, keepsC_of hb⟩)
      unfold KeepsN at CN
      unfold KeepsC at CK
      have hg2 : ¬ w2.heap.size = g := by omega
      go_wp2_with fail
      go_region_with (first
        | (go_at_call 71; refine (CN.out _ ?_).mono ?_; (first | exact Below.refl _ _ | exact (Below.refl _ _).drew | exact ((Below.refl _ _).drew.alloc (by simp) _) | exact ((below_alloc' _ _).drew) | assumption); rintro e w3 ⟨rfl, N3, ⟨x3, y3, u3, g3, n3⟩, z3, k3, j3⟩)
        | (go_at_call 73; refine (CK.out _ ?_ ?_).mono ?_; (first | exact ⟨c3, f3⟩ | exact ⟨x3, y3⟩ | exact cf_al ⟨x3, y3⟩ _ | exact cf_al ⟨c3, f3⟩ _); (first | assumption | (simp; omega)); rintro e w4 ⟨rfl, B4, ⟨x4, y4, u4, g4, n4⟩, z4, k4, j4⟩))
      all_goals
        go_wp2_with fail
        have q3 := N3.out.2.2.2
        have q4 := B4.out.size
        have qd : w2.drew.heap.size = w2.heap.size := rfl
        try simp at q3
        try simp at q4
        first
          | (have N4 : NFw o g m0 m1 m2 pv fb (cntS s) cs W w2.heap.size w4 := nf_below N3.out B4.out
             have E := cre_w1 nm 142 N4 V.out.lt hB2 x4
             refine (cre_end (A := w4.heap.size) E.1 V.out.lt V.out.og E.2.1 E.2.2 (by omega) (by omega) hB2 HGD.out HW.out HO.out HNL.out HCL.out).mono ?_)
          | (have N4 : NFw o g m0 m1 m2 pv fb (cntS s) cs W w2.heap.size w4 := nf_below (nf_below N3.out (below_alloc' w3 (.cells #[.pointer none] 142))) B4.out
             have cA : w4.cell? ⟨w3.heap.size, 0, none⟩ = some (.pointer none) := (k4 _ 0 (by simp)).trans (by simp)
             have E := cre_w2 nm N4 V.out.lt (A := w3.heap.size) (by omega) (by omega) hB2 cA x4
             refine (cre_end (A := w3.heap.size) E.1 V.out.lt V.out.og E.2.1 E.2.2 (by omega) (by omega) hB2 HGD.out HW.out HO.out HNL.out HCL.out).mono ?_)
          | (have N4 : NFw o g m0 m1 m2 pv fb (cntS s) cs W (w2.heap.size + 1) w4 := by
               have h0 := nf_below N3.out B4.out
               simpa using h0
             have cA : w4.cell? ⟨w2.heap.size, 0, none⟩ = some (.pointer none) := (k4 _ 0 (z3 _ (by simp))).trans ((k3 _ 0 (by simp) hg2).trans (by simp))
             have E := cre_w2 nm N4 V.out.lt (A := w2.heap.size) hB2 (by omega) (by omega) cA x4
             refine (cre_end (A := w2.heap.size) E.1 V.out.lt V.out.og E.2.1 E.2.2 hB2 (by omega) (by omega) HGD.out HW.out HO.out HNL.out HCL.out).mono ?_)
        rintro e w5 ⟨rfl, o', d5, g5⟩
        have D5 := hide' d5
        have G5 := hide' g5
        clear d5 g5
        go_wp2_with fail
        go_ret
        exact ⟨by rw [SP.out]; rfl, o', by rw [SP.out]; exact D5.out, G5.out⟩
  · have SP : Hid (s.step ⟨1, nm.data.toList, to, d⟩ = (cntS s, stepE s [nm.data.toList])) := step_e s ⟨1, nm.data.toList, to, d⟩ hE
    generalize stepE s [nm.data.toList] = E at hE CO SP
    have q : (E != 0) = true := by simpa using hE
    clear v hE V2 bA bB zA zB blkA blkB hB hHo
    go_enter Tryz.func156, Tryz.ntmps156
    go_wp2_with (go_at_call 143; refine CO.out.mono ?_; rintro e w1 ⟨rfl, h1, h2⟩; have H1 := hide' h1; have H2 := hide' h2; clear h1 h2)
    go_ret
    exact ⟨by rw [SP.out]; rfl, o, by rw [SP.out]; exact ⟨_, _, _, _, _, _, H1.out⟩, G1.out _ H2.out⟩
end Go.Proofs.YtibjcofbhldenaaGreatDoor
