/- The contract of the laws' alive (layer 12). The contract of Rename. The contract of Read. -/
import Derived.Test.YtibjcofbhldenaaGreatDoorZ26
import Derived.Test.YtibjcofbhldenaaGreatDoorZ27
namespace Go.Proofs.YtibjcofbhldenaaGreatDoor
open Go.RowKit
end Go.Proofs.YtibjcofbhldenaaGreatDoor
namespace Go.Proofs.YtibjcofbhldenaaGreatDoor
open Go.RowKit Go.Maps
theorem ren_spec (s : Dk) (nm to : Nm) (d : List UInt8) (h : stepE s [to, nm] = 0) : (atN s.now nm = none → s.step ⟨5, nm, to, d⟩ = (cntS s, 90)) ∧ ∀ k, atN s.now nm = some k → (nm = to → s.step ⟨5, nm, to, d⟩ = (cntS s, 0)) ∧ (nm ≠ to → s.step ⟨5, nm, to, d⟩ = ((cntS s).named ((Chg.mv nm to k).app (cntS s).now), 0)) := by
  obtain ⟨h1, h2⟩ := step_z s ⟨5, nm, to, d⟩ h
  refine ⟨fun e => ?_, fun k e => ⟨fun hc => ?_, fun hc => ?_⟩⟩
  · rw [h2, e, h1]; rfl
  · rw [h2, e, h1]
    show (if nm = to then (({ s with n := s.n + 1 } : Dk), (0 : Int)) else ({ s with n := s.n + 1 }.named (putN (delN s.now nm) to k), 0)) = _
    rw [if_pos hc]
  · rw [h2, e, h1]
    show (if nm = to then (({ s with n := s.n + 1 } : Dk), (0 : Int)) else ({ s with n := s.n + 1 }.named (putN (delN s.now nm) to k), 0)) = _
    rw [if_neg hc]
    rfl
/-- behind the variables: the change is done, and kept -/
theorem ren_end {o : Ow} {g m0 m1 m2 : Nat} {pv : Value} {fb : Nat → Nat} {s : Dk} {cs : List Chg} {W We : World} {A k : Nat} {fr to : ByteArray} (hV : DkV o g m0 m1 m2 pv fb s cs We) (hO : Off (fun k => k = g) W We) (hlt : ∀ k, o.has k → k < W.heap.size) (hog : o g = some .disk)
    (c0 : We.cell? ⟨W.heap.size, 0, none⟩ = some (.string fr)) (c1 : We.cell? ⟨W.heap.size + 1, 0, none⟩ = some (.string to)) (cA : We.cell? ⟨A, 0, none⟩ = some (.pointer (some ⟨fb k, 0, none⟩))) (hA : W.heap.size + 1 < A) (g1 : goodN fr.data.toList = true) (g2 : goodN to.data.toList = true)
    (hw : Wf (s.named ((Chg.mv fr.data.toList to.data.toList k).app s.now))) (ho : Once ((Chg.mv fr.data.toList to.data.toList k).app s.now)) (hl : s.now.length ≤ 1000000000) (hcs : cs.length ≤ 1000000000) :
    Calls Tryz.prog 101 #[.pointer (some ⟨g, 0, none⟩), .func (.func 222) #[] #[.pointer (some ⟨W.heap.size, 0, none⟩), .pointer (some ⟨A, 0, none⟩), .pointer (some ⟨W.heap.size + 1, 0, none⟩)]] We fun e w' => e = .returned (.tuple #[]) ∧ ∃ o', Dsk o' g (s.named ((Chg.mv fr.data.toList to.data.toList k).app s.now)) w' ∧ Grow o W o' w' := by
  have l0 := cell_lt c0
  have l1 := cell_lt c1
  have lA := cell_lt cA
  have n0 : o W.heap.size = none := none_of_lt hlt (Nat.le_refl _)
  have n1 : (o.set W.heap.size .cap) (W.heap.size + 1) = none := by rw [set_other _ _ (by omega)]; exact none_of_lt hlt (by omega)
  have n2 : ((o.set W.heap.size .cap).set (W.heap.size + 1) .cap) A = none := by rw [set_other _ _ (by omega), set_other _ _ (by omega)]; exact none_of_lt hlt (by omega)
  have le0 : o.le (o.set W.heap.size .cap) := le_set _ (.inl n0)
  have le1 : (o.set W.heap.size .cap).le ((o.set W.heap.size .cap).set (W.heap.size + 1) .cap) := le_set _ (.inl n1)
  have le2 : ((o.set W.heap.size .cap).set (W.heap.size + 1) .cap).le (((o.set W.heap.size .cap).set (W.heap.size + 1) .cap).set A .cap) := le_set _ (.inl n2)
  have le02 : o.le (((o.set W.heap.size .cap).set (W.heap.size + 1) .cap).set A .cap) := fun k r e => le2 k r (le1 k r (le0 k r e))
  have hV2 : DkV (((o.set W.heap.size .cap).set (W.heap.size + 1) .cap).set A .cap) g m0 m1 m2 pv fb s cs We := dkV_le hV le02 (fun k hk => by
    rcases has_set hk with e | e
    · rw [e]; exact lA
    · rcases has_set e with e | e
      · rw [e]; exact l1
      · rcases has_set e with e | e
        · rw [e]; exact l0
        · exact hV.lt k e)
  have cv : ChgV (((o.set W.heap.size .cap).set (W.heap.size + 1) .cap).set A .cap) fb We (.func (.func 222) #[] #[.pointer (some ⟨W.heap.size, 0, none⟩), .pointer (some ⟨A, 0, none⟩), .pointer (some ⟨W.heap.size + 1, 0, none⟩)]) (.mv fr.data.toList to.data.toList k) :=
    ⟨good_len g1, good_len g2, W.heap.size, A, W.heap.size + 1, rfl, by rw [s_eta]; exact c0, cA, by rw [s_eta]; exact c1, le2 _ _ (le1 _ _ (set_same _ _ _)), set_same _ _ _, le2 _ _ (set_same _ _ _)⟩
  refine (doC hV2 (.mv fr.data.toList to.data.toList k) _ cv hw ho hl hcs).mono ?_
  rintro e w' ⟨rfl, o', pv', q1, q2⟩
  refine ⟨rfl, o', ⟨_, _, _, _, _, _, q1⟩, Grow.trans ⟨hO.mono (fun i e => by rw [e]; exact has_of hog), le02, fun k hk => ?_⟩ q2⟩
  rcases has_set hk with e | e
  · right; omega
  · rcases has_set e with e | e
    · right; omega
    · rcases has_set e with e | e
      · right; omega
      · exact .inl e
/-- where two names' variables stand, and all else is as it was -/
def RenW (W : World) (nm to : ByteArray) (w2 w : World) : Prop := Off (fun k => k = W.heap.size ∨ k = W.heap.size + 1) w2 w ∧ CF w W.heap.size (.string nm) ∧ CF w (W.heap.size + 1) (.string to)
theorem ren_below {W : World} {nm to : ByteArray} {w2 w w' : World} (h : RenW W nm to w2 w) (hb : Below w.heap.size w w') : RenW W nm to w2 w' := by
  have e0 := hb.block W.heap.size (cell_lt h.2.1.1)
  have e1 := hb.block (W.heap.size + 1) (cell_lt h.2.2.1)
  exact ⟨h.1.trans (off_of (S := fun _ => False) hb) (fun i hi => hi.elim), ⟨by rw [World.cell?_of_block (w := w) (a := ⟨W.heap.size, 0, none⟩) e0]; exact h.2.1.1, by rw [World.frozen?_of_block (w := w) (a := ⟨W.heap.size, 0, none⟩) e0]; exact h.2.1.2⟩, ⟨by rw [World.cell?_of_block (w := w) (a := ⟨W.heap.size + 1, 0, none⟩) e1]; exact h.2.2.1, by rw [World.frozen?_of_block (w := w) (a := ⟨W.heap.size + 1, 0, none⟩) e1]; exact h.2.2.2⟩⟩
theorem ren_drew {W : World} {nm to : ByteArray} {w2 w : World} (h : RenW W nm to w2 w) : RenW W nm to w2 w.drew := ren_below h (Below.refl _ _).drew
theorem ren_set0 {W : World} {nm to : ByteArray} {w2 w : World} (h : RenW W nm to w2 w) : RenW W nm to w2 (w.setCell ⟨W.heap.size, 0, none⟩ (.string nm)) := by
  refine ⟨h.1.trans (off_poke (S := fun k => k = W.heap.size) ⟨W.heap.size, 0, none⟩ rfl _) (fun i hi => .inl (.inl hi)), ⟨World.cell?_setCell_same _ _ _ h.2.1.1, ?_⟩, cf_set h.2.2 (by omega)⟩
  simpa using h.2.1.2
theorem ren_set1 {W : World} {nm to : ByteArray} {w2 w : World} (h : RenW W nm to w2 w) : RenW W nm to w2 (w.setCell ⟨W.heap.size + 1, 0, none⟩ (.string to)) := by
  refine ⟨h.1.trans (off_poke (S := fun k => k = W.heap.size + 1) ⟨W.heap.size + 1, 0, none⟩ rfl _) (fun i hi => .inl (.inr hi)), cf_set h.2.1 (by omega), ⟨World.cell?_setCell_same _ _ _ h.2.2.1, ?_⟩⟩
  simpa using h.2.2.2
theorem ownS_one (w0 : World) (x : ByteArray) : OwnS w0 (.slice (some ⟨w0.heap.size, 0, none⟩) 1 1) [x.data.toList] (w0.alloc (.cells #[.string x] 9)) := by
  refine ⟨?_, (Below.refl _ _).alloc (Nat.le_refl _) _⟩
  have := World.ownsRow_lit (e := 9) (size := 1) w0 #[.string x] 1 (Nat.le_refl _) (by decide) rfl
  simpa [S] using this
set_option maxRecDepth 20000 in
set_option maxHeartbeats 8000000 in
theorem renameC {o : Ow} {g : Nat} {s : Dk} {W : World} (h : Dsk o g s W) (nm to : ByteArray) (d : List UInt8) (hs : nm.size ≤ 140737488351232) (ht : to.size ≤ 140737488351232) (hB : Bd 900000000 s) :
    Calls Tryz.prog 196 #[.pointer (some ⟨g, 0, none⟩), .string nm, .string to] W fun e W' => StepPost o g s ⟨5, nm.data.toList, to.data.toList, d⟩ W e W' := by
  obtain ⟨m0, m1, m2, pv, fb, cs, v⟩ := h
  obtain ⟨Wa, hWa⟩ : ∃ Wa, Wa = (W.alloc (.cells #[.string nm] 9)).alloc (.cells #[.string to] 9) := ⟨_, rfl⟩
  have zA : Wa.heap.size = W.heap.size + 1 + 1 := by rw [hWa]; simp
  have bA : Below W.heap.size W Wa := by rw [hWa]; exact (below_alloc' W _).trans ((below_alloc' _ _).mono (by simp))
  have kA0 : CF Wa W.heap.size (.string nm) := by rw [hWa]; exact cf_al ⟨by simp, by simp⟩ _
  have kA1 : CF Wa (W.heap.size + 1) (.string to) := by rw [hWa]; exact ⟨by simp, by simp⟩
  have bC := below_alloc' Wa (.cells #[.string to] 9)
  have V3 := dkV_below (dkV_below v bA) bC
  have oS := ownS_one Wa to
  have CO := hide' (stepOnC V3 Wa _ _ oS (fun k hk => by have := v.lt k hk; omega) nm hs (fun n hn => by rw [List.mem_singleton.1 hn]; simpa using ht) (by simp) (by have := hB.1; omega))
  rw [zA] at CO
  have V := hide' v
  have hg := v.blk.2
  -- what is there behind stepOn
  have BK : Hid (∀ w1, Off (fun k => k = g ∨ W.heap.size + 1 + 1 ≤ k) (Wa.alloc (.cells #[.string to] 9)) w1 → (CF w1 W.heap.size (.string nm) ∧ CF w1 (W.heap.size + 1) (.string to)) ∧ Off (fun k => k = g) W w1) := fun w1 hof => by
    have e : ∀ b, b < W.heap.size + 2 → b ≠ g → w1.heap[b]? = (Wa.alloc (.cells #[.string to] 9)).heap[b]? := fun b hb hn => hof.block b (by simp; omega) (fun h => by rcases h with h | h; exact hn h; omega)
    have c0 := cf_al kA0 (.cells #[.string to] 9)
    have c1 := cf_al kA1 (.cells #[.string to] 9)
    have e0 := e W.heap.size (by omega) (by omega)
    have e1 := e (W.heap.size + 1) (by omega) (by omega)
    refine ⟨⟨⟨by rw [World.cell?_of_block (a := ⟨W.heap.size, 0, none⟩) e0]; exact c0.1, by rw [World.frozen?_of_block (a := ⟨W.heap.size, 0, none⟩) e0]; exact c0.2⟩, ⟨by rw [World.cell?_of_block (a := ⟨W.heap.size + 1, 0, none⟩) e1]; exact c1.1, by rw [World.frozen?_of_block (a := ⟨W.heap.size + 1, 0, none⟩) e1]; exact c1.2⟩⟩, ?_⟩
    have h0 : Off (fun k => k = g) W (Wa.alloc (.cells #[.string to] 9)) := Off.trans (off_of (S := fun k => k = g) bA) (off_of (S := fun _ => False) bC) (fun i hi => hi.elim)
    exact h0.trans hof (fun i hi => by rcases hi with hi | hi; exact .inl hi; exact .inr (by omega))
  have HWA := hide' hWa
  by_cases hE : stepE s [to.data.toList, nm.data.toList] = 0
  · obtain ⟨sp1, sp2⟩ := ren_spec s nm.data.toList to.data.toList d hE
    have hgd := z_good hE
    cases ha : atN s.now nm.data.toList with
    | none =>
      have R : Hid (onV fb s.now nm.data.toList (stepE s ([to.data.toList] ++ [nm.data.toList])) = .tuple #[.pointer none, .int .i64 90]) := by
        unfold Hid onV; rw [List.singleton_append, hE, if_neg (by decide)]; unfold findV; rw [ha]
      rw [R.out] at CO
      have SP := hide' (sp1 ha)
      clear v hE sp1 sp2 V3 bA bC zA kA0 kA1 hB oS ha hgd
      subst hWa
      go_enter Tryz.func196, Tryz.ntmps196
      go_wp2_with fail
      refine CO.out.mono ?_
      rintro e w1 ⟨rfl, h1, h2⟩
      obtain ⟨⟨⟨c0, f0⟩, ⟨c1, f1⟩⟩, hO⟩ := BK.out w1 h2
      have H1 := hide' h1
      have HO := hide' hO
      clear h1 h2 hO
      go_wp2_with fail
      go_ret
      have bz := below_alloc' w1 (.cells #[.pointer none] 142)
      exact ⟨by rw [SP.out]; rfl, o, by rw [SP.out]; exact ⟨_, _, _, _, _, _, dkV_below H1.out bz⟩, (grow_g HO.out V.out.og).trans (grow_below bz)⟩
    | some k =>
      have R : Hid (onV fb s.now nm.data.toList (stepE s ([to.data.toList] ++ [nm.data.toList])) = .tuple #[.pointer (some ⟨fb k, 0, none⟩), .int .i64 0]) := by
        unfold Hid onV; rw [List.singleton_append, hE, if_neg (by decide)]; unfold findV; rw [ha]
      rw [R.out] at CO
      obtain ⟨spE, spN⟩ := sp2 k ha
      by_cases hq : nm.data.toList = to.data.toList
      · have SP := hide' (spE hq)
        have q1 : (nm.toList == to.toList) = true := by rw [Lib.toList_data, Lib.toList_data]; simpa using hq
        clear v hE sp1 sp2 V3 bA bC zA kA0 kA1 hB oS ha hgd spE spN hq
        subst hWa
        go_enter Tryz.func196, Tryz.ntmps196
        go_wp2_with fail
        refine CO.out.mono ?_
        rintro e w1 ⟨rfl, h1, h2⟩
        obtain ⟨⟨⟨c0, f0⟩, ⟨c1, f1⟩⟩, hO⟩ := BK.out w1 h2
        have H1 := hide' h1
        have HO := hide' hO
        have n0 : ¬ w1.heap.size = W.heap.size := by have := cell_lt c0; simp at this; omega
        have n1 : ¬ w1.heap.size = W.heap.size + 1 := by have := cell_lt c1; simp at this; omega
        have n0' : W.heap.size < w1.heap.size := cell_lt c0
        have n1' : W.heap.size + 1 < w1.heap.size := cell_lt c1
        clear h1 h2 hO
        go_wp2_with fail
        go_ret
        have bz := below_alloc' w1 (.cells #[.pointer (some ⟨fb k, 0, none⟩)] 142)
        exact ⟨by rw [SP.out]; rfl, o, by rw [SP.out]; exact ⟨_, _, _, _, _, _, dkV_below H1.out bz⟩, (grow_g HO.out V.out.og).trans (grow_below bz)⟩
      · have SP := hide' (spN hq)
        have q1 : (nm.toList == to.toList) = false := by rw [Lib.toList_data, Lib.toList_data]; simpa using hq
        have hwf := wf_step v.wf ⟨5, nm.data.toList, to.data.toList, d⟩
        have hon := once_step v.wf v.once ⟨5, nm.data.toList, to.data.toList, d⟩
        rw [SP.out] at hwf hon
        have HW := hide' hwf
        have HON := hide' hon
        have HG1 := hide' (hgd nm.data.toList (by simp))
        have HG2 := hide' (hgd to.data.toList (by simp))
        have hcl : cs.length ≤ 1000000000 := by have h1 := v.sc.1; have h2 := hB.2.2.2.2.1; rw [h1, scan_len] at h2; omega
        have hnl : (cntS s).now.length ≤ 1000000000 := by rw [cnt_now]; have := hB.2.2.1; omega
        have HCL := hide' hcl
        have HNL := hide' hnl
        have hmf : ∀ (fn : Fn) (first cap : Array Value) (w : World), (Instr.makeFunc fn first cap).run Tryz.prog w = .ok (.func fn first cap) w := fun _ _ _ _ => rfl
        clear v hE sp1 sp2 V3 bA bC zA kA0 kA1 hB oS ha hgd spE spN hq hwf hon hcl hnl
        subst hWa
        go_enter Tryz.func196, Tryz.ntmps196
        go_wp2_with fail
        refine CO.out.mono ?_
        rintro e w1 ⟨rfl, h1, h2⟩
        obtain ⟨⟨⟨c0, f0⟩, ⟨c1, f1⟩⟩, hO⟩ := BK.out w1 h2
        have H1 := hide' h1
        have HO := hide' hO
        have n0 : ¬ w1.heap.size = W.heap.size := by have := cell_lt c0; simp at this; omega
        have n1 : ¬ w1.heap.size = W.heap.size + 1 := by have := cell_lt c1; simp at this; omega
        have n0' : W.heap.size < w1.heap.size := cell_lt c0
        have n1' : W.heap.size + 1 < w1.heap.size := cell_lt c1
        clear h1 h2 hO
        go_wp2_with fail
        have bz := below_alloc' w1 (.cells #[.pointer (some ⟨fb k, 0, none⟩)] 142)
        have V3 := hide' (dkV_below H1.out bz)
        have O3 : Hid (Off (fun k => k = g) W (w1.alloc (.cells #[.pointer (some ⟨fb k, 0, none⟩)] 142))) := HO.out.trans (off_of (S := fun _ => False) bz) (fun i hi => hi.elim)
        have R0 : Hid (RenW W nm to (w1.alloc (.cells #[.pointer (some ⟨fb k, 0, none⟩)] 142)) (w1.alloc (.cells #[.pointer (some ⟨fb k, 0, none⟩)] 142))) := ⟨Off.refl _ _, cf_al ⟨c0, f0⟩ _, cf_al ⟨c1, f1⟩ _⟩
        have cA : (w1.alloc (.cells #[.pointer (some ⟨fb k, 0, none⟩)] 142)).cell? ⟨w1.heap.size, 0, none⟩ = some (.pointer (some ⟨fb k, 0, none⟩)) := by simp
        have CA := hide' cA
        have hA : W.heap.size + 1 < w1.heap.size := n1'
        clear c0 c1 f0 f1 n0 n1 n0' n1' bz H1 HO cA
        generalize w1.alloc (.cells #[.pointer (some ⟨fb k, 0, none⟩)] 142) = w2 at V3 O3 R0 CA ⊢
        generalize w1.heap.size = A at CA hA ⊢
        obtain ⟨_, ⟨c0, f0⟩, ⟨c1, f1⟩⟩ := R0.out
        have CK : Hid (∀ (x : ByteArray) (hx : x.size ≤ 140737488351232) (Wx : World), RenW W nm to w2 Wx → Calls Tryz.prog 73 #[.string x] Wx fun e w' => e = .returned (.string x) ∧ Hid (RenW W nm to w2 w') ∧ (w'.cell? ⟨W.heap.size, 0, none⟩ = some (.string nm) ∧ w'.frozen? ⟨W.heap.size, 0, none⟩ = false) ∧ (w'.cell? ⟨W.heap.size + 1, 0, none⟩ = some (.string to) ∧ w'.frozen? ⟨W.heap.size + 1, 0, none⟩ = false)) := fun x hx Wx hr => (clone x Wx hx).mono (by
          rintro e w' ⟨rfl, hb⟩
          have q := ren_below hr hb
          exact ⟨rfl, q, q.2.1, q.2.2⟩)
        go_region_with (first
          | (go_at_call 73; refine (CK.out _ (by assumption) _ ?_).mono ?_; (first | exact R0.out | exact ren_drew R0.out | exact R3.out | exact ren_set0 R3.out); rintro e w3 ⟨rfl, R3, ⟨x0, y0⟩, ⟨x1, y1⟩⟩))
        all_goals
          have R5 := ren_set1 (ren_set0 R3.out)
          have V5 := dkV_off V3.out R5.1 (fun k hk => by rcases hk with e | e <;> rw [e] <;> exact none_of_lt V.out.lt (by omega))
          have O5 : Off (fun k => k = g) W ((w3.setCell ⟨W.heap.size, 0, none⟩ (.string nm)).setCell ⟨W.heap.size + 1, 0, none⟩ (.string to)) := O3.out.trans R5.1 (fun i hi => by right; omega)
          have A5 : ((w3.setCell ⟨W.heap.size, 0, none⟩ (.string nm)).setCell ⟨W.heap.size + 1, 0, none⟩ (.string to)).cell? ⟨A, 0, none⟩ = some (.pointer (some ⟨fb k, 0, none⟩)) := by
            rw [World.cell?_of_block (w := w2) (a := ⟨A, 0, none⟩) (R5.1.block A (cell_lt CA.out) (by omega))]
            exact CA.out
          have CD := hide' (ren_end V5 O5 V.out.lt V.out.og R5.2.1.1 R5.2.2.1 A5 hA HG1.out HG2.out HW.out HON.out HNL.out HCL.out)
          clear R5 V5 O5 A5
          go_wp2_with (go_at_call 101; refine CD.out.mono ?_; rintro e w5 ⟨rfl, o', d5, g5⟩; have D5 := hide' d5; have G5 := hide' g5; clear d5 g5)
          go_ret
          exact ⟨by rw [SP.out]; rfl, o', by rw [SP.out]; exact D5.out, G5.out⟩
  · have R : Hid (onV fb s.now nm.data.toList (stepE s ([to.data.toList] ++ [nm.data.toList])) = .tuple #[.pointer none, .int .i64 (stepE s [to.data.toList, nm.data.toList])]) := by
      unfold Hid onV; rw [List.singleton_append, if_pos hE]
    have SP : Hid (s.step ⟨5, nm.data.toList, to.data.toList, d⟩ = (cntS s, stepE s [to.data.toList, nm.data.toList])) := step_e s ⟨5, nm.data.toList, to.data.toList, d⟩ hE
    rw [R.out] at CO
    generalize stepE s [to.data.toList, nm.data.toList] = E at hE CO SP
    have q : (E != 0) = true := by simpa using hE
    clear v hE V3 bA bC zA kA0 kA1 hB oS
    subst hWa
    go_enter Tryz.func196, Tryz.ntmps196
    go_wp2_with fail
    refine CO.out.mono ?_
    rintro e w1 ⟨rfl, h1, h2⟩
    obtain ⟨⟨⟨c0, f0⟩, ⟨c1, f1⟩⟩, hO⟩ := BK.out w1 h2
    have H1 := hide' h1
    have HO := hide' hO
    clear h1 h2 hO
    go_wp2_with fail
    go_ret
    have bz := below_alloc' w1 (.cells #[.pointer none] 142)
    exact ⟨by rw [SP.out]; rfl, o, by rw [SP.out]; exact ⟨_, _, _, _, _, _, dkV_below H1.out bz⟩, (grow_g HO.out V.out.og).trans (grow_below bz)⟩
end Go.Proofs.YtibjcofbhldenaaGreatDoor
namespace Go.Proofs.YtibjcofbhldenaaGreatDoor
open Go.RowKit Go.Maps
theorem own_drew {w w' : World} {v : Value} {bs : List UInt8} {n : Nat} (h : Own (w.drewN n) v bs w') : Own w v bs w' := own_base h (below_drewN w n)
set_option maxRecDepth 20000 in
set_option maxHeartbeats 2000000 in
theorem readC {o : Ow} {g : Nat} {s : Dk} {W : World} (h : Dsk o g s W) (nm : ByteArray) (hs : nm.size ≤ 140737488351232) (hB : Bd 1000000000 s) :
    Calls Tryz.prog 125 #[.pointer (some ⟨g, 0, none⟩), .string nm] W fun e W' => ∃ v, e = .returned (.tuple #[v, .int .i64 (s.read nm.data.toList).2]) ∧ Own W v (s.read nm.data.toList).1 W' := by
  have CD := hide' (downC h)
  obtain ⟨m0, m1, m2, pv, fb, cs, v⟩ := h
  have V := hide' v
  cases hd : s.down with
  | true =>
    have R : Hid (s.read nm.data.toList = ([], 93)) := by unfold Hid Dk.read; rw [if_pos hd]
    rw [hd] at CD
    clear v hd
    go_enter Tryz.func125, Tryz.ntmps125
    go_wp2_with (go_at_call 80; refine CD.out.mono ?_; rintro e w1 ⟨rfl, n, rfl⟩)
    go_ret2
    rw [R.out]
    exact ⟨_, rfl, own_nil _ _ (below_drewN _ _)⟩
  | false =>
    rw [hd] at CD
    cases hg : goodN nm.data.toList with
    | false =>
      have R : Hid (s.read nm.data.toList = ([], 95)) := by unfold Hid Dk.read; rw [if_neg (by rw [hd]; decide), if_pos hg]
      have CG : Hid (∀ w, Calls Tryz.prog 119 #[.string nm] w fun e w' => e = .returned (.bool false) ∧ w' = w) := fun w => by have := goodNameC nm w hs; rw [hg] at this; exact this
      clear v hd hg
      go_enter Tryz.func125, Tryz.ntmps125
      go_wp2_with (first
        | (go_at_call 80; refine CD.out.mono ?_; rintro e w1 ⟨rfl, n, rfl⟩)
        | (go_at_call 119; refine (CG.out _).mono ?_; rintro e w2 ⟨rfl, rfl⟩))
      go_ret2
      rw [R.out]
      exact ⟨_, rfl, own_nil _ _ (below_drewN _ _)⟩
    | true =>
      have CG : Hid (∀ w, Calls Tryz.prog 119 #[.string nm] w fun e w' => e = .returned (.bool true) ∧ w' = w) := fun w => by have := goodNameC nm w hs; rw [hg] at this; exact this
      have CF : Hid (∀ n, Calls Tryz.prog 144 #[.pointer (some ⟨g, 0, none⟩), .string nm] (W.drewN n) fun e W' => e = .returned (findV fb s.now nm.data.toList) ∧ W' = W.drewN n) := fun n => findC (dkV_drew V.out n) nm hs
      cases ha : atN s.now nm.data.toList with
      | none =>
        have R : Hid (s.read nm.data.toList = ([], 90)) := by unfold Hid Dk.read; rw [if_neg (by rw [hd]; decide), if_neg (by rw [hg]; decide), ha]
        have F : findV fb s.now nm.data.toList = .tuple #[.pointer none, .int .i64 90] := by unfold findV; rw [ha]
        rw [F] at CF
        clear v hd hg ha F
        go_enter Tryz.func125, Tryz.ntmps125
        go_wp2_with (first
          | (go_at_call 80; refine CD.out.mono ?_; rintro e w1 ⟨rfl, n, rfl⟩)
          | (go_at_call 119; refine (CG.out _).mono ?_; rintro e w2 ⟨rfl, rfl⟩)
          | (go_at_call 144; refine (CF.out _).mono ?_; rintro e w2 ⟨rfl, rfl⟩))
        go_ret2
        rw [R.out]
        exact ⟨_, rfl, own_nil _ _ (below_drewN _ _)⟩
      | some k =>
        have R : Hid (s.read nm.data.toList = (s.data.getD k [], 0)) := by unfold Hid Dk.read; rw [if_neg (by rw [hd]; decide), if_neg (by rw [hg]; decide), ha]
        have F : findV fb s.now nm.data.toList = .tuple #[.pointer (some ⟨fb k, 0, none⟩), .int .i64 0] := by unfold findV; rw [ha]
        rw [F] at CF
        have hk := (v.wf.now.2 _ (at_some ha)).1
        obtain ⟨ao, ca, fB, fR, fo, fw⟩ := file_slice (v.files k hk)
        have hlb := hB.2.2.2.2.2 k
        have CC : Hid (∀ n, Calls Tryz.prog 72 #[.slice ao (s.data.getD k []).length ca] (W.drewN n) fun e w' => ∃ u, e = .returned u ∧ Own (W.drewN n) u (s.data.getD k []) w') := fun n => bcloneC _ _ _ (holdsB_mono (row_holds0 fR) (below_drewN W n)) (by omega)
        have c1 := (cells_3 fB).1.2.1
        generalize (s.data.getD k []).length = L at c1 CC
        clear v hd hg ha F fB fR fo fw
        go_enter Tryz.func125, Tryz.ntmps125
        go_wp2_with (first
          | (go_at_call 80; refine CD.out.mono ?_; rintro e w1 ⟨rfl, n, rfl⟩)
          | (go_at_call 119; refine (CG.out _).mono ?_; rintro e w2 ⟨rfl, rfl⟩)
          | (go_at_call 144; refine (CF.out _).mono ?_; rintro e w2 ⟨rfl, rfl⟩)
          | (go_at_call 72; refine (CC.out _).mono ?_; rintro e w2 ⟨u, rfl, ho⟩; have HO := hide' ho; clear ho))
        go_ret2
        rw [R.out]
        exact ⟨_, rfl, own_drew HO.out⟩
end Go.Proofs.YtibjcofbhldenaaGreatDoor
