/- The contract of Remove. -/
import Derived.Test.YtaklfiipkjfjdaaDkW
import Derived.Test.YtaklfiipkjfjdaaCln
namespace Go.Proofs.Ytaklfiipkjfjdaa
open Go.RowKit Go.Maps
theorem rem_spec (s : Dk) (nm to : Nm) (d : List UInt8) (h : stepE s [nm] = 0) : (atN s.now nm = none → s.step ⟨6, nm, to, d⟩ = (cntS s, 90)) ∧ ∀ k, atN s.now nm = some k → s.step ⟨6, nm, to, d⟩ = ((cntS s).named ((Chg.del nm).app (cntS s).now), 0) := by
  obtain ⟨h1, h2⟩ := step_z s ⟨6, nm, to, d⟩ h
  refine ⟨fun e => ?_, fun k e => ?_⟩
  · rw [h2, e, h1]; rfl
  · rw [h2, e, h1]; rfl
theorem dkV_le {o o' : Ow} {g m0 m1 m2 : Nat} {pv : Value} {fb : Nat → Nat} {s : Dk} {cs : List Chg} {W : World} (h : DkV o g m0 m1 m2 pv fb s cs W) (hl : o.le o') (hlt : ∀ k, o'.has k → k < W.heap.size) : DkV o' g m0 m1 m2 pv fb s cs W where
  blk := h.blk
  fails := h.fails
  seen := h.seen
  safe := h.safe
  pend := pend_le h.pend hl
  files := fun i hi => file_le (h.files i hi) hl
  og := hl _ _ h.og
  o0 := hl _ _ h.o0
  o1 := hl _ _ h.o1
  o2 := hl _ _ h.o2
  lt := hlt
  wf := h.wf
  once := h.once
  sc := h.sc
  rm := h.rm
theorem dkV_off {o : Ow} {g m0 m1 m2 : Nat} {pv : Value} {fb : Nat → Nat} {s : Dk} {cs : List Chg} {W W' : World} {S : Nat → Prop} (h : DkV o g m0 m1 m2 pv fb s cs W) (hb : Off S W W') (hS : ∀ k, S k → o k = none) : DkV o g m0 m1 m2 pv fb s cs W' :=
  dkV_same h (same_off hb h.lt (fun k r hk e => by rw [hS k hk] at e; cases e))
theorem none_of_lt {o : Ow} {W : World} (h : ∀ k, o.has k → k < W.heap.size) {b : Nat} (hb : W.heap.size ≤ b) : o b = none := by
  cases e : o b with
  | none => rfl
  | some r => have := h b (has_of e); omega
theorem has_set {o : Ow} {b k : Nat} {r : Role} (h : (o.set b r).has k) : k = b ∨ o.has k := by
  by_cases e : k = b
  · exact .inl e
  · right; unfold Ow.has at h ⊢; rw [set_other _ _ e] at h; exact h
theorem grow_cap {o : Ow} {W W' : World} {b : Nat} (r : Role) (hb : W.heap.size ≤ b) (h : Off o.has W W') (hlt : ∀ k, o.has k → k < W.heap.size) : Grow o W (o.set b r) W' :=
  ⟨h, le_set _ (.inl (none_of_lt hlt hb)), fun k hk => by
    rcases has_set hk with e | e
    · right; omega
    · exact .inl e⟩
theorem s_eta (nm : ByteArray) : S nm.data.toList = .string nm := by unfold S; rw [ba_eta]
set_option maxRecDepth 20000 in
set_option maxHeartbeats 4000000 in
theorem removeC {o : Ow} {g : Nat} {s : Dk} {W : World} (h : Dsk o g s W) (nm : ByteArray) (to : Nm) (d : List UInt8) (hs : nm.size ≤ 140737488351232) (hB : Bd 900000000 s) :
    Calls Try.prog 35 #[.pointer (some ⟨g, 0, none⟩), .string nm] W fun e W' => StepPost o g s ⟨6, nm.data.toList, to, d⟩ W e W' := by
  obtain ⟨m0, m1, m2, pv, fb, cs, v⟩ := h
  have bW := below_alloc' W (.cells #[.string nm] 9)
  have zW : (W.alloc (.cells #[.string nm] 9)).heap.size = W.heap.size + 1 := by simp
  have V0 := dkV_below v bW
  have blk0 := cells_lit W #[.string nm] 9
  have CO := hide' (stepOnC V0 (W.alloc (.cells #[.string nm] 9)) (.slice none 0 0) [] (ownS_nil _ _ (Below.refl _ _)) V0.lt nm hs (fun n hn => by cases hn) (by simp) (by have := hB.1; omega))
  have V := hide' v
  have BW := hide' bW
  have ZW := hide' zW
  have hng : W.heap.size ≠ g := by have := v.blk.2; omega
  have BK : Hid (∀ w1, Off (fun k => k = g ∨ (W.alloc (.cells #[.string nm] 9)).heap.size ≤ k) (W.alloc (.cells #[.string nm] 9)) w1 → Blk W.heap.size w1 [.string nm]) := fun w1 ho => by
    have e : w1.heap[W.heap.size]? = (W.alloc (.cells #[.string nm] 9)).heap[W.heap.size]? := ho.block _ (by omega) (fun e => by rcases e with e | e; exact hng e; omega)
    have b1 : Blk W.heap.size (W.alloc (.cells #[.string nm] 9)) [.string nm] := by simpa using blk0
    exact ⟨fun j hj => ⟨by rw [World.cell?_of_block (w := W.alloc (.cells #[.string nm] 9)) (a := ⟨W.heap.size, j, none⟩) e]; exact (b1.1 j hj).1, by rw [World.frozen?_of_block (w := W.alloc (.cells #[.string nm] 9)) (a := ⟨W.heap.size, j, none⟩) e]; exact (b1.1 j hj).2⟩, Nat.lt_of_lt_of_le b1.2 ho.size⟩
  have G1 : Hid (∀ w1, Off (fun k => k = g ∨ (W.alloc (.cells #[.string nm] 9)).heap.size ≤ k) (W.alloc (.cells #[.string nm] 9)) w1 → Grow o W o w1) := fun w1 ho => (grow_below BW.out).trans (grow_g (off_low ho (Nat.le_refl _)) V.out.og)
  have HBD := hide' hB
  by_cases hE : stepE s [nm.data.toList] = 0
  · obtain ⟨sp1, sp2⟩ := rem_spec s nm.data.toList to d hE
    have hgd := z_good hE nm.data.toList (by simp)
    cases ha : atN s.now nm.data.toList with
    | none =>
      have R : Hid (onV fb s.now nm.data.toList (stepE s ([] ++ [nm.data.toList])) = .tuple #[.pointer none, .int .i64 90]) := by
        unfold Hid onV; rw [List.nil_append, hE, if_neg (by decide)]; unfold findV; rw [ha]
      rw [R.out] at CO
      have SP := hide' (sp1 ha)
      clear v ha hE sp1 sp2 V0 bW zW blk0 hB
      go_enter Try.func35, Try.ntmps35
      go_wp2_with (go_at_call 32; refine CO.out.mono ?_; rintro e w1 ⟨rfl, h1, h2⟩; have H1 := hide' h1; have H2 := hide' h2; clear h1 h2)
      go_ret
      exact ⟨by rw [SP.out]; rfl, o, by rw [SP.out]; exact ⟨_, _, _, _, _, _, H1.out⟩, G1.out _ H2.out⟩
    | some k =>
      have R : Hid (onV fb s.now nm.data.toList (stepE s ([] ++ [nm.data.toList])) = .tuple #[.pointer (some ⟨fb k, 0, none⟩), .int .i64 0]) := by
        unfold Hid onV; rw [List.nil_append, hE, if_neg (by decide)]; unfold findV; rw [ha]
      rw [R.out] at CO
      have SP := hide' (sp2 k ha)
      have hwf := wf_step v.wf ⟨6, nm.data.toList, to, d⟩
      have hon := once_step v.wf v.once ⟨6, nm.data.toList, to, d⟩
      rw [SP.out] at hwf hon
      have HW := hide' hwf
      have HO := hide' hon
      have HGD := hide' hgd
      have hcl : cs.length ≤ 1000000000 := by have h1 := v.sc.1; have h2 := hB.2.2.2.2.1; rw [h1, scan_len] at h2; omega
      have hnl : (cntS s).now.length ≤ 1000000000 := by rw [cnt_now]; have := hB.2.2.1; omega
      have HCL := hide' hcl
      have HNL := hide' hnl
      have hmf : ∀ (fn : Fn) (first cap : Array Value) (w : World), (Instr.makeFunc fn first cap).run Try.prog w = .ok (.func fn first cap) w := fun _ _ _ _ => rfl
      clear v ha hE sp1 sp2 V0 bW zW blk0 hwf hon hgd hcl hnl hB
      go_enter Try.func35, Try.ntmps35
      go_wp2_with fail
      refine CO.out.mono ?_
      rintro e w1 ⟨rfl, h1, h2⟩
      have H1 := hide' h1
      have H2 := hide' h2
      have K1 := hide' (BK.out w1 h2)
      have c3 := (K1.out.1 0 (by simp)).1
      have f3 := (K1.out.1 0 (by simp)).2
      simp only [List.getElem_cons_zero] at c3
      clear h1 h2
      go_wp2_with (go_at_call 29; refine (clone nm _ hs).mono ?_; rintro e w2 ⟨rfl, b2⟩; have B2 := hide' b2; have K2 := hide' (cells_below K1.out b2); have c4 := (K2.out.1 0 (by simp)).1; have f4 := (K2.out.1 0 (by simp)).2; simp only [List.getElem_cons_zero] at c4; clear b2)
      -- what the disk is there
      have hb0 : o W.heap.size = none := none_of_lt V.out.lt (Nat.le_refl _)
      have hz1 : W.heap.size < w1.heap.size := K1.out.2
      have V3 : DkV (o.set W.heap.size .cap) g m0 m1 m2 pv fb (cntS s) cs (w2.setCell ⟨W.heap.size, 0, none⟩ (.string nm)) := by
        have q1 := dkV_off (dkV_below H1.out B2.out) (off_poke (S := fun k => k = W.heap.size) ⟨W.heap.size, 0, none⟩ rfl (.string nm)) (fun k e => by rw [e]; exact hb0)
        refine dkV_le q1 (le_set _ (.inl hb0)) (fun k hk => ?_)
        rcases has_set hk with e | e
        · have := K2.out.2; rw [e]; simp [World.setCell]; exact this
        · exact q1.lt k e
      have cv3 : ChgV (o.set W.heap.size .cap) fb (w2.setCell ⟨W.heap.size, 0, none⟩ (.string nm)) (.func (.func 53) #[] #[.pointer (some ⟨W.heap.size, 0, none⟩)]) (.del nm.data.toList) :=
        ⟨good_len HGD.out, W.heap.size, rfl, by rw [s_eta]; exact World.cell?_setCell_same _ _ _ c4, set_same _ _ _⟩
      have CD := hide' (doC V3 (.del nm.data.toList) _ cv3 HW.out HO.out HNL.out HCL.out)
      have GR : Hid (Grow o W (o.set W.heap.size .cap) (w2.setCell ⟨W.heap.size, 0, none⟩ (.string nm))) := by
        refine grow_cap .cap (Nat.le_refl _) ?_ V.out.lt
        have q1 := (G1.out w1 H2.out).off
        refine Off.trans (q1.trans (off_of (S := fun _ => False) B2.out) (fun i hi => hi.elim)) (off_poke (S := fun k => k = W.heap.size) ⟨W.heap.size, 0, none⟩ rfl (.string nm)) (fun i hi => .inr (by rw [hi]; exact Nat.le_refl _))
      clear V3 cv3
      refine CD.out.mono ?_
      rintro e w4 ⟨rfl, hD⟩
      have HD := hide' hD
      clear hD
      go_wp2_with fail
      go_ret
      obtain ⟨o', pv', q1, q2⟩ := HD.out
      exact ⟨by rw [SP.out]; rfl, o', by rw [SP.out]; exact ⟨_, _, _, _, _, _, q1⟩, GR.out.trans q2⟩
  · have R : Hid (onV fb s.now nm.data.toList (stepE s ([] ++ [nm.data.toList])) = .tuple #[.pointer none, .int .i64 (stepE s [nm.data.toList])]) := by
      unfold Hid onV; rw [List.nil_append, if_pos hE]
    have SP : Hid (s.step ⟨6, nm.data.toList, to, d⟩ = (cntS s, stepE s [nm.data.toList])) := step_e s ⟨6, nm.data.toList, to, d⟩ hE
    rw [R.out] at CO
    generalize stepE s [nm.data.toList] = E at hE CO SP
    have q : (E != 0) = true := by simpa using hE
    clear v hE V0 bW zW blk0 hB
    go_enter Try.func35, Try.ntmps35
    go_wp2_with (go_at_call 32; refine CO.out.mono ?_; rintro e w1 ⟨rfl, h1, h2⟩; have H1 := hide' h1; have H2 := hide' h2; clear h1 h2)
    go_ret
    exact ⟨by rw [SP.out]; rfl, o, by rw [SP.out]; exact ⟨_, _, _, _, _, _, H1.out⟩, G1.out _ H2.out⟩
end Go.Proofs.Ytaklfiipkjfjdaa
