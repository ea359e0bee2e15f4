/- The contract of do: a change is done to the names that are seen, and kept. Plain: a step by the check that all share; what each kind of step does behind it. The disk's blocks where one file changes. The contracts of Sync and Append. The contract of Used: the bytes of all files that have a name, in whatever order the table is gone through. -/
import Derived.Maps.AppendAt
import Derived.Maps.RangeWalk
import Derived.Test.YtibjcofbhldenaaGreatDoorZ18
import Derived.Test.YtibjcofbhldenaaGreatDoorZ01
namespace Go.Proofs.YtibjcofbhldenaaGreatDoor
open Go.RowKit Go.Maps
theorem dkV_do {o : Ow} {g m0 m1 m2 : Nat} {pv : Value} {fb : Nat → Nat} {s : Dk} {cs : List Chg} {W W1 W2 : World} (h : DkV o g m0 m1 m2 pv fb s cs W) (c : Chg) (cv : Value) (hc : ChgV o fb W cv c)
    (hT : Tbl W1 m1 fb (c.app s.now)) (g1 : W.grownBy W1 (some m1)) {X : Obj} {vs : List Value} (hch : ∀ i (h : i < cs.length), ∃ v, vs[i]? = some v ∧ ChgV o fb W v cs[i]) (hpw : ∀ rb, pv.ownBlock = some rb → o rb = some .pend) (hvl : vs.length = cs.length)
    (g2 : (W1.alloc X).grownBy W2 pv.ownBlock) {pb pc : Nat} (hrow : W2.ownsRow 0 150 1 (.slice (some ⟨pb, 0, none⟩) (cs.length + 1) pc) (cs.length + 1) (vs ++ [cv]))
    (hat : some pb = pv.ownBlock ∨ some pb = some (W1.alloc X).heap.size) (hw : Wf (s.named (c.app s.now))) (ho : Once (c.app s.now)) :
    DkV (o.set pb .pend) g m0 m1 m2 (.slice (some ⟨pb, 0, none⟩) (cs.length + 1) pc) fb (s.named (c.app s.now)) (cs ++ [c]) (W2.setCell ⟨g, 7, none⟩ (.slice (some ⟨pb, 0, none⟩) (cs.length + 1) pc)) ∧
    Grow o W (o.set pb .pend) (W2.setCell ⟨g, 7, none⟩ (.slice (some ⟨pb, 0, none⟩) (cs.length + 1) pc)) := by
  have zA : (W1.alloc X).heap.size = W1.heap.size + 1 := by simp
  have z1 := g1.size
  have z2 := g2.size
  have hob : o pb = none ∨ o pb = some .pend := by
    rcases hat with e | e
    · exact .inr (hpw pb e.symm)
    · left
      cases e2 : o pb with
      | none => rfl
      | some r => have h1 := h.lt pb (has_of e2); have h2 := Option.some.inj e; omega
  have hle : o.le (o.set pb .pend) := le_set _ hob
  -- W to W1
  have s1 : Same o (fun r => r ≠ .seen) W W1 := same_grown g1 h.lt h.o1
  have lt1 : ∀ k, o.has k → k < W1.heap.size := fun k hk => Nat.lt_of_lt_of_le (h.lt k hk) z1
  have sA : Same o (fun _ => True) W1 (W1.alloc X) := same_below (below_alloc' W1 X) lt1
  have ltA : ∀ k, o.has k → k < (W1.alloc X).heap.size := fun k hk => Nat.lt_of_lt_of_le (lt1 k hk) (by omega)
  have s2 : Same o (fun r => r ≠ .pend) (W1.alloc X) W2 := ⟨g2.size, fun k r e hr => g2.block k (ltA k (has_of e)) (fun e2 => by rw [hpw k e2.symm] at e; exact hr (Option.some.inj e).symm)⟩
  have s12 : Same o (fun r => r ≠ .pend) W1 W2 := (sA.mono (fun _ _ => trivial)).trans s2
  have sW2 : Same o (fun r => r ≠ .seen ∧ r ≠ .pend) W W2 := (s1.mono (fun _ h => h.1)).trans (s12.mono (fun _ h => h.2))
  have s3 : Same o (fun r => r ≠ .disk) W2 (W2.setCell ⟨g, 7, none⟩ (.slice (some ⟨pb, 0, none⟩) (cs.length + 1) pc)) := same_poke h.og _
  have sW3 : Same o (fun r => r ≠ .seen ∧ r ≠ .pend ∧ r ≠ .disk) W (W2.setCell ⟨g, 7, none⟩ (.slice (some ⟨pb, 0, none⟩) (cs.length + 1) pc)) := (sW2.mono (fun _ h => ⟨h.1, h.2.1⟩)).trans (s3.mono (fun _ h => h.2.2))
  have s13 : Same o (fun r => r ≠ .pend ∧ r ≠ .disk) W1 (W2.setCell ⟨g, 7, none⟩ (.slice (some ⟨pb, 0, none⟩) (cs.length + 1) pc)) := (s12.mono (fun _ h => h.1)).trans (s3.mono (fun _ h => h.2))
  have hb2 := cells_set (blk_same h.blk sW2 h.og (by decide)) (j := 7) (by simp) (.slice (some ⟨pb, 0, none⟩) (cs.length + 1) pc)
  have hpb : pb < W2.heap.size := (hrow.lt pb rfl).2
  have s3' : Same (o.set pb .pend) (fun r => r ≠ .disk) W2 (W2.setCell ⟨g, 7, none⟩ (.slice (some ⟨pb, 0, none⟩) (cs.length + 1) pc)) := same_poke (hle _ _ h.og) _
  refine ⟨⟨hb2, fails_same h.fails sW3 h.o0 (by decide), tbl_same hT s13 h.o1 (by decide), tbl_same h.safe sW3 h.o2 (by decide), ⟨vs ++ [cv], ?_, ?_, ?_⟩, fun i hi => file_le (file_same (h.files i hi) sW3 (by simp) (by simp)) hle, hle _ _ h.og, hle _ _ h.o0, hle _ _ h.o1, hle _ _ h.o2, ?_, hw, ho, sc_named h.sc c, h.rm⟩, ?_, hle, ?_⟩
  · rw [List.length_append]
    exact row_same (r := .pend) hrow s3' (fun b e => by cases e; exact set_same _ _ _) (by decide)
  · intro i hi
    rw [List.length_append, List.length_singleton] at hi
    by_cases hlt : i < cs.length
    · obtain ⟨v, e, hv⟩ := hch i hlt
      refine ⟨v, by rw [List.getElem?_append_left (by omega)]; exact e, ?_⟩
      rw [List.getElem_append_left hlt]
      exact chg_le (chg_same hv sW3 (by decide)) hle
    · have ei : i = cs.length := by omega
      subst ei
      refine ⟨cv, by rw [← hvl]; simp, ?_⟩
      have e9 : (cs ++ [c])[cs.length]'(by simp) = c := by simp
      rw [e9]
      exact chg_le (chg_same hc sW3 (by decide)) hle
  · intro rb e
    cases e
    exact set_same _ _ _
  · intro k hk
    have e : (W2.setCell ⟨g, 7, none⟩ (.slice (some ⟨pb, 0, none⟩) (cs.length + 1) pc)).heap.size = W2.heap.size := by simp [World.setCell]
    rw [e]
    by_cases hkb : k = pb
    · rw [hkb]; exact hpb
    · have : o.has k := by unfold Ow.has at hk ⊢; rw [set_other _ _ hkb] at hk; exact hk
      exact Nat.lt_of_lt_of_le (h.lt k this) sW2.size
  · refine Off.trans (off_grown (S := o.has) g1 (fun k e => by cases e; exact has_of h.o1)) (Off.trans (off_alloc (S := o.has) X) (Off.trans (off_grown (S := o.has) g2 (fun k e => has_of (hpw k e))) (off_poke (S := o.has) _ (has_of h.og) _) (fun i hi => .inl hi)) (fun i hi => .inl hi)) (fun i hi => .inl hi)
  · intro k hk
    by_cases hkb : k = pb
    · rcases hat with e | e
      · left; rw [hkb]; exact has_of (hpw pb e.symm)
      · right; rw [hkb, Option.some.inj e]; omega
    · left; unfold Ow.has at hk ⊢; rw [set_other _ _ hkb] at hk; exact hk
theorem row_nil_len {W : World} {base : Nat} {t : TypeId} {v : Value} {n : Nat} {xs : List Value} (h : W.ownsRow base t 1 v n xs) : xs.length = n := by have := h.1; omega
theorem row_slice1 {W : World} {base : Nat} {t : TypeId} {v : Value} {n : Nat} {xs : List Value} (h : W.ownsRow base t 1 v (n + 1) xs) : ∃ pb pc, v = .slice (some ⟨pb, 0, none⟩) (n + 1) pc := by
  rcases h.2 with ⟨_, e⟩ | ⟨x, cap, cur, hv, _⟩
  · omega
  · exact ⟨x, cap, hv⟩
def DoPost (o : Ow) (g m0 m1 m2 : Nat) (fb : Nat → Nat) (s : Dk) (cs : List Chg) (c : Chg) (W : World) (W' : World) : Prop := ∃ o' pv', DkV o' g m0 m1 m2 pv' fb (s.named (c.app s.now)) (cs ++ [c]) W' ∧ Grow o W o' W'
set_option maxRecDepth 20000 in
set_option maxHeartbeats 2000000 in
theorem doC {o : Ow} {g m0 m1 m2 : Nat} {pv : Value} {fb : Nat → Nat} {s : Dk} {cs : List Chg} {W : World} (v : DkV o g m0 m1 m2 pv fb s cs W) (c : Chg) (cv : Value) (hc : ChgV o fb W cv c) (hw : Wf (s.named (c.app s.now))) (ho : Once (c.app s.now)) (hl : s.now.length ≤ 1000000000) (hcs : cs.length ≤ 1000000000) :
    Calls Tryz.prog 101 #[.pointer (some ⟨g, 0, none⟩), cv] W fun e W' => e = .returned (.tuple #[]) ∧ DoPost o g m0 m1 m2 fb s cs c W W' := by
  obtain ⟨⟨c0, c1, c2, c3, c4, c5, c6, c7⟩, ⟨f3, f4, f7⟩⟩ := cells_eight v.blk
  obtain ⟨vs, hr, hch, hpw⟩ := v.pend
  have hvl := row_nil_len hr
  obtain ⟨i0, hi, hz0, hz1, hz2⟩ := info_parts Tryz.info150
  have V := hide' v
  have HC := hide' hc
  have HR := hide' hr
  have HCH := hide' hch
  have HPW := hide' hpw
  have HVL := hide' hvl
  have HW := hide' hw
  have HO := hide' ho
  have hgm : m1 ≠ g := ow_ne v.o1 v.og (by decide)
  have hg := v.blk.2
  have K7 : Hid (∀ W1, W.grownBy W1 (some m1) → W1.cell? ⟨g, 7, none⟩ = some pv ∧ W1.frozen? ⟨g, 7, none⟩ = false ∧ g < W1.heap.size) := fun W1 h => ⟨by rw [World.cell?_of_block (w := W) (a := ⟨g, 7, none⟩) (h.block g hg (fun e => hgm (Option.some.inj e).symm))]; exact c7, by rw [World.frozen?_of_block (w := W) (a := ⟨g, 7, none⟩) (h.block g hg (fun e => hgm (Option.some.inj e).symm))]; exact f7, Nat.lt_of_lt_of_le hg h.size⟩
  have K8 : Hid (∀ (W1 W2 : World) (X : Obj), W.grownBy W1 (some m1) → (W1.alloc X).grownBy W2 pv.ownBlock → W2.cell? ⟨g, 7, none⟩ = some pv ∧ W2.frozen? ⟨g, 7, none⟩ = false) := fun W1 W2 X h1 h2 => by
    obtain ⟨k1, k2, k3⟩ := K7.out W1 h1
    have hb := below_alloc' W1 X
    have z : (W1.alloc X).heap.size = W1.heap.size + 1 := by simp
    have hne : some g ≠ pv.ownBlock := fun e => by have h3 := HPW.out g e.symm; rw [V.out.og] at h3; cases h3
    have e : W2.heap[g]? = W1.heap[g]? := (h2.block g (by omega) hne).trans (hb.block g k3)
    exact ⟨by rw [World.cell?_of_block (w := W1) (a := ⟨g, 7, none⟩) e]; exact k1, by rw [World.frozen?_of_block (w := W1) (a := ⟨g, 7, none⟩) e]; exact k2⟩
  have KR : Hid (∀ (W1 : World) (X : Obj), W.grownBy W1 (some m1) → (W1.alloc X).ownsRow 0 150 1 pv cs.length vs) := fun W1 X h1 => by
    have s1 : Same o (fun r => r ≠ .seen) W W1 := same_grown h1 V.out.lt V.out.o1
    exact row_below (row_same HR.out s1 HPW.out (by decide)) (below_alloc' W1 X)
  have hcap : ∀ b, o b = some .cap → b ≠ m1 := fun b e => ow_ne e V.out.o1 (by decide)
  clear c0 c1 c2 c3 c4 c6 c7 f3 f4 f7
  cases c with
  | put n k =>
    obtain ⟨hn, bf, bn, hcv, h1, h2, o1, o2⟩ := id hc
    have CC := putC v.seen hl hn h1 h2
    clear h1 h2 o1 o2 hn
    have HCL := hide' CC
    clear v hc hr hch hpw hvl hw ho CC
    subst hcv
    go_enter Tryz.func101, Tryz.ntmps101
    go_wp2_with fail
    refine HCL.out.mono ?_
    rintro e W1 ⟨rfl, hT, g1⟩
    obtain ⟨k7, kf, kg⟩ := K7.out W1 g1
    have HT := hide' hT
    have G1 := hide' g1
    clear hT g1
    go_wp2_with (at_builtin; refine wpList_append_own_at _ rfl _ _ 118 rfl 0 150 i0 .nilFunc 1 8 Tryz.underlying118 hi hz0 hz1 hz2 rfl (by decide) pv cs.length vs rfl (KR.out W1 _ G1.out) ⟨W1.heap.size, 0, none⟩ 1 1 [.func (.func 183) #[] #[.pointer (some ⟨bf, 0, none⟩), .pointer (some ⟨bn, 0, none⟩)]] rfl rfl (cell_one_new _ _ _) (fun u hu => by rw [List.mem_singleton.1 hu]; rfl) (by unfold maxLen; omega) (by omega) (Nat.zero_le _) ?_; intro v' w2 h1 h2 _ h4; obtain ⟨pb, pc, rfl⟩ := row_slice1 h1; have P1 := hide' h1; have P2 := hide' h2; have P4 := hide' h4; obtain ⟨k8, kf8⟩ := K8.out W1 w2 _ G1.out h2; clear h1 h2 h4)
    go_end0
    have := dkV_do V.out _ _ HC.out HT.out G1.out HCH.out HPW.out HVL.out P2.out P1.out P4.out HW.out HO.out
    exact ⟨rfl, _, _, this.1, this.2⟩
  | del n =>
    obtain ⟨hn, bn, hcv, h2, o2⟩ := id hc
    have CC := delC v.seen hn h2
    clear h2 o2 hn
    have HCL := hide' CC
    clear v hc hr hch hpw hvl hw ho CC
    subst hcv
    go_enter Tryz.func101, Tryz.ntmps101
    go_wp2_with fail
    refine HCL.out.mono ?_
    rintro e W1 ⟨rfl, hT, g1⟩
    obtain ⟨k7, kf, kg⟩ := K7.out W1 g1
    have HT := hide' hT
    have G1 := hide' g1
    clear hT g1
    go_wp2_with (at_builtin; refine wpList_append_own_at _ rfl _ _ 118 rfl 0 150 i0 .nilFunc 1 8 Tryz.underlying118 hi hz0 hz1 hz2 rfl (by decide) pv cs.length vs rfl (KR.out W1 _ G1.out) ⟨W1.heap.size, 0, none⟩ 1 1 [.func (.func 102) #[] #[.pointer (some ⟨bn, 0, none⟩)]] rfl rfl (cell_one_new _ _ _) (fun u hu => by rw [List.mem_singleton.1 hu]; rfl) (by unfold maxLen; omega) (by omega) (Nat.zero_le _) ?_; intro v' w2 h1 h2 _ h4; obtain ⟨pb, pc, rfl⟩ := row_slice1 h1; have P1 := hide' h1; have P2 := hide' h2; have P4 := hide' h4; obtain ⟨k8, kf8⟩ := K8.out W1 w2 _ G1.out h2; clear h1 h2 h4)
    go_end0
    have := dkV_do V.out _ _ HC.out HT.out G1.out HCH.out HPW.out HVL.out P2.out P1.out P4.out HW.out HO.out
    exact ⟨rfl, _, _, this.1, this.2⟩
  | mv a b k =>
    obtain ⟨l1, l2, ba, bf, bb, hcv, h1, h2, h3, o1, o2, o3⟩ := id hc
    have CC := mvC v.seen hl l1 l2 h1 h2 h3 (hcap bf o2) (hcap bb o3)
    clear h1 h2 h3 o1 o2 o3 l1 l2
    have HCL := hide' CC
    clear v hc hr hch hpw hvl hw ho CC
    subst hcv
    go_enter Tryz.func101, Tryz.ntmps101
    go_wp2_with fail
    refine HCL.out.mono ?_
    rintro e W1 ⟨rfl, hT, g1⟩
    obtain ⟨k7, kf, kg⟩ := K7.out W1 g1
    have HT := hide' hT
    have G1 := hide' g1
    clear hT g1
    go_wp2_with (at_builtin; refine wpList_append_own_at _ rfl _ _ 118 rfl 0 150 i0 .nilFunc 1 8 Tryz.underlying118 hi hz0 hz1 hz2 rfl (by decide) pv cs.length vs rfl (KR.out W1 _ G1.out) ⟨W1.heap.size, 0, none⟩ 1 1 [.func (.func 222) #[] #[.pointer (some ⟨ba, 0, none⟩), .pointer (some ⟨bf, 0, none⟩), .pointer (some ⟨bb, 0, none⟩)]] rfl rfl (cell_one_new _ _ _) (fun u hu => by rw [List.mem_singleton.1 hu]; rfl) (by unfold maxLen; omega) (by omega) (Nat.zero_le _) ?_; intro v' w2 h1 h2 _ h4; obtain ⟨pb, pc, rfl⟩ := row_slice1 h1; have P1 := hide' h1; have P2 := hide' h2; have P4 := hide' h4; obtain ⟨k8, kf8⟩ := K8.out W1 w2 _ G1.out h2; clear h1 h2 h4)
    go_end0
    have := dkV_do V.out _ _ HC.out HT.out G1.out HCH.out HPW.out HVL.out P2.out P1.out P4.out HW.out HO.out
    exact ⟨rfl, _, _, this.1, this.2⟩
end Go.Proofs.YtibjcofbhldenaaGreatDoor
namespace Go.Proofs.YtibjcofbhldenaaGreatDoor
open Go.RowKit
def opNames (o : DOp) : List Nm := if o.what = 4 then [] else if o.what = 5 then [o.to, o.name] else [o.name]
theorem names_bad (o : DOp) : (opNames o).any (fun n => !goodN n) = true ↔ ((o.what ≠ 4 ∧ goodN o.name = false) ∨ (o.what = 5 ∧ goodN o.to = false)) := by
  unfold opNames
  by_cases h4 : o.what = 4
  · rw [if_pos h4]
    simp only [List.any_nil, Bool.false_eq_true, false_iff]
    rintro (h | h)
    · exact h.1 h4
    · omega
  · rw [if_neg h4]
    by_cases h5 : o.what = 5
    · rw [if_pos h5]
      cases h1 : goodN o.name <;> cases h2 : goodN o.to <;> simp [h1, h2, h5]
    · rw [if_neg h5]
      cases h1 : goodN o.name <;> simp [h1, h4, h5]
theorem step_e (s : Dk) (o : DOp) (h : stepE s (opNames o) ≠ 0) : s.step o = (cntS s, stepE s (opNames o)) := by
  unfold stepE cntS Dk.step at *
  by_cases hd : s.down = true
  · rw [if_pos hd, if_pos hd, if_pos hd]
  · rw [if_neg hd] at h
    rw [if_neg hd, if_neg hd, if_neg hd]
    by_cases hf : s.fault = true
    · rw [if_pos hf, if_pos hf]
    · rw [if_neg hf] at h
      rw [if_neg hf, if_neg hf]
      by_cases hb : (opNames o).any (fun n => !goodN n) = true
      · rw [if_pos hb, if_pos ((names_bad o).1 hb)]
      · rw [if_neg hb] at h
        exact absurd rfl h
theorem step_z (s : Dk) (o : DOp) (h : stepE s (opNames o) = 0) : cntS s = { s with n := s.n + 1 } ∧ s.step o = (match atN s.now o.name with
    | none => if o.what = 1 ∨ o.what = 4 then { s with n := s.n + 1 }.act o 0 else ({ s with n := s.n + 1 }, 90)
    | some k => if o.what = 1 then ({ s with n := s.n + 1 }, 91) else { s with n := s.n + 1 }.act o k) := by
  unfold stepE cntS Dk.step at *
  by_cases hd : s.down = true
  · rw [if_pos hd] at h; cases h
  · rw [if_neg hd] at h
    rw [if_neg hd, if_neg hd]
    by_cases hf : s.fault = true
    · rw [if_pos hf] at h; cases h
    · rw [if_neg hf] at h
      rw [if_neg hf]
      by_cases hb : (opNames o).any (fun n => !goodN n) = true
      · rw [if_pos hb] at h; cases h
      · rw [if_neg (fun e => hb ((names_bad o).2 e))]
        exact ⟨rfl, rfl⟩
theorem z_good {s : Dk} {ns : List Nm} (h : stepE s ns = 0) : ∀ n ∈ ns, goodN n = true := by
  unfold stepE at h
  split at h
  · cases h
  · split at h
    · cases h
    · split at h
      · cases h
      · rename_i hb
        intro n hn
        cases e : goodN n with
        | true => rfl
        | false => exact absurd (List.any_eq_true.2 ⟨n, hn, by rw [e]; rfl⟩) hb
theorem good_len {n : Nm} (h : goodN n = true) : n.length ≤ 64 := by
  unfold goodN at h
  simp only [Bool.and_eq_true, decide_eq_true_eq] at h
  exact h.2.2
def Bd (m : Nat) (s : Dk) : Prop := s.n ≤ m ∧ s.data.length ≤ m ∧ s.now.length ≤ m ∧ s.safe.length ≤ m ∧ s.pend.length ≤ m ∧ ∀ i, (s.data.getD i []).length ≤ m
theorem bd_cnt {m : Nat} {s : Dk} (h : Bd m s) : Bd (m + 1) (cntS s) := by
  obtain ⟨h1, h2, h3, h4, h5, h6⟩ := h
  unfold cntS
  split
  · exact ⟨by omega, by omega, by omega, by omega, by omega, fun i => by have := h6 i; omega⟩
  · exact ⟨by show s.n + 1 ≤ _; omega, by show s.data.length ≤ _; omega, by show s.now.length ≤ _; omega, by show s.safe.length ≤ _; omega, by show s.pend.length ≤ _; omega, fun i => by show (s.data.getD i []).length ≤ _; have := h6 i; omega⟩
theorem bd_mono {m k : Nat} {s : Dk} (h : Bd m s) (hk : m ≤ k) : Bd k s := by
  obtain ⟨h1, h2, h3, h4, h5, h6⟩ := h
  exact ⟨by omega, by omega, by omega, by omega, by omega, fun i => by have := h6 i; omega⟩
theorem bd_act {m : Nat} {s : Dk} (h : Bd m s) (o : DOp) (k : Nat) : Bd (m + 1 + o.data.length) (s.act o k).1 := by
  obtain ⟨h1, h2, h3, h4, h5, h6⟩ := h
  have hB : Bd (m + 1 + o.data.length) s := ⟨by omega, by omega, by omega, by omega, by omega, fun i => by have := h6 i; omega⟩
  unfold Dk.act
  split
  · refine ⟨by show s.n ≤ _; omega, by show (s.data ++ [[]]).length ≤ _; rw [List.length_append]; simp; omega, ?_, by show s.safe.length ≤ _; omega, by show (s.pend ++ [_]).length ≤ _; rw [List.length_append]; simp; omega, fun i => ?_⟩
    · show (putN s.now o.name s.data.length).length ≤ _
      have := putN_len s.now o.name s.data.length
      omega
    · show ((s.data ++ [[]]).getD i []).length ≤ _
      have := h6 i
      rcases Nat.lt_or_ge i s.data.length with hi | hi
      · have e9 : (s.data ++ [[]]).getD i [] = s.data.getD i [] := by simp only [List.getD, List.getElem?_append_left hi]
        rw [e9]; omega
      · have e9 : (s.data ++ [[]]).getD i [] = [] := by
          simp only [List.getD, List.getElem?_append_right hi]
          cases i - s.data.length <;> simp
        rw [e9]; simp
  · split
    · split
      · exact hB
      · refine ⟨by show s.n ≤ _; omega, by show (s.data.set _ _).length ≤ _; simp; omega, by show s.now.length ≤ _; omega, by show s.safe.length ≤ _; omega, by show s.pend.length ≤ _; omega, fun i => ?_⟩
        show ((s.data.set k (s.data.getD k [] ++ o.data)).getD i []).length ≤ _
        rw [getD_set]
        have a1 := h6 i
        have a2 := h6 k
        split
        · rw [List.length_append]; omega
        · omega
    · split
      · exact hB
      · split
        · exact ⟨by show s.n ≤ _; omega, by show s.data.length ≤ _; omega, by show s.now.length ≤ _; omega, by show s.now.length ≤ _; omega, Nat.zero_le _, fun i => by show (s.data.getD i []).length ≤ _; have := h6 i; omega⟩
        · split
          · split
            · exact hB
            · refine ⟨by show s.n ≤ _; omega, by show s.data.length ≤ _; omega, ?_, by show s.safe.length ≤ _; omega, by show (s.pend ++ [_]).length ≤ _; rw [List.length_append]; simp; omega, fun i => by show (s.data.getD i []).length ≤ _; have := h6 i; omega⟩
              show (putN (delN s.now o.name) o.to k).length ≤ _
              have a1 := putN_len (delN s.now o.name) o.to k
              have a2 := delN_len s.now o.name
              omega
          · refine ⟨by show s.n ≤ _; omega, by show s.data.length ≤ _; omega, ?_, by show s.safe.length ≤ _; omega, by show (s.pend ++ [_]).length ≤ _; rw [List.length_append]; simp; omega, fun i => by show (s.data.getD i []).length ≤ _; have := h6 i; omega⟩
            show (delN s.now o.name).length ≤ _
            have a2 := delN_len s.now o.name
            omega
theorem bd_step {m : Nat} {s : Dk} (h : Bd m s) (o : DOp) : Bd (m + 2 + o.data.length) (s.step o).1 := by
  by_cases e : stepE s (opNames o) = 0
  · obtain ⟨h1, h2⟩ := step_z s o e
    have hB : Bd (m + 1) { s with n := s.n + 1 } := by rw [← h1]; exact bd_cnt h
    rw [h2]
    split
    · split
      · exact bd_mono (bd_act hB o 0) (by omega)
      · exact bd_mono hB (by omega)
    · split
      · exact bd_mono hB (by omega)
      · exact bd_mono (bd_act hB o _) (by omega)
  · rw [step_e s o e]
    exact bd_mono (bd_cnt h) (by omega)
theorem dkV_file {o o' : Ow} {g m0 m1 m2 : Nat} {pv : Value} {fb : Nat → Nat} {s : Dk} {cs : List Chg} {W W' : World} (h : DkV o g m0 m1 m2 pv fb s cs W) (k : Nat) {d' : List UInt8} {f' : Nat} (hle : o.le o')
    (hs : Same o (fun r => r ≠ .file k ∧ r ≠ .row k) W W') (hf : FileAt o' W' (fb k) k d' f') (hlt : ∀ x, o'.has x → x < W'.heap.size) (hw : Wf { s with data := s.data.set k d', firm := s.firm.set k f' }) :
    DkV o' g m0 m1 m2 pv fb { s with data := s.data.set k d', firm := s.firm.set k f' } cs W' where
  blk := by
    have := blk_same h.blk hs h.og (by simp)
    show Blk g W' [.int .i64 s.room, .int .i64 s.power, .map (some m0), .int .i64 (s.n : Int), .int .i64 ((s.data.set k d').length : Int), .map (some m1), .map (some m2), pv]
    rw [List.length_set]
    exact this
  fails := fails_same h.fails hs h.o0 (by simp)
  seen := tbl_same h.seen hs h.o1 (by simp)
  safe := tbl_same h.safe hs h.o2 (by simp)
  pend := pend_le (pend_same h.pend hs (by simp) (by simp)) hle
  files := fun i hi => by
    have hi' : i < s.data.length := by simpa using hi
    have hfl : i < s.firm.length := by rw [h.wf.len]; exact hi'
    show FileAt o' W' (fb i) i ((s.data.set k d').getD i []) ((s.firm.set k f').getD i 0)
    rw [getD_set, getD_setN]
    by_cases e : i = k
    · subst e
      rw [if_pos ⟨rfl, hi'⟩, if_pos ⟨rfl, hfl⟩]
      exact hf
    · rw [if_neg (fun h => e h.1), if_neg (fun h => e h.1)]
      exact file_le (file_same (h.files i hi') hs ⟨by simpa using e, by simp⟩ ⟨by simp, by simpa using e⟩) hle
  og := hle _ _ h.og
  o0 := hle _ _ h.o0
  o1 := hle _ _ h.o1
  o2 := hle _ _ h.o2
  lt := hlt
  wf := hw
  once := h.once
  sc := h.sc
  rm := h.rm
theorem off_low {P : Nat → Prop} {W W' : World} {n : Nat} (h : Off (fun k => P k ∨ n ≤ k) W W') (hn : W.heap.size ≤ n) : Off P W W' :=
  ⟨h.os, h.tape, h.output, h.size, fun k hk hp => h.block k hk (fun e => by rcases e with e | e; exact hp e; omega)⟩
theorem grow_g {o : Ow} {g : Nat} {W W' : World} (h : Off (fun k => k = g) W W') (hg : o g = some .disk) : Grow o W o W' :=
  ⟨h.mono (fun i e => by rw [e]; exact has_of hg), fun _ _ e => e, fun _ e => .inl e⟩
theorem set_self (l : List (List UInt8)) (k : Nat) : l.set k (l.getD k []) = l := by
  apply List.ext_getElem?
  intro i
  by_cases h : i = k
  · subst h
    by_cases hl : i < l.length
    · simp [hl]
    · simp [hl]
  · rw [List.getElem?_set_ne (Ne.symm h)]
theorem set_selfN (l : List Nat) (k : Nat) : l.set k (l.getD k 0) = l := by
  apply List.ext_getElem?
  intro i
  by_cases h : i = k
  · subst h
    by_cases hl : i < l.length
    · simp [hl]
    · simp [hl]
  · rw [List.getElem?_set_ne (Ne.symm h)]
end Go.Proofs.YtibjcofbhldenaaGreatDoor
namespace Go.Proofs.YtibjcofbhldenaaGreatDoor
open Go.RowKit Go.Maps
theorem file_slice {o : Ow} {W : World} {b i : Nat} {bs : List UInt8} {sf : Nat} (h : FileAt o W b i bs sf) : ∃ ao cap, Blk b W [.int .i64 (i : Int), .slice ao bs.length cap, .int .i64 (sf : Int)] ∧ W.ownsRow 0 5 1 (.slice ao bs.length cap) bs.length (bs.map B) ∧ o b = some (.file i) ∧ ∀ rb, (Value.slice ao bs.length cap).ownBlock = some rb → o rb = some (.row i) := by
  obtain ⟨rv, h1, h2, h3, h4⟩ := h
  rcases h2.2 with ⟨rfl, hn⟩ | ⟨x, cap, cur, rfl, _⟩
  · rw [hn] at h2 ⊢; exact ⟨none, 0, h1, h2, h3, h4⟩
  · exact ⟨_, _, h1, h2, h3, h4⟩
theorem row_holds0 {W : World} {base : Nat} {v : Value} {bs : List UInt8} (h : W.ownsRow base 5 1 v bs.length (bs.map B)) : HoldsB W v bs := by
  obtain ⟨hl, h1 | ⟨g, cap, cur, rfl, hg, hh, hr⟩⟩ := h
  · obtain ⟨rfl, hn⟩ := h1
    obtain rfl : bs = [] := List.eq_nil_of_length_eq_zero hn
    exact ⟨none, 0, rfl, fun _ => rfl, Nat.le_refl _, fun h => absurd rfl h⟩
  · have h : W.ownsRow base 5 1 (.slice (some ⟨g, 0, none⟩) bs.length cap) bs.length (bs.map B) := ⟨hl, .inr ⟨g, cap, cur, rfl, hg, hh, hr⟩⟩
    refine ⟨_, cap, rfl, fun e => (by cases e), hr.1, fun _ => ⟨g, 0, rfl, (h.lt g rfl).2, fun j hj => ?_⟩⟩
    rw [Nat.zero_add, h.cellAt j (by omega)]
    simp [hj]
/-- what a step of a disk answers and leaves -/
def StepPost (o : Ow) (g : Nat) (s : Dk) (op : DOp) (W : World) (e : Ending) (W' : World) : Prop := e = .returned (.int .i64 (s.step op).2) ∧ ∃ o', Dsk o' g (s.step op).1 W' ∧ Grow o W o' W'
theorem sync_spec (s : Dk) (nm to : Nm) (d : List UInt8) (h : stepE s [nm] = 0) : (atN s.now nm = none → s.step ⟨3, nm, to, d⟩ = (cntS s, 90)) ∧ ∀ k, atN s.now nm = some k → s.step ⟨3, nm, to, d⟩ = ({ cntS s with firm := s.firm.set k (s.data.getD k []).length }, 0) := by
  obtain ⟨h1, h2⟩ := step_z s ⟨3, nm, to, d⟩ h
  refine ⟨fun e => ?_, fun k e => ?_⟩
  · rw [h2, e, h1]; rfl
  · rw [h2, e, h1]; rfl
set_option maxRecDepth 20000 in
set_option maxHeartbeats 2000000 in
theorem syncC {o : Ow} {g : Nat} {s : Dk} {W : World} (h : Dsk o g s W) (nm : ByteArray) (to : Nm) (d : List UInt8) (hs : nm.size ≤ 140737488351232) (hB : Bd 900000000 s) :
    Calls Tryz.prog 142 #[.pointer (some ⟨g, 0, none⟩), .string nm] W fun e W' => StepPost o g s ⟨3, nm.data.toList, to, d⟩ W e W' := by
  obtain ⟨m0, m1, m2, pv, fb, cs, v⟩ := h
  have CO := hide' (stepOnC v W (.slice none 0 0) [] (ownS_nil W W (Below.refl _ _)) v.lt nm hs (fun n hn => by cases hn) (by simp) (by have := hB.1; omega))
  have V := hide' v
  by_cases hE : stepE s [nm.data.toList] = 0
  · obtain ⟨sp1, sp2⟩ := sync_spec s nm.data.toList to d hE
    cases ha : atN s.now nm.data.toList with
    | none =>
      have R : Hid (onV fb s.now nm.data.toList (stepE s ([] ++ [nm.data.toList])) = .tuple #[.pointer none, .int .i64 90]) := by
        unfold Hid onV; rw [List.nil_append, hE, if_neg (by decide)]; unfold findV; rw [ha]
      rw [R.out] at CO
      have SP := hide' (sp1 ha)
      clear v ha hE sp1 sp2
      go_enter Tryz.func142, Tryz.ntmps142
      go_wp2_with (go_at_call 100; refine CO.out.mono ?_; rintro e w1 ⟨rfl, h1, h2⟩; have H1 := hide' h1; have H2 := hide' h2; clear h1 h2)
      go_ret
      exact ⟨by rw [SP.out]; rfl, o, by rw [SP.out]; exact ⟨_, _, _, _, _, _, H1.out⟩, grow_g (off_low H2.out (Nat.le_refl _)) V.out.og⟩
    | some k =>
      have R : Hid (onV fb s.now nm.data.toList (stepE s ([] ++ [nm.data.toList])) = .tuple #[.pointer (some ⟨fb k, 0, none⟩), .int .i64 0]) := by
        unfold Hid onV; rw [List.nil_append, hE, if_neg (by decide)]; unfold findV; rw [ha]
      rw [R.out] at CO
      have SP := hide' (sp2 k ha)
      have hk := (v.wf.now.2 _ (at_some ha)).1
      have hcn : (cntS s).data = s.data := by unfold cntS; split <;> rfl
      have hcf : (cntS s).firm = s.firm := by unfold cntS; split <;> rfl
      have hwf := wf_step v.wf ⟨3, nm.data.toList, to, d⟩
      rw [SP.out] at hwf
      have HW := hide' hwf
      have HK := hide' hk
      have HN := hide' hcn
      have HF := hide' hcf
      clear v ha hE sp1 sp2 hwf hk hcn hcf
      go_enter Tryz.func142, Tryz.ntmps142
      go_wp2_with fail
      refine CO.out.mono ?_
      rintro e w1 ⟨rfl, h1, h2⟩
      have fa := h1.files k (by rw [HN.out]; exact HK.out)
      rw [HN.out, HF.out] at fa
      obtain ⟨ao, ca, fB, fR, fo, fw⟩ := file_slice fa
      obtain ⟨⟨c0, c1, c2⟩, ⟨f0, f1, f2⟩⟩ := cells_3 fB
      have FB := hide' fB
      have FR := hide' fR
      have FO := hide' fo
      have FW := hide' fw
      have H1 := hide' h1
      have H2 := hide' h2
      have hlb := hB.2.2.2.2.2 k
      clear h1 h2 fa fB fR fo fw hB
      obtain ⟨len, hlen⟩ : ∃ len, len = (s.data.getD k []).length := ⟨_, rfl⟩
      have HL := hide' hlen
      rw [← hlen] at c1 hlb
      clear hlen
      go_wp2_with fail
      go_ret
      refine ⟨by rw [SP.out]; rfl, o, ?_, ?_⟩
      · rw [SP.out]
        have sp : Same o (fun r => r ≠ .file k ∧ r ≠ .row k) w1 (w1.setCell ⟨fb k, 2, none⟩ (.int .i64 (len : Int))) := (same_poke FO.out _).mono (fun r h => h.1)
        have fb' := cells_set FB.out (j := 2) (by simp) (.int .i64 (len : Int))
        have fr' := row_same (r := .row k) FR.out (same_poke (W := w1) (b := fb k) (j := 2) (o := o) FO.out (.int .i64 (len : Int))) FW.out (by simp)
        have q := dkV_file H1.out k (d' := s.data.getD k []) (f' := len) (fun _ _ e => e) sp ⟨_, fb', fr', FO.out, FW.out⟩ (fun x hx => Nat.lt_of_lt_of_le (H1.out.lt x hx) sp.size) (by
          rw [HN.out, HF.out, set_self, HL.out]
          have := HW.out
          have e : ({ cntS s with firm := s.firm.set k (s.data.getD k []).length } : Dk) = { cntS s with data := s.data, firm := s.firm.set k (s.data.getD k []).length } := by rw [← HN.out]
          rw [← e]
          exact this)
        rw [HN.out, HF.out, set_self, HL.out] at q
        have e : ({ cntS s with firm := s.firm.set k (s.data.getD k []).length } : Dk) = { cntS s with data := s.data, firm := s.firm.set k (s.data.getD k []).length } := by rw [← HN.out]
        simp only
        rw [e]
        rw [← HL.out] at q ⊢
        exact ⟨_, _, _, _, _, _, q⟩
      · have gr := grow_g (off_low H2.out (Nat.le_refl _)) V.out.og
        exact gr.trans ⟨off_poke (S := o.has) ⟨fb k, 2, none⟩ (has_of FO.out) _, fun _ _ e => e, fun _ e => .inl e⟩
  · have R : Hid (onV fb s.now nm.data.toList (stepE s ([] ++ [nm.data.toList])) = .tuple #[.pointer none, .int .i64 (stepE s [nm.data.toList])]) := by
      unfold Hid onV; rw [List.nil_append, if_pos hE]
    have SP : Hid (s.step ⟨3, nm.data.toList, to, d⟩ = (cntS s, stepE s [nm.data.toList])) := step_e s ⟨3, nm.data.toList, to, d⟩ hE
    rw [R.out] at CO
    generalize stepE s [nm.data.toList] = E at hE CO SP
    have q : (E != 0) = true := by simpa using hE
    clear v hE
    go_enter Tryz.func142, Tryz.ntmps142
    go_wp2_with (go_at_call 100; refine CO.out.mono ?_; rintro e w1 ⟨rfl, h1, h2⟩; have H1 := hide' h1; have H2 := hide' h2; clear h1 h2)
    go_ret
    exact ⟨by rw [SP.out]; rfl, o, by rw [SP.out]; exact ⟨_, _, _, _, _, _, H1.out⟩, grow_g (off_low H2.out (Nat.le_refl _)) V.out.og⟩
end Go.Proofs.YtibjcofbhldenaaGreatDoor
namespace Go.Proofs.YtibjcofbhldenaaGreatDoor
open Go.RowKit Go.Maps
open Go.WideElems (Fit rd rg pl rd_val rg_of)
/-- the bytes of those that are no longer to come -/
def sumL (d : List (List UInt8)) (left : Lit → Bool) (l : NL) : Nat := ((l.filter (fun p => !left (.string p.1))).map (fun p => (d.getD p.2 []).length)).sum
theorem sumL_cons (d : List (List UInt8)) (left : Lit → Bool) (q : Nm × Nat) (r : NL) : sumL d left (q :: r) = (if left (.string q.1) = true then 0 else (d.getD q.2 []).length) + sumL d left r := by
  unfold sumL
  rw [List.filter_cons]
  cases left (.string q.1) <;> simp
theorem sumL_start (d : List (List UInt8)) (fb : Nat → Nat) (l : NL) : sumL d (Maps.has (dOf fb l)) l = 0 := by
  unfold sumL
  have : l.filter (fun p => !Maps.has (dOf fb l) (.string p.1)) = [] := by
    rw [List.filter_eq_nil_iff]
    intro p hp
    rw [dOf_has]
    cases e : atN l p.1 with
    | none => exact absurd rfl (at_none e p hp)
    | some k => simp
  rw [this]
  rfl
theorem sumL_end (d : List (List UInt8)) {left : Lit → Bool} (h : ∀ kl, left kl = false) (l : NL) : sumL d left l = sumN d l := by
  unfold sumL sumN
  rw [List.filter_eq_self.2 (fun p _ => by rw [h]; rfl)]
theorem sumL_other (d : List (List UInt8)) (left : Lit → Bool) (x : Nm) : ∀ (l : NL), (∀ p ∈ l, p.1 ≠ x) → sumL d (fun z => left z && !z.sameKey (.string x)) l = sumL d left l := by
  intro l
  induction l with
  | nil => intro _; rfl
  | cons q r ih =>
    intro h
    rw [sumL_cons, sumL_cons, ih (fun p hp => h p (List.mem_cons_of_mem _ hp)), same_str]
    have : q.1 ≠ x := h q (List.mem_cons_self ..)
    simp [this]
theorem sumL_step (d : List (List UInt8)) {left : Lit → Bool} {x : Nm} {k : Nat} (hl : left (.string x) = true) : ∀ {l : NL}, SortedN l → atN l x = some k → sumL d (fun z => left z && !z.sameKey (.string x)) l = sumL d left l + (d.getD k []).length := by
  intro l
  induction l with
  | nil => intro _ h; cases h
  | cons q r ih =>
    intro hs h
    obtain ⟨h1, h2⟩ := List.pairwise_cons.1 hs
    rw [sumL_cons, sumL_cons, same_str]
    by_cases e : q.1 = x
    · have ek : q.2 = k := by
        unfold atN at h
        rw [List.find?_cons, show decide (q.1 = x) = true by simpa using e] at h
        simpa using h
      have hr : ∀ p ∈ r, p.1 ≠ x := fun p hp e2 => by
        have := h1 p hp
        rw [e, e2, less_irrefl] at this
        cases this
      rw [sumL_other d left x r hr, ek]
      have q1 : left (.string q.1) = true := by rw [e]; exact hl
      simp [e, hl]
      omega
    · have ha : atN r x = some k := by
        unfold atN at h ⊢
        rw [List.find?_cons, show decide (q.1 = x) = false by simpa using e] at h
        exact h
      rw [ih h2 ha]
      simp [e]
      omega
theorem sumL_le (d : List (List UInt8)) (left : Lit → Bool) (l : NL) : sumL d left l ≤ sumN d l := by
  induction l with
  | nil => exact Nat.le_refl _
  | cons q r ih =>
    rw [sumL_cons]
    have : sumN d (q :: r) = (d.getD q.2 []).length + sumN d r := by unfold sumN; simp
    rw [this]
    split <;> omega
theorem sumN_bound (d : List (List UInt8)) (m : Nat) (h : ∀ i, (d.getD i []).length ≤ m) : ∀ l : NL, sumN d l ≤ l.length * m := by
  intro l
  induction l with
  | nil => exact Nat.zero_le _
  | cons q r ih =>
    have e : sumN d (q :: r) = (d.getD q.2 []).length + sumN d r := by unfold sumN; simp
    rw [e, List.length_cons, Nat.succ_mul]
    have := h q.2
    omega
/-- an element that is there -/
def pel2 (v : Value) : Option (DU × List MemPlace) := match v with
  | .pointer (some ⟨b, 0, none⟩) => some (.lit (.int .i64 (b : Int)), [])
  | _ => none
def ptrV (b : Nat) : Value := .pointer (some ⟨b, 0, none⟩)
theorem pel2_inv {v : Value} {y : DU × List MemPlace} (h : pel2 v = some y) : ∃ b, v = ptrV b := by
  unfold pel2 at h
  split at h
  · exact ⟨_, rfl⟩
  · cases h
theorem tbl_two {W : World} {m : Nat} {fb : Nat → Nat} {l : NL} (h : Tbl W m fb l) : W.ownsMap Tryz.prog 9 pel2 m l.length (dOf fb l) := by
  obtain ⟨es, clock, hb, F, hs, hD⟩ := h
  have hx : ∀ x ∈ es.toList, ∀ z, pel x.val = some z → pel2 x.val = some z := by
    intro x hx z hz
    rcases pel_inv hz with ⟨e1, e2⟩ | ⟨b, e1, e2⟩
    · exfalso
      obtain ⟨y, hy⟩ := F.reads x hx
      obtain ⟨z', hz', hyz⟩ := rd_val hy
      rw [hz] at hz'
      have e3 := Option.some.inj hz'
      have hm : rg Tryz.prog 9 pel x ∈ (es.toList.map (rg Tryz.prog 9 pel)).foldr DataW.insert [] := mem_sorted.2 (List.mem_map_of_mem hx)
      unfold dOf at hD
      rw [← DataW.map.inj hD] at hm
      obtain ⟨p, _, hp⟩ := List.mem_map.1 hm
      rw [rg_of hy] at hp
      have : y.2 = .nil := by rw [hyz, ← e3, e2]
      rw [← hp] at this
      simp at this
    · rw [e1]; rw [e2]; rfl
  have := World.ownsMap_of_fit (R := pel2) hb F hx
  rw [hD]
  exact this.mono hs
set_option maxRecDepth 100000 in
set_option maxHeartbeats 2000000 in
theorem usedC {o : Ow} {g : Nat} {s : Dk} {W : World} (h : Dsk o g s W) (hB : Bd 1000000000 s) :
    Calls Tryz.prog 31 #[.pointer (some ⟨g, 0, none⟩)] W fun e W' => e = .returned (.int .i64 (s.used : Int)) ∧ Below W.heap.size W W' := by
  obtain ⟨m0, m1, m2, pv, fb, cs, v⟩ := h
  obtain ⟨⟨_, _, _, _, _, c5, _⟩, _⟩ := cells_eight v.blk
  have HT := hide' (tbl_two v.seen)
  have V := hide' v
  have HS := hide' v.wf.now.1
  have bnd : s.used ≤ 1000000000000000000 := by
    have h1 := sumN_bound s.data 1000000000 hB.2.2.2.2.2 s.now
    have h2 : s.now.length * 1000000000 ≤ 1000000000 * 1000000000 := Nat.mul_le_mul_right _ hB.2.2.1
    rw [used_sum]
    omega
  have HBN := hide' bnd
  have HB := hide' hB
  clear v hB bnd
  go_enter Tryz.func31, Tryz.ntmps31
  go_wp2_with (at_range; refine wpList_range_own _ rfl _ 117 rfl 9 142 kStr Tryz.underlying117 pel2 m1 s.now.length (dOf fb s.now) rfl HT.out ?_; intro w0 hrg0 hg0 hs0)
  go_frame
  go_loopw [3, 5] (fun u _ wr => ∃ (n : Nat) (left : Lit → Bool) (cnt : Nat), u = .int .i64 n ∧ Hid (n = sumL s.data left s.now) ∧ Hid (wr.ranges Tryz.prog 9 pel2 m1 W.heap.size s.now.length (dOf fb s.now) left cnt) ∧ Hid (Below W.heap.size W wr) ∧ Hid (∀ kl, left kl = true → Maps.has (dOf fb s.now) kl = true))
    (fun _ _ wr => wr.rangeLeft m1 W.heap.size)
  case atStart => exact ⟨0, _, _, rfl, (sumL_start _ _ _).symm, hrg0, ⟨hg0.os, hg0.tape, hg0.output, hg0.size, fun k hk => hg0.block k hk (by simp)⟩, fun _ h => h⟩
  case round =>
    obtain ⟨n, left, cnt, rfl, hn, hrg, hbl, hle⟩ := hrel
    clear hrg0 hg0 hs0
    go_wp2_with (at_next; refine wpList_next_ranges _ rfl _ rfl 9 kStr pel2 encStr ptrV (fun key kl hk => by obtain ⟨x, hx, _⟩ := Maps.keyOf_str Tryz.underlying9 hk; exact ⟨x, hx⟩) (fun v y hv => pel2_inv hv) m1 W.heap.size s.now.length (dOf fb s.now) left cnt rfl hrg.out ?_ ?_)
    · intro _ hl0
      go_wp2_with fail
      go_ret
      refine ⟨?_, hbl.out⟩
      have e1 : n = s.used := by rw [hn.out, sumL_end s.data hl0, used_sum]
      rw [← e1]
      rfl
    · intro x c kl yd yp w1 cnt1 hkey hlk hv hat hrg1 hlt hg1 hs1 hen
      obtain ⟨x', ex, rfl, _⟩ := Maps.keyOf_str Tryz.underlying9 hkey
      obtain rfl : x = x' := encStr_inj ex
      have hh := hle.out _ hlk
      rw [dOf_has] at hh
      obtain ⟨k, ha⟩ := Option.isSome_iff_exists.1 hh
      have hd := hat (.nil)
      rw [dOf_some ha] at hd
      subst hd
      have hc : c = fb k := by
        have h1 : pel2 (ptrV c) = some (.lit (.int .i64 (c : Int)), []) := rfl
        rw [h1] at hv
        simp only [Option.some.injEq, Prod.mk.injEq, DataW.lit.injEq, Lit.int.injEq, true_and] at hv
        omega
      subst hc
      have hk := (V.out.wf.now.2 _ (at_some ha)).1
      obtain ⟨ao, ca, fB, _, fo, _⟩ := file_slice (V.out.files k hk)
      have B1 : Hid (Below W.heap.size W w1) := hbl.out.trans ⟨hg1.os, hg1.tape, hg1.output, hg1.size, fun i hi => hg1.block i (by have := hbl.out.size; omega) (fun e => by have := Option.some.inj e; omega)⟩
      have fB1 := cells_below fB B1.out
      obtain ⟨⟨_, d1, _⟩, _⟩ := cells_3 fB1
      have N1 : Hid (n + (s.data.getD k []).length = sumL s.data (fun z => left z && !z.sameKey (.string x)) s.now) := by
        unfold Hid; rw [sumL_step s.data hlk HS.out ha, hn.out]
      have hle1 := sumL_le s.data (fun z => left z && !z.sameKey (.string x)) s.now
      have hbn : n + (s.data.getD k []).length ≤ 1000000000000000000 := by
        rw [N1.out]
        have := HBN.out
        rw [used_sum] at this
        omega
      have L1 : Hid (∀ kl, (fun z => left z && !z.sameKey (.string x)) kl = true → Maps.has (dOf fb s.now) kl = true) := fun kl h => hle.out kl (by simp only [Bool.and_eq_true] at h; exact h.1)
      have R1 := hide' hrg1
      have R0 := hrg
      have LT := hide' hlt
      generalize (s.data.getD k []).length = len at d1 N1 hbn
      clear hkey hlk hv hat hrg1 hlt hg1 hs1 hn hbl hle hle1 fB fB1 fo ha hk hh ex HT
      unfold ptrV at hen ⊢
      go_wp2_with fail
      go_roundw
      case rel => exact ⟨n + len, _, cnt1, by go_num, N1, R1, B1, L1⟩
      case measure => rw [R1.out.left_eq, R0.out.left_eq]; exact LT.out
end Go.Proofs.YtibjcofbhldenaaGreatDoor
