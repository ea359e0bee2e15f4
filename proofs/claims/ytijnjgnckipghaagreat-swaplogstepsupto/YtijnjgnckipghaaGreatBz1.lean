/- The program's disk and the document's, side by side: what the laws' loops keep. The calls of both disks, side by side, as the laws make them. The contract of the document's Steps. The contract of the document's Add. The contract of the document's Rewrite. The contract of the document's Open. -/
import Derived.Test.YtijnjgnckipghaaGreatBdF
import Derived.Test.YtijnjgnckipghaaGreatBdG
import Derived.Test.YtijnjgnckipghaaGreatSwSq
import Derived.Test.YtijnjgnckipghaaGreatDrT
import Derived.Deep.RegionHeldLaw
import Derived.Deep.DeepCutAuto
import Derived.Test.YtijnjgnckipghaaGreatRcH
import Derived.Deep.RegionHeld3
import Derived.Test.YtijnjgnckipghaaGreatBw15
import Derived.Lib.Strings
namespace Go.Proofs.YtijnjgnckipghaaGreat
open Go.RowKit
theorem refS_sub {M W : World} {v : Value} {s : Dk} (h : RefS M v s) (hs : Sub M W) : RefS W v s := by
  obtain ⟨x0, x1, x2, x3, x4, x6, e, h⟩ := h
  exact ⟨x0, x1, x2, x3, x4, x6, e, refV_sub h hs⟩
/-- the disk's blocks, and the block q -/
def NoB (o : Ow) (q k : Nat) : Prop := o.has k ∨ k = q
/-- a block that is not the disk's -/
structure Kp (o : Ow) (w1 : World) (p : Nat) (cs : List Value) (W : World) : Prop where
  out : o p = none
  lo : w1.heap.size ≤ p
  blk : Blk p W cs
section
variable {o o' : Ow} {w1 W W' : World} {p g q : Nat} {cs vs us : List Value} {s s' t t' : Dk} {v v' : Value}
theorem kp_below (h : Kp o w1 p cs W) (hb : Below W.heap.size W W') : Kp o w1 p cs W' := ⟨h.out, h.lo, cells_below h.blk hb⟩
theorem kp_grow (h : Kp o w1 p cs W) (hg : Grow o W o' W') : Kp o' w1 p cs W' := by
  have hn : ¬ o.has p := fun e => e h.out
  have hk := hg.off.block p h.blk.2 hn
  refine ⟨?_, h.lo, ⟨fun j hj => ⟨?_, ?_⟩, Nat.lt_of_lt_of_le h.blk.2 hg.off.size⟩⟩
  · cases e : o' p with
    | none => rfl
    | some r =>
      rcases hg.new p (has_of e) with e1 | e1
      · exact absurd e1 hn
      · exact absurd h.blk.2 (by omega)
  · rw [World.cell?_of_block (w := W) (a := ⟨p, j, none⟩) hk]; exact (h.blk.1 j hj).1
  · rw [World.frozen?_of_block (w := W) (a := ⟨p, j, none⟩) hk]; exact (h.blk.1 j hj).2
/-- the program's disk is s, the document's value v is t; q's block holds vs -/
structure Two (o : Ow) (g q : Nat) (vs : List Value) (v : Value) (s t : Dk) (w1 W : World) : Prop where
  liv : Liv o g s w1 W
  kp : Kp o w1 q vs W
  ref : RefS (mask (NoB o q) W) v t
theorem two_lt (h : Two o g q vs v s t w1 W) : ∀ k, NoB o q k → k < W.heap.size := fun k e => e.elim (dsk_lt h.liv.dsk k) (fun e => by rw [e]; exact h.kp.blk.2)
theorem two_refS (h : Two o g q vs v s t w1 W) : RefS W v t := refS_sub h.ref (mask_sub _ _)
theorem two_below (h : Two o g q vs v s t w1 W) (hb : Below W.heap.size W W') : Two o g q vs v s t w1 W' :=
  ⟨liv_below h.liv hb, kp_below h.kp hb, refS_sub h.ref (off_mask (S := NoB o q) (S' := NoB o q) (off_of hb) (fun _ hk => .inl hk))⟩
theorem two_grow (h : Two o g q vs v s t w1 W) (hl : Liv o' g s' w1 W') (hg : Grow o W o' W') : Two o' g q vs v s' t w1 W' :=
  ⟨hl, kp_grow h.kp hg, refS_sub h.ref (off_mask (S := NoB o q) (S' := NoB o' q) (hg.off.mono (fun _ e => .inl e)) (fun k e => e.elim (fun e => (hg.new k e).elim (fun e => .inl (.inl e)) .inr) (fun e => .inl (.inr e))))⟩
theorem two_ref (h : Two o g q vs v s t w1 W) (hb : Below W.heap.size W W') (hr : RefS (mask (NoB o q) W') v' t') : Two o g q vs v' s t' w1 W' := ⟨liv_below h.liv hb, kp_below h.kp hb, hr⟩
theorem two_put (h : Two o g q vs v s t w1 W) (hu : us.length = vs.length) : Two o g q us v s t w1 (putFrom q 0 W us) := by
  refine ⟨⟨dsk_off h.liv.dsk (off_put (S := fun k => k = q) rfl us 0 W) (fun k e => by rw [e]; exact h.kp.out), h.liv.own, below_put h.kp.lo us 0 W h.liv.bel⟩, ⟨h.kp.out, h.kp.lo, ?_⟩, refS_sub h.ref (off_mask (S := NoB o q) (S' := NoB o q) (off_put (.inr rfl) us 0 W) (fun _ e => .inl e))⟩
  have := cells_putFrom us 0 W vs h.kp.blk (by omega)
  rw [List.drop_eq_nil_of_le (by omega)] at this
  simpa using this
/-- the beginning: the document's value, and its block laid -/
theorem two_start (hl : Liv o g s w1 W) (hr : RefS (mask o.has W) v t) (hb : Below W.heap.size W W') (hk : Blk W.heap.size W' vs) : Two o g W.heap.size vs v s t w1 W' :=
  ⟨liv_below hl hb, ⟨by
    cases e : o W.heap.size with
    | none => rfl
    | some r => exact absurd (dsk_lt hl.dsk _ (has_of e)) (by omega), hl.bel.size, hk⟩, refS_sub hr (off_mask (S := o.has) (S' := NoB o W.heap.size) (off_of hb) (fun k e => e.elim .inl (fun e => .inr (by omega))))⟩
/-- a block laid behind what there is -/
theorem kp_new (hl : Liv o g s w1 W) (hk : Blk W.heap.size W' cs) : Kp o w1 W.heap.size cs W' :=
  ⟨by
    cases e : o W.heap.size with
    | none => rfl
    | some r => exact absurd (dsk_lt hl.dsk _ (has_of e)) (by omega), hl.bel.size, hk⟩
end
/-- what came in lies outside of the disk -/
theorem in_sub {o : Ow} {w w1 W : World} (h1 : Below w.heap.size w w1) (hb : Below w1.heap.size w1 W) (ho : ∀ k, o.has k → w1.heap.size ≤ k) : Sub w (mask o.has W) :=
  ⟨by rw [mask_size]; exact Nat.le_trans h1.size hb.size, fun a v h => by
    have hl := cell_lt h
    have hs := h1.size
    rw [mask_cell W (show ¬ o.has a.block from fun e => by have := ho _ e; omega), hb.cell (p := a) (by omega), h1.cell hl]
    exact h⟩
/-- both disks, and one op's block -/
def Reg (g q p : Nat) (vs cs : List Value) (v : Value) (s t : Dk) (w1 W : World) : Prop := ∃ o, Two o g q vs v s t w1 W ∧ Kp o w1 p cs W
theorem reg_below {g q p : Nat} {vs cs : List Value} {v : Value} {s t : Dk} {w1 W W' : World} (h : Reg g q p vs cs v s t w1 W) (hb : Below W.heap.size W W') : Reg g q p vs cs v s t w1 W' := by
  obtain ⟨o, h1, h2⟩ := h
  exact ⟨o, two_below h1 hb, kp_below h2 hb⟩
end Go.Proofs.YtijnjgnckipghaaGreat
namespace Go.Proofs.YtijnjgnckipghaaGreat
open Go.RowKit
theorem no_mask (W : World) : Sub W (mask (fun _ => False) W) := ⟨by rw [mask_size]; exact Nat.le_refl _, fun a v h => by rw [mask_cell (S := fun _ => False) W (a := a) (fun e => e)]; exact h⟩
theorem agg9_inj {x0 x1 x2 x3 x4 x5 x6 x7 x8 y0 y1 y2 y3 y4 y5 y6 y7 y8 : Value} (h : Value.agg #[x0, x1, x2, x3, x4, x5, x6, x7, x8] = Value.agg #[y0, y1, y2, y3, y4, y5, y6, y7, y8]) : x0 = y0 ∧ x1 = y1 ∧ x2 = y2 ∧ x3 = y3 ∧ x4 = y4 ∧ x5 = y5 ∧ x6 = y6 ∧ x7 = y7 ∧ x8 = y8 := by
  simpa using h
section
variable {g q p : Nat} {vs cs : List Value} {v : Value} {s t : Dk} {w1 W : World}
theorem rg_steps (h : Reg g q p vs cs v s t w1 W) : Calls Tryz.prog 19 #[.pointer (some ⟨g, 0, none⟩)] W fun e W' => e = .returned (.int .i64 (s.n : Int)) ∧ Reg g q p vs cs v s t w1 W' := by
  obtain ⟨o, h1, h2⟩ := h
  refine (stepsC h1.liv.dsk).mono ?_
  rintro e W' ⟨rfl, rfl⟩
  exact ⟨rfl, o, h1, h2⟩
theorem rg_down (h : Reg g q p vs cs v s t w1 W) : Calls Tryz.prog 67 #[.pointer (some ⟨g, 0, none⟩)] W fun e W' => e = .returned (.bool s.down) ∧ Reg g q p vs cs v s t w1 W' := by
  have h0 := h
  obtain ⟨o, h1, h2⟩ := h
  refine (downC h1.liv.dsk).mono ?_
  rintro e W' ⟨rfl, n, rfl⟩
  exact ⟨rfl, reg_below h0 (below_drewN _ _)⟩
theorem rg_downR (h : Reg g q p vs cs v s t w1 W) : Calls Tryz.prog 62 #[v] W fun e W' => e = .returned (.bool t.down) ∧ Reg g q p vs cs v s t w1 W' := by
  have h0 := h
  obtain ⟨o, h1, h2⟩ := h
  refine (downRC (two_refS h1)).mono ?_
  rintro e W' ⟨rfl, hb⟩
  exact ⟨rfl, reg_below h0 hb⟩
theorem rg_used (h : Reg g q p vs cs v s t w1 W) (hB : Bd 1000000000 s) : Calls Tryz.prog 20 #[.pointer (some ⟨g, 0, none⟩)] W fun e W' => e = .returned (.int .i64 (s.used : Int)) ∧ Reg g q p vs cs v s t w1 W' := by
  have h0 := h
  obtain ⟨o, h1, h2⟩ := h
  refine (usedC h1.liv.dsk hB).mono ?_
  rintro e W' ⟨rfl, hb⟩
  exact ⟨rfl, reg_below h0 hb⟩
theorem rg_usedR (h : Reg g q p vs cs v s t w1 W) (hw : Wf t) (hl : t.now.length ≤ 1000000000) (hu : t.used ≤ 1000000000000000000) : Calls Tryz.prog 33 #[v] W fun e W' => e = .returned (.int .i64 (t.used : Int)) ∧ Reg g q p vs cs v s t w1 W' := by
  have h0 := h
  obtain ⟨o, h1, h2⟩ := h
  refine (usedRC (two_refS h1) hw hl hu).mono ?_
  rintro e W' ⟨rfl, hb⟩
  exact ⟨rfl, reg_below h0 hb⟩
theorem rg_list (h : Reg g q p vs cs v s t w1 W) (hB : Bd 1000000000 s) : Calls Tryz.prog 35 #[.pointer (some ⟨g, 0, none⟩)] W fun e W' => ∃ u, e = .returned u ∧ (Holds W' u s.list ∧ Below W.heap.size W W') ∧ Reg g q p vs cs v s t w1 W' := by
  have h0 := h
  obtain ⟨o, h1, h2⟩ := h
  refine (listC h1.liv.dsk hB).mono ?_
  rintro e W' ⟨u, rfl, ho⟩
  exact ⟨u, rfl, ⟨holds_own ho, ho.2⟩, reg_below h0 ho.2⟩
theorem rg_listR (h : Reg g q p vs cs v s t w1 W) (hl : t.now.length ≤ 1000000000) : Calls Tryz.prog 28 #[v] W fun e W' => ∃ u, e = .returned u ∧ (Holds W' u t.list ∧ Below W.heap.size W W') ∧ Reg g q p vs cs v s t w1 W' := by
  have h0 := h
  obtain ⟨o, h1, h2⟩ := h
  refine (listRC (two_refS h1) hl).mono ?_
  rintro e W' ⟨u, rfl, ho, hb⟩
  exact ⟨u, rfl, ⟨ho, hb⟩, reg_below h0 hb⟩
theorem rg_same (h : Reg g q p vs cs v s t w1 W) (ua ub : Value) (L : List (List UInt8)) (ha : Holds W ua L) (hb : Holds W ub L) (hl : L.length ≤ 1000000000000000) : Calls Tryz.prog 34 #[ua, ub] W fun e W' => e = .returned (.bool true) ∧ Reg g q p vs cs v s t w1 W' := by
  refine (sameTe ua ub L W ha hb hl).mono ?_
  rintro e W' ⟨rfl, hb⟩
  exact ⟨rfl, reg_below h hb⟩
end
theorem reg_cells {g q p : Nat} {v0 v1 v2 v3 v4 v5 v6 v7 v8 u0 u1 u2 u3 v : Value} {s t : Dk} {w1 W : World} (h : Reg g q p [v0, v1, v2, v3, v4, v5, v6, v7, v8] [u0, u1, u2, u3] v s t w1 W) :
    (W.cell? ⟨q, 0, none⟩ = some v0 ∧ W.cell? ⟨q, 1, none⟩ = some v1 ∧ W.cell? ⟨q, 2, none⟩ = some v2 ∧ W.cell? ⟨q, 3, none⟩ = some v3 ∧ W.cell? ⟨q, 4, none⟩ = some v4 ∧ W.cell? ⟨q, 5, none⟩ = some v5 ∧ W.cell? ⟨q, 6, none⟩ = some v6 ∧ W.cell? ⟨q, 7, none⟩ = some v7 ∧ W.cell? ⟨q, 8, none⟩ = some v8) ∧ (W.cell? ⟨p, 0, none⟩ = some u0 ∧ W.cell? ⟨p, 1, none⟩ = some u1 ∧ W.cell? ⟨p, 2, none⟩ = some u2 ∧ W.cell? ⟨p, 3, none⟩ = some u3) := by
  obtain ⟨o, h1, h2⟩ := h
  exact ⟨cells_9 h1.kp.blk, (cells_4 h2.blk).1⟩
theorem act_fails (s : Dk) (o : DOp) (k : Nat) : (s.act o k).1.fails = s.fails := by
  unfold Dk.act Dk.named
  repeat' split
  all_goals rfl
theorem step_fails (s : Dk) (o : DOp) : (s.step o).1.fails = s.fails := by
  unfold Dk.step
  repeat' split
  all_goals first | rfl | exact act_fails _ _ _
theorem run_fails : ∀ (os : List OpT) (s : Dk), (runD s os).fails = s.fails := by
  intro os
  induction os with
  | nil => intro s; rfl
  | cons o r ih =>
    intro s
    show (runD (s.step (dop o)).1 r).fails = s.fails
    rw [ih, step_fails]
theorem kp_put {o : Ow} {w1 W : World} {p q : Nat} {cs : List Value} (h : Kp o w1 p cs W) (hne : p ≠ q) (us : List Value) : Kp o w1 p cs (putFrom q 0 W us) := by
  have go : ∀ (us : List Value) (k : Nat) (W : World), Blk p W cs → Blk p (putFrom q k W us) cs := by
    intro us
    induction us with
    | nil => intro k W h; exact h
    | cons u r ih => intro k W h; exact ih (k + 1) _ (cells_other h hne u)
  exact ⟨h.out, h.lo, go us 0 W h.blk⟩
theorem step_dop (s : Dk) (op : OpT) : s.step ⟨meant op.1, (⟨op.2.1.toArray⟩ : ByteArray).data.toList, (⟨op.2.2.1.toArray⟩ : ByteArray).data.toList, op.2.2.2⟩ = s.step (dop op) := by simp [dop]
theorem list_lenB {s : Dk} {m : Nat} (h : Bd m s) : s.list.length ≤ m := by
  unfold Dk.list
  split
  · exact Nat.zero_le _
  · rw [List.length_map]; exact h.2.2.1
theorem used_bdM {s : Dk} (h : Bd 3000000 s) : s.used ≤ 1000000000000000000 := by
  have h1 := h.2.2.1
  have h2 := h.2.2.2.2.2
  have key : ∀ l : NL, (l.map (fun p => (s.data.getD p.2 []).length)).sum ≤ l.length * 3000000 := by
    intro l
    induction l with
    | nil => simp
    | cons x r ih => simp only [List.map_cons, List.sum_cons, List.length_cons]; have := h2 x.2; omega
  have := key s.now
  unfold Dk.used
  omega
theorem read_lenB {s : Dk} (h : Bd 3000000 s) (nm : Nm) : (s.read nm).1.length ≤ 1000000000000000 := by
  unfold Dk.read
  split
  · simp
  · split
    · simp
    · split
      · simp
      · have := h.2.2.2.2.2; rename_i k _; have := this k; simp only; omega
/-- both disks are s -/
def Sid (g q : Nat) (s : Dk) (w1 W : World) : Prop := ∃ o, ∃ x0 x1 x2 x3 x4 x6 : Sl, Two o g q [.slice x0.a x0.n x0.c, .slice x1.a x1.n x1.c, .slice x2.a x2.n x2.c, .slice x3.a x3.n x3.c, .slice x4.a x4.n x4.c, .int .i64 s.room, .slice x6.a x6.n x6.c, .int .i64 s.power, .int .i64 (s.n : Int)] (.agg #[.slice x0.a x0.n x0.c, .slice x1.a x1.n x1.c, .slice x2.a x2.n x2.c, .slice x3.a x3.n x3.c, .slice x4.a x4.n x4.c, .int .i64 s.room, .slice x6.a x6.n x6.c, .int .i64 s.power, .int .i64 (s.n : Int)]) s s w1 W
end Go.Proofs.YtijnjgnckipghaaGreat
namespace Go.Proofs.YtijnjgnckipghaaGreat
open Go.RowKit
/-- steps that came in as they are meant -/
def opsD (os : List OpT) : List DOp := os.map (fun o => ⟨o.1, o.2.1, o.2.2.1, o.2.2.2⟩)
/-- the steps up to j were told OK -/
def Upto (os : List OpT) (t s : Dk) (j : Nat) : Prop := stpsT (opsD os) t = ((stpsT (opsD (os.drop j)) s).1, (stpsT (opsD (os.drop j)) s).2.1 + j, (stpsT (opsD (os.drop j)) s).2.2)
theorem upto_start (os : List OpT) (t : Dk) : Upto os t t 0 := rfl
theorem drop_op {os : List OpT} {j : Nat} (h : j < os.length) : opsD (os.drop j) = ⟨(os[j]).1, (os[j]).2.1, (os[j]).2.2.1, (os[j]).2.2.2⟩ :: opsD (os.drop (j + 1)) := by
  unfold opsD
  rw [List.drop_eq_getElem_cons h, List.map_cons]
theorem upto_step {os : List OpT} {t s : Dk} {j : Nat} (h : Upto os t s j) (hj : j < os.length) (he : (s.step ⟨(os[j]).1, (os[j]).2.1, (os[j]).2.2.1, (os[j]).2.2.2⟩).2 = 0) : Upto os t (s.step ⟨(os[j]).1, (os[j]).2.1, (os[j]).2.2.1, (os[j]).2.2.2⟩).1 (j + 1) := by
  unfold Upto at *
  rw [h, drop_op hj, stps_ok he]
  simp only [Prod.mk.injEq, true_and, and_true]
  omega
theorem upto_bad {os : List OpT} {t s : Dk} {j : Nat} (h : Upto os t s j) (hj : j < os.length) (he : (s.step ⟨(os[j]).1, (os[j]).2.1, (os[j]).2.2.1, (os[j]).2.2.2⟩).2 ≠ 0) : stpsT (opsD os) t = ((s.step ⟨(os[j]).1, (os[j]).2.1, (os[j]).2.2.1, (os[j]).2.2.2⟩).1, j, (s.step ⟨(os[j]).1, (os[j]).2.1, (os[j]).2.2.1, (os[j]).2.2.2⟩).2) := by
  unfold Upto at h
  rw [h, drop_op hj, stps_bad he]
  simp
theorem upto_end {os : List OpT} {t s : Dk} {j : Nat} (h : Upto os t s j) (hj : j = os.length) : stpsT (opsD os) t = (s, os.length, 0) := by
  unfold Upto at h
  rw [h, hj, List.drop_length]
  show (s, 0 + os.length, 0) = _
  rw [Nat.zero_add]
theorem bulk_succ (os : List OpT) : ∀ (j : Nat) (h : j < os.length), bulkO (os.take j) + ((os[j]).2.1.length + (os[j]).2.2.1.length + (os[j]).2.2.2.length + 4) = bulkO (os.take (j + 1)) := by
  induction os with
  | nil => intro j h; cases h
  | cons o r ih =>
    intro j h
    cases j with
    | zero => simp [bulkO]
    | succ j =>
      have := ih j (by simpa using h)
      simp only [List.take_succ_cons, bulkO, List.getElem_cons_succ]
      omega
theorem blk_putX {b c : Nat} (hne : b ≠ c) {vs : List Value} : ∀ (us : List Value) (o : Nat) (W : World), Blk b W vs → Blk b (putFrom c o W us) vs := by
  intro us
  induction us with
  | nil => intro o W h; exact h
  | cons u us ih => intro o W h; exact ih (o + 1) _ (cells_other h hne u)
/-- the state's block and the result's, and the document's value outside of them -/
structure StI (S : Nat → Prop) (W0 : World) (zs vs : List Value) (v : Value) (s : Dk) (m : Nat) (W : World) : Prop where
  b0 : Blk W0.heap.size W vs
  b1 : Blk (W0.heap.size + 1) W zs
  bel : Below W0.heap.size W0 W
  ref : RefS (mask (fun k => S k ∨ k = W0.heap.size ∨ k = W0.heap.size + 1) W) v s
  wf : Wf s
  bd : Bd m s
section
variable {S : Nat → Prop} {W0 W W' : World} {zs vs us : List Value} {v v' : Value} {s s' : Dk} {m m' : Nat}
theorem sti_below (h : StI S W0 zs vs v s m W) (hb : Below W.heap.size W W') : StI S W0 zs vs v s m W' :=
  ⟨cells_below h.b0 hb, cells_below h.b1 hb, h.bel.trans (hb.mono h.bel.size), refS_sub h.ref (off_mask (off_of hb) (fun _ e => .inl e)), h.wf, h.bd⟩
theorem sti_lt (h : StI S W0 zs vs v s m W) (hS : ∀ k, S k → k < W0.heap.size) : ∀ k, (S k ∨ k = W0.heap.size ∨ k = W0.heap.size + 1) → k < W.heap.size := fun k e => by
  have h1 := h.b0.2
  have h2 := h.b1.2
  have h3 := h.bel.size
  rcases e with e | e | e
  · have := hS k e; omega
  · omega
  · omega
theorem sti_ref (h : StI S W0 zs vs v s m W) (hb : Below W.heap.size W W') (hr : RefS (mask (fun k => S k ∨ k = W0.heap.size ∨ k = W0.heap.size + 1) W') v' s') (hw : Wf s') (hd : Bd m' s') : StI S W0 zs vs v' s' m' W' :=
  ⟨cells_below h.b0 hb, cells_below h.b1 hb, h.bel.trans (hb.mono h.bel.size), hr, hw, hd⟩
theorem sti_put (h : StI S W0 zs vs v s m W) (hu : us.length = vs.length) : StI S W0 zs us v s m (putFrom W0.heap.size 0 W us) := by
  refine ⟨?_, blk_putX (b := W0.heap.size + 1) (c := W0.heap.size) (by omega) us 0 _ h.b1, below_put (Nat.le_refl _) us 0 W h.bel, refS_sub h.ref (off_mask (off_put (.inr (.inl rfl)) us 0 W) (fun _ e => .inl e)), h.wf, h.bd⟩
  have := cells_putFrom us 0 W vs h.b0 (by omega)
  rw [List.drop_eq_nil_of_le (by omega)] at this
  simpa using this
end
theorem sti_wayA {S Q : Nat → Prop} {W0 wr w5 : World} {zs vs : List Value} {v v' : Value} {s s' : Dk} {m m' : Nat} (h : StI S W0 zs vs v s m wr) (hb : Below wr.heap.size wr w5) (hr : RefS (mask (fun k => (S k ∨ k = W0.heap.size ∨ k = W0.heap.size + 1) ∨ Q k) w5) v' s') (hw : Wf s') (hd : Bd m' s') (x0 x1 x2 x3 x4 x5 x6 x7 x8 : Value) (t : TypeId) :
    StI S W0 zs vs v' s' m' (w5.alloc (.cells #[x0, x1, x2, x3, x4, x5, x6, x7, x8] t)) ∧ Blk w5.heap.size (w5.alloc (.cells #[x0, x1, x2, x3, x4, x5, x6, x7, x8] t)) [x0, x1, x2, x3, x4, x5, x6, x7, x8] ∧ W0.heap.size + 1 < w5.heap.size :=
  ⟨sti_below (sti_ref h hb (refS_sub hr (mask_mono (fun _ e => .inl e))) hw hd) (below_alloc' _ _), (box9 w5 x0 x1 x2 x3 x4 x5 x6 x7 x8 t).1, by have := h.b1.2; have := hb.size; omega⟩
theorem sti_wayB {S : Nat → Prop} {W0 wr w5 : World} {zs vs : List Value} {v v' : Value} {s s' : Dk} {m m' : Nat} (h : StI S W0 zs vs v s m wr) (t : TypeId) (hb : Below ((wr.alloc (.cells #[.slice none 0 0, .slice none 0 0, .slice none 0 0, .slice none 0 0, .slice none 0 0, .int .i64 0, .slice none 0 0, .int .i64 0, .int .i64 0] t)).drew).heap.size ((wr.alloc (.cells #[.slice none 0 0, .slice none 0 0, .slice none 0 0, .slice none 0 0, .slice none 0 0, .int .i64 0, .slice none 0 0, .int .i64 0, .int .i64 0] t)).drew) w5) (hr : RefS (mask (fun k => (S k ∨ k = W0.heap.size ∨ k = W0.heap.size + 1) ∨ (k = wr.heap.size ∧ wr.heap.size < ((wr.alloc (.cells #[.slice none 0 0, .slice none 0 0, .slice none 0 0, .slice none 0 0, .slice none 0 0, .int .i64 0, .slice none 0 0, .int .i64 0, .int .i64 0] t)).drew).heap.size)) w5) v' s') (hw : Wf s') (hd : Bd m' s') (x0 x1 x2 x3 x4 x5 x6 x7 x8 : Value) :
    StI S W0 zs vs v' s' m' (putFrom wr.heap.size 0 w5 [x0, x1, x2, x3, x4, x5, x6, x7, x8]) ∧ Blk wr.heap.size (putFrom wr.heap.size 0 w5 [x0, x1, x2, x3, x4, x5, x6, x7, x8]) [x0, x1, x2, x3, x4, x5, x6, x7, x8] ∧ W0.heap.size + 1 < wr.heap.size := by
  have z1 : ((wr.alloc (.cells #[.slice none 0 0, .slice none 0 0, .slice none 0 0, .slice none 0 0, .slice none 0 0, .int .i64 0, .slice none 0 0, .int .i64 0, .int .i64 0] t)).drew).heap.size = wr.heap.size + 1 := by simp
  have h1 := h.b1.2
  have h0 := h.b0.2
  have hb1 : Below wr.heap.size wr ((wr.alloc (.cells #[.slice none 0 0, .slice none 0 0, .slice none 0 0, .slice none 0 0, .slice none 0 0, .int .i64 0, .slice none 0 0, .int .i64 0, .int .i64 0] t)).drew) := (below_alloc' _ _).drew
  have hb2 : Below wr.heap.size wr w5 := hb1.trans (hb.mono hb1.size)
  have k0 : Blk wr.heap.size w5 [.slice none 0 0, .slice none 0 0, .slice none 0 0, .slice none 0 0, .slice none 0 0, .int .i64 0, .slice none 0 0, .int .i64 0, .int .i64 0] := cells_below (cells_below (box9 wr (.slice none 0 0) (.slice none 0 0) (.slice none 0 0) (.slice none 0 0) (.slice none 0 0) (.int .i64 0) (.slice none 0 0) (.int .i64 0) (.int .i64 0) t).1 ((Below.refl _ _).drew)) hb
  have kp := cells_putFrom [x0, x1, x2, x3, x4, x5, x6, x7, x8] 0 w5 [.slice none 0 0, .slice none 0 0, .slice none 0 0, .slice none 0 0, .slice none 0 0, .int .i64 0, .slice none 0 0, .int .i64 0, .int .i64 0] k0 (by simp)
  refine ⟨⟨blk_putX (by omega) _ 0 _ (cells_below h.b0 hb2), blk_putX (by omega) _ 0 _ (cells_below h.b1 hb2), below_put h.bel.size _ 0 _ (h.bel.trans (hb2.mono h.bel.size)), ?_, hw, hd⟩, ?_, by omega⟩
  · refine refS_sub hr (Sub.trans (off_mask (S := fun k => (S k ∨ k = W0.heap.size ∨ k = W0.heap.size + 1) ∨ (k = wr.heap.size ∧ wr.heap.size < ((wr.alloc (.cells #[.slice none 0 0, .slice none 0 0, .slice none 0 0, .slice none 0 0, .slice none 0 0, .int .i64 0, .slice none 0 0, .int .i64 0, .int .i64 0] t)).drew).heap.size)) (S' := fun k => (S k ∨ k = W0.heap.size ∨ k = W0.heap.size + 1) ∨ (k = wr.heap.size ∧ wr.heap.size < ((wr.alloc (.cells #[.slice none 0 0, .slice none 0 0, .slice none 0 0, .slice none 0 0, .slice none 0 0, .int .i64 0, .slice none 0 0, .int .i64 0, .int .i64 0] t)).drew).heap.size)) (off_put (.inr ⟨rfl, by rw [z1]; omega⟩) [x0, x1, x2, x3, x4, x5, x6, x7, x8] 0 w5) (fun _ e => .inl e)) (mask_mono (fun _ e => .inl e)))
  · simpa using kp
theorem sti_start {S : Nat → Prop} {W0 : World} {v : Value} {s : Dk} {m : Nat} (x0 x1 x2 x3 x4 x5 x6 x7 x8 : Value) (hr : RefS (mask S W0) v s) (hw : Wf s) (hd : Bd m s) (t t2 : TypeId) : StI S W0 [.slice none 0 0, .slice none 0 0, .slice none 0 0, .slice none 0 0, .slice none 0 0, .int .i64 0, .slice none 0 0, .int .i64 0, .int .i64 0] [x0, x1, x2, x3, x4, x5, x6, x7, x8] v s m ((W0.alloc (.cells #[x0, x1, x2, x3, x4, x5, x6, x7, x8] t)).alloc (.cells #[.slice none 0 0, .slice none 0 0, .slice none 0 0, .slice none 0 0, .slice none 0 0, .int .i64 0, .slice none 0 0, .int .i64 0, .int .i64 0] t2)) := by
  have a1 := box9 W0 x0 x1 x2 x3 x4 x5 x6 x7 x8 t
  have z1 : (W0.alloc (.cells #[x0, x1, x2, x3, x4, x5, x6, x7, x8] t)).heap.size = W0.heap.size + 1 := by simp
  have a2 := box9 (W0.alloc (.cells #[x0, x1, x2, x3, x4, x5, x6, x7, x8] t)) (.slice none 0 0) (.slice none 0 0) (.slice none 0 0) (.slice none 0 0) (.slice none 0 0) (.int .i64 0) (.slice none 0 0) (.int .i64 0) (.int .i64 0) t2
  rw [z1] at a2
  have hb := a1.2.trans (a2.2.mono (by omega))
  exact ⟨cells_base a1.1 a2.2 (by omega), a2.1, hb, refS_sub hr (off_mask (S := S) (S' := fun k => S k ∨ k = W0.heap.size ∨ k = W0.heap.size + 1) (off_of hb) (fun k e => by rcases e with e | e | e; exact .inl e; exact .inr (by omega); exact .inr (by omega))), hw, hd⟩
set_option maxRecDepth 20000 in
set_option maxHeartbeats 16000000 in
theorem stepsRC {S : Nat → Prop} {W0 : World} (hS : ∀ k, S k → k < W0.heap.size) {v : Value} {t : Dk} (h : RefS (mask S W0) v t) (hw : Wf t) (m : Nat) (hB : Bd m t) (hfl : t.fails.length ≤ 1000000000) (lv : Value) (os : List OpT) (ho : HoldsO W0 lv os) (hin : ∀ o ∈ os, 1 ≤ o.1 ∧ o.1 ≤ 6) (hm : m + bulkO os ≤ 80000000) :
    Calls Tryz.prog 31 #[v, lv] W0 fun e w' => ∃ v', e = .returned (.tuple #[v', .int .i64 ((stpsT (opsD os) t).2.1 : Int), .int .i64 (stpsT (opsD os) t).2.2]) ∧ RefS (mask S w') v' (stpsT (opsD os) t).1 ∧ Below W0.heap.size W0 w' := by
  obtain ⟨⟨a0, n0, c0⟩, ⟨a1, n1, c1⟩, ⟨a2, n2, c2⟩, ⟨a3, n3, c3⟩, ⟨a4, n4, c4⟩, ⟨a6, n6, c6⟩, ev, hV⟩ := id h
  unfold stV at ev
  dsimp only at ev
  subst ev
  obtain ⟨oa, oc, hlv, hpos⟩ := ho_slice ho
  obtain ⟨n, hn⟩ : ∃ n, n = os.length := ⟨_, rfl⟩
  have N1 := hide' hn
  rw [← hn] at hpos hlv
  subst hlv
  have ln : n ≤ 80000000 := by have := bulk_len os; omega
  have HO := hide' ho
  have HS := hide' hS
  have HM := hide' hm
  have HI := hide' hin
  have FL := hide' hfl
  have I0 : Hid (StI S W0 [.slice none 0 0, .slice none 0 0, .slice none 0 0, .slice none 0 0, .slice none 0 0, .int .i64 0, .slice none 0 0, .int .i64 0, .int .i64 0] [.slice a0 n0 c0, .slice a1 n1 c1, .slice a2 n2 c2, .slice a3 n3 c3, .slice a4 n4 c4, .int .i64 t.room, .slice a6 n6 c6, .int .i64 t.power, .int .i64 (t.n : Int)] (.agg #[.slice a0 n0 c0, .slice a1 n1 c1, .slice a2 n2 c2, .slice a3 n3 c3, .slice a4 n4 c4, .int .i64 t.room, .slice a6 n6 c6, .int .i64 t.power, .int .i64 (t.n : Int)]) t m ((W0.alloc (.cells #[.slice a0 n0 c0, .slice a1 n1 c1, .slice a2 n2 c2, .slice a3 n3 c3, .slice a4 n4 c4, .int .i64 t.room, .slice a6 n6 c6, .int .i64 t.power, .int .i64 (t.n : Int)] 38)).alloc (.cells #[.slice none 0 0, .slice none 0 0, .slice none 0 0, .slice none 0 0, .slice none 0 0, .int .i64 0, .slice none 0 0, .int .i64 0, .int .i64 0] 38))) := sti_start _ _ _ _ _ _ _ _ _ h hw hB _ _
  have U0 : Hid (Upto os t t 0) := upto_start os t
  clear hn ho hS hm hin hfl h hw hB hV
  go_enter Tryz.func31, Tryz.ntmps31
  go_wp2_with fail
  go_loopw [7] (fun i wr => ∃ j : Nat, j ≤ n ∧ i = .int .i64 j ∧ ∃ (x0 x1 x2 x3 x4 x6 : Sl) (s : Dk), Hid (StI S W0 [.slice none 0 0, .slice none 0 0, .slice none 0 0, .slice none 0 0, .slice none 0 0, .int .i64 0, .slice none 0 0, .int .i64 0, .int .i64 0] [.slice x0.a x0.n x0.c, .slice x1.a x1.n x1.c, .slice x2.a x2.n x2.c, .slice x3.a x3.n x3.c, .slice x4.a x4.n x4.c, .int .i64 s.room, .slice x6.a x6.n x6.c, .int .i64 s.power, .int .i64 (s.n : Int)] (.agg #[.slice x0.a x0.n x0.c, .slice x1.a x1.n x1.c, .slice x2.a x2.n x2.c, .slice x3.a x3.n x3.c, .slice x4.a x4.n x4.c, .int .i64 s.room, .slice x6.a x6.n x6.c, .int .i64 s.power, .int .i64 (s.n : Int)]) s (m + bulkO (os.take j)) wr) ∧ Hid (Upto os t s j) ∧ Hid (s.fails = t.fails)) (fun i _ => n - (intOf i).toNat)
  case atStart => exact ⟨0, by omega, rfl, ⟨a0, n0, c0⟩, ⟨a1, n1, c1⟩, ⟨a2, n2, c2⟩, ⟨a3, n3, c3⟩, ⟨a4, n4, c4⟩, ⟨a6, n6, c6⟩, t, I0, U0, rfl⟩
  case round =>
    obtain ⟨j, hj, rfl, ⟨a0, n0, c0⟩, ⟨a1, n1, c1⟩, ⟨a2, n2, c2⟩, ⟨a3, n3, c3⟩, ⟨a4, n4, c4⟩, ⟨a6, n6, c6⟩, s, HL, HU, HF⟩ := hrel
    dsimp only at HL
    clear I0 U0
    by_cases hlt : j < n
    · have hj' : j < os.length := by rw [← N1.out]; exact hlt
      obtain ⟨b, off, rfl⟩ := hpos (by omega)
      have ho2 : HoldsO W0 (.slice (some ⟨b, off, none⟩) os.length oc) os := by rw [← N1.out]; exact HO.out
      obtain ⟨da, dl, dc, ⟨q0, q1, q2, q3⟩, hdat⟩ := op_at ho2 j hj'
      have hbo := bulk_mem os _ (List.getElem_mem hj')
      have hbt := bulk_take os j
      have hbs := bulk_succ os j hj'
      have hmm := HM.out
      have LN : Hid ((os[j]'hj').2.1.length ≤ 80000000 ∧ (os[j]'hj').2.2.1.length ≤ 80000000 ∧ (os[j]'hj').2.2.2.length ≤ 80000000) := ⟨by omega, by omega, by omega⟩
      have BT : Hid (m + bulkO (os.take j) ≤ 80000000) := by unfold Hid; omega
      have BS : Hid (m + bulkO (os.take j) + 2 + (os[j]'hj').2.2.2.length ≤ m + bulkO (os.take (j + 1))) := by unfold Hid; omega
      have IN := hide' (HI.out _ (List.getElem_mem hj'))
      have UO := hide' (fun he => upto_step HU.out hj' he)
      have UB := hide' (fun he => upto_bad HU.out hj' he)
      have OC : Hid (∀ Wx, Below W0.heap.size W0 Wx → Wx.cell? ⟨b, off + j * 4, none⟩ = some (.int .i64 (os[j]'hj').1) ∧ Wx.cell? ⟨b, off + j * 4 + 1, none⟩ = some (.string ⟨(os[j]'hj').2.1.toArray⟩) ∧ Wx.cell? ⟨b, off + j * 4 + 2, none⟩ = some (.string ⟨(os[j]'hj').2.2.1.toArray⟩) ∧ Wx.cell? ⟨b, off + j * 4 + 3, none⟩ = some (.slice da dl dc)) := fun Wx hb => ⟨(hb.cell (cell_lt q0)).trans q0, (hb.cell (cell_lt q1)).trans q1, (hb.cell (cell_lt q2)).trans q2, (hb.cell (cell_lt q3)).trans q3⟩
      have HD := hide' hdat
      clear hbo hbt hbs hmm q0 q1 q2 q3 hdat HU ho2
      generalize os[j]'hj' = op at LN BS IN UO UB OC HD
      obtain ⟨d, hd⟩ : ∃ d : DOp, d = ⟨op.1, op.2.1, op.2.2.1, op.2.2.2⟩ := ⟨_, rfl⟩
      have ED := hide' hd
      rw [← hd] at UO UB
      obtain ⟨s', hs'⟩ : ∃ s', s' = (s.step d).1 := ⟨_, rfl⟩
      obtain ⟨er, her⟩ : ∃ er, er = (s.step d).2 := ⟨_, rfl⟩
      have FS : Hid (s'.fails = t.fails) := by unfold Hid; rw [hs', step_fails]; exact HF.out
      have ES : Hid (s.step ⟨op.1, (⟨op.2.1.toArray⟩ : ByteArray).data.toList, (⟨op.2.2.1.toArray⟩ : ByteArray).data.toList, op.2.2.2⟩ = (s', er)) := by
        unfold Hid
        rw [hs', her, hd]
      have BD' : Hid (Wf s' ∧ Bd (m + bulkO (os.take (j + 1))) s') := by
        unfold Hid
        rw [hs']
        refine ⟨wf_step HL.out.wf _, bd_mono (bd_step HL.out.bd d) ?_⟩
        have := BS.out
        rw [hd]
        exact this
      rw [← hs', ← her] at UB
      rw [← her] at UO
      rw [← hs'] at UO
      clear hd hs' her
      have cS : Hid (∀ Wx, Below wr.heap.size wr Wx → Calls Tryz.prog 29 #[.agg #[.slice a0 n0 c0, .slice a1 n1 c1, .slice a2 n2 c2, .slice a3 n3 c3, .slice a4 n4 c4, .int .i64 s.room, .slice a6 n6 c6, .int .i64 s.power, .int .i64 (s.n : Int)], .agg #[.int .i64 op.1, .string ⟨op.2.1.toArray⟩, .string ⟨op.2.2.1.toArray⟩, .slice da dl dc]] Wx fun e w' => ∃ (y0 y1 y2 y3 y4 y6 : Sl), e = .returned (.tuple #[.agg #[.slice y0.a y0.n y0.c, .slice y1.a y1.n y1.c, .slice y2.a y2.n y2.c, .slice y3.a y3.n y3.c, .slice y4.a y4.n y4.c, .int .i64 s'.room, .slice y6.a y6.n y6.c, .int .i64 s'.power, .int .i64 (s'.n : Int)], .int .i64 er]) ∧ Hid (RefS (mask (fun k => (S k ∨ k = W0.heap.size ∨ k = W0.heap.size + 1) ∨ (k = wr.heap.size ∧ wr.heap.size < Wx.heap.size)) w') (.agg #[.slice y0.a y0.n y0.c, .slice y1.a y1.n y1.c, .slice y2.a y2.n y2.c, .slice y3.a y3.n y3.c, .slice y4.a y4.n y4.c, .int .i64 s'.room, .slice y6.a y6.n y6.c, .int .i64 s'.power, .int .i64 (s'.n : Int)]) s' ∧ Below wr.heap.size wr w' ∧ Below Wx.heap.size Wx w') ∧ (Wx.heap.size ≤ w'.heap.size) ∧ (∀ b o, b < Wx.heap.size → w'.cell? ⟨b, o, none⟩ = Wx.cell? ⟨b, o, none⟩) ∧ (∀ b o, b < Wx.heap.size → w'.frozen? ⟨b, o, none⟩ = Wx.frozen? ⟨b, o, none⟩) ∧ (w'.cell? ⟨W0.heap.size, 0, none⟩ = some (.slice a0 n0 c0) ∧ w'.cell? ⟨W0.heap.size, 1, none⟩ = some (.slice a1 n1 c1) ∧ w'.cell? ⟨W0.heap.size, 2, none⟩ = some (.slice a2 n2 c2) ∧ w'.cell? ⟨W0.heap.size, 3, none⟩ = some (.slice a3 n3 c3) ∧ w'.cell? ⟨W0.heap.size, 4, none⟩ = some (.slice a4 n4 c4) ∧ w'.cell? ⟨W0.heap.size, 5, none⟩ = some (.int .i64 s.room) ∧ w'.cell? ⟨W0.heap.size, 6, none⟩ = some (.slice a6 n6 c6) ∧ w'.cell? ⟨W0.heap.size, 7, none⟩ = some (.int .i64 s.power) ∧ w'.cell? ⟨W0.heap.size, 8, none⟩ = some (.int .i64 (s.n : Int))) ∧ (w'.cell? ⟨b, off + j * 4, none⟩ = some (.int .i64 op.1) ∧ w'.cell? ⟨b, off + j * 4 + 1, none⟩ = some (.string ⟨op.2.1.toArray⟩) ∧ w'.cell? ⟨b, off + j * 4 + 2, none⟩ = some (.string ⟨op.2.2.1.toArray⟩) ∧ w'.cell? ⟨b, off + j * 4 + 3, none⟩ = some (.slice da dl dc))) := fun Wx hb => by
        have h1 := sti_below HL.out hb
        have hbw := HL.out.bel.trans (hb.mono HL.out.bel.size)
        refine (stepRC (S := fun k => (S k ∨ k = W0.heap.size ∨ k = W0.heap.size + 1) ∨ (k = wr.heap.size ∧ wr.heap.size < Wx.heap.size)) (fun k e => e.elim (sti_lt h1 HS.out k) (fun e => by rw [e.1]; exact e.2)) (refS_sub HL.out.ref (off_mask (S := fun k => S k ∨ k = W0.heap.size ∨ k = W0.heap.size + 1) (off_of hb) (fun k e => e.elim .inl (fun e => .inr (by omega))))) h1.wf (bd_mono h1.bd BT.out) op.1 IN.out ⟨op.2.1.toArray⟩ ⟨op.2.2.1.toArray⟩ da dl dc op.2.2.2 (holdsB_mono HD.out hbw) (by rw [size_l]; have := LN.out.1; omega) (by rw [size_l]; have := LN.out.2.1; omega) (by have := LN.out.2.2; omega) (by rw [HF.out]; exact FL.out)).mono ?_
        rintro e w' ⟨v', rfl, hr, hb'⟩
        rw [ES.out] at hr ⊢
        obtain ⟨⟨ra0, rn0, rc0⟩, ⟨ra1, rn1, rc1⟩, ⟨ra2, rn2, rc2⟩, ⟨ra3, rn3, rc3⟩, ⟨ra4, rn4, rc4⟩, ⟨ra6, rn6, rc6⟩, ev, -⟩ := id hr
        unfold stV at ev
        dsimp only at ev
        subst ev
        have hb2 := hb.trans (hb'.mono hb.size)
        exact ⟨⟨ra0, rn0, rc0⟩, ⟨ra1, rn1, rc1⟩, ⟨ra2, rn2, rc2⟩, ⟨ra3, rn3, rc3⟩, ⟨ra4, rn4, rc4⟩, ⟨ra6, rn6, rc6⟩, rfl, ⟨hr, hb2, hb'⟩, hb'.size, fun b o h => hb'.cell (p := ⟨b, o, none⟩) h, fun b o h => hb'.frozen (p := ⟨b, o, none⟩) h, cells_9 (cells_below HL.out.b0 hb2), OC.out w' (HL.out.bel.trans (hb2.mono HL.out.bel.size))⟩
      obtain ⟨k0, k1, k2, k3, k4, k5, k6, k7, k8⟩ := cells_9 HL.out.b0
      obtain ⟨l0, l1, l2, l3⟩ := OC.out wr HL.out.bel
      have I1 : W0.heap.size ≠ wr.heap.size := fun e => by have := HL.out.b0.2; omega
      have I2 : wr.heap.size ≠ W0.heap.size := fun e => by have := HL.out.b0.2; omega
      have I3 : b ≠ wr.heap.size := fun e => by have := cell_lt l0; dsimp only at this; omega
      have I4 : wr.heap.size ≠ b := fun e => by have := cell_lt l0; dsimp only at this; omega
      go_wp2_with fail
      go_cut [8, 9] (fun pv ev wx => ∃ (p8 : Nat) (y0 y1 y2 y3 y4 y6 : Sl), pv = .pointer (some ⟨p8, 0, none⟩) ∧ ev = .int .i64 er ∧ Hid (StI S W0 [.slice none 0 0, .slice none 0 0, .slice none 0 0, .slice none 0 0, .slice none 0 0, .int .i64 0, .slice none 0 0, .int .i64 0, .int .i64 0] [.slice a0 n0 c0, .slice a1 n1 c1, .slice a2 n2 c2, .slice a3 n3 c3, .slice a4 n4 c4, .int .i64 s.room, .slice a6 n6 c6, .int .i64 s.power, .int .i64 (s.n : Int)] (.agg #[.slice y0.a y0.n y0.c, .slice y1.a y1.n y1.c, .slice y2.a y2.n y2.c, .slice y3.a y3.n y3.c, .slice y4.a y4.n y4.c, .int .i64 s'.room, .slice y6.a y6.n y6.c, .int .i64 s'.power, .int .i64 (s'.n : Int)]) s' (m + bulkO (os.take (j + 1))) wx ∧ Blk p8 wx [.slice y0.a y0.n y0.c, .slice y1.a y1.n y1.c, .slice y2.a y2.n y2.c, .slice y3.a y3.n y3.c, .slice y4.a y4.n y4.c, .int .i64 s'.room, .slice y6.a y6.n y6.c, .int .i64 s'.power, .int .i64 (s'.n : Int)] ∧ W0.heap.size + 1 < p8))
      case first =>
        go_region_held_law (fun w' => w'.cell? ⟨W0.heap.size, 0, none⟩ = some (.slice a0 n0 c0) ∧ w'.cell? ⟨W0.heap.size, 1, none⟩ = some (.slice a1 n1 c1) ∧ w'.cell? ⟨W0.heap.size, 2, none⟩ = some (.slice a2 n2 c2) ∧ w'.cell? ⟨W0.heap.size, 3, none⟩ = some (.slice a3 n3 c3) ∧ w'.cell? ⟨W0.heap.size, 4, none⟩ = some (.slice a4 n4 c4) ∧ w'.cell? ⟨W0.heap.size, 5, none⟩ = some (.int .i64 s.room) ∧ w'.cell? ⟨W0.heap.size, 6, none⟩ = some (.slice a6 n6 c6) ∧ w'.cell? ⟨W0.heap.size, 7, none⟩ = some (.int .i64 s.power) ∧ w'.cell? ⟨W0.heap.size, 8, none⟩ = some (.int .i64 (s.n : Int)) ∧ w'.cell? ⟨b, off + j * 4, none⟩ = some (.int .i64 op.1) ∧ w'.cell? ⟨b, off + j * 4 + 1, none⟩ = some (.string ⟨op.2.1.toArray⟩) ∧ w'.cell? ⟨b, off + j * 4 + 2, none⟩ = some (.string ⟨op.2.2.1.toArray⟩) ∧ w'.cell? ⟨b, off + j * 4 + 3, none⟩ = some (.slice da dl dc)) (go_keep)
          (first
            | (go_at_call 29; refine (cS.out _ ?_).mono ?_; (first | exact (Below.refl _ _).drew | exact Below.refl _ _ | exact (below_alloc' _ _) | exact (below_alloc' _ _).drew); rintro e w5 ⟨⟨ra0, rn0, rc0⟩, ⟨ra1, rn1, rc1⟩, ⟨ra2, rn2, rc2⟩, ⟨ra3, rn3, rc3⟩, ⟨ra4, rn4, rc4⟩, ⟨ra6, rn6, rc6⟩, rfl, OU, os1, oc1, of1, ⟨k0, k1, k2, k3, k4, k5, k6, k7, k8⟩, l0, l1, l2, l3⟩))
        · clear k0 k1 k2 k3 k4 k5 k6 k7 k8 l0 l1 l2 l3 os1 oc1 of1 cS OC
          go_wp2_with fail
          go_meet
          exact ⟨_, ⟨ra0, rn0, rc0⟩, ⟨ra1, rn1, rc1⟩, ⟨ra2, rn2, rc2⟩, ⟨ra3, rn3, rc3⟩, ⟨ra4, rn4, rc4⟩, ⟨ra6, rn6, rc6⟩, rfl, rfl, sti_wayA HL.out OU.out.2.1 OU.out.1 BD'.out.1 BD'.out.2 _ _ _ _ _ _ _ _ _ _⟩
        · clear k0 k1 k2 k3 k4 k5 k6 k7 k8 l0 l1 l2 l3 os1 oc1 of1 cS OC
          have WB := sti_wayB HL.out _ OU.out.2.2 OU.out.1 BD'.out.1 BD'.out.2 (.slice ra0 rn0 rc0) (.slice ra1 rn1 rc1) (.slice ra2 rn2 rc2) (.slice ra3 rn3 rc3) (.slice ra4 rn4 rc4) (.int .i64 s'.room) (.slice ra6 rn6 rc6) (.int .i64 s'.power) (.int .i64 (s'.n : Int))
          simp only [putFrom] at WB
          have WBH := hide' WB
          clear WB
          go_wp2_with fail
          go_meet
          exact ⟨_, ⟨ra0, rn0, rc0⟩, ⟨ra1, rn1, rc1⟩, ⟨ra2, rn2, rc2⟩, ⟨ra3, rn3, rc3⟩, ⟨ra4, rn4, rc4⟩, ⟨ra6, rn6, rc6⟩, rfl, rfl, WBH⟩
      case rest =>
        obtain ⟨p8, ⟨ra0, rn0, rc0⟩, ⟨ra1, rn1, rc1⟩, ⟨ra2, rn2, rc2⟩, ⟨ra3, rn3, rc3⟩, ⟨ra4, rn4, rc4⟩, ⟨ra6, rn6, rc6⟩, rfl, rfl, IX⟩ := hcut
        dsimp only at IX
        clear cS OC k0 k1 k2 k3 k4 k5 k6 k7 k8 l0 l1 l2 l3 I1 I2 I3 I4 HL
        have PU := sti_put IX.out.1 (us := [.slice ra0 rn0 rc0, .slice ra1 rn1 rc1, .slice ra2 rn2 rc2, .slice ra3 rn3 rc3, .slice ra4 rn4 rc4, .int .i64 s'.room, .slice ra6 rn6 rc6, .int .i64 s'.power, .int .i64 (s'.n : Int)]) rfl
        obtain ⟨⟨c0, c1, c2, c3, c4, c5, c6, c7, c8⟩, f0, f1, f2, f3, f4, f5, f6, f7, f8⟩ := cells_9a IX.out.1.b0
        obtain ⟨y0, y1, y2, y3, y4, y5, y6, y7, y8⟩ := cells_9 IX.out.2.1
        have J1 : p8 ≠ W0.heap.size := fun e => by have := IX.out.2.2; omega
        have J2 : W0.heap.size ≠ p8 := fun e => by have := IX.out.2.2; omega
        have J3 : W0.heap.size ≠ W0.heap.size + 1 := by omega
        have J4 : W0.heap.size + 1 ≠ W0.heap.size := by omega
        simp only [putFrom] at PU
        have PUH := hide' PU
        clear PU IX
        go_upto_region 6 with fail
        generalize (((((((((wc.setCell ⟨W0.heap.size, 0, none⟩ (.slice ra0 rn0 rc0)).setCell ⟨W0.heap.size, 1, none⟩ (.slice ra1 rn1 rc1)).setCell ⟨W0.heap.size, 2, none⟩ (.slice ra2 rn2 rc2)).setCell ⟨W0.heap.size, 3, none⟩ (.slice ra3 rn3 rc3)).setCell ⟨W0.heap.size, 4, none⟩ (.slice ra4 rn4 rc4)).setCell ⟨W0.heap.size, 5, none⟩ (.int .i64 s'.room)).setCell ⟨W0.heap.size, 6, none⟩ (.slice ra6 rn6 rc6)).setCell ⟨W0.heap.size, 7, none⟩ (.int .i64 s'.power)).setCell ⟨W0.heap.size, 8, none⟩ (.int .i64 (s'.n : Int))) = wA at PUH ⊢
        have PW := PUH
        clear PUH y0 y1 y2 y3 y4 y5 y6 y7 y8 c0 c1 c2 c3 c4 c5 c6 c7 c8 f0 f1 f2 f3 f4 f5 f6 f7 f8 J1 J2
        by_cases hz : er = 0
        · have UX := hide' (UO.out hz)
          subst hz
          clear UO UB
          go_wp2_with fail
          go_roundw
          case rel => exact ⟨j + 1, by omega, by go_num, ⟨ra0, rn0, rc0⟩, ⟨ra1, rn1, rc1⟩, ⟨ra2, rn2, rc2⟩, ⟨ra3, rn3, rc3⟩, ⟨ra4, rn4, rc4⟩, ⟨ra6, rn6, rc6⟩, s', PW, UX, FS⟩
          case measure => simp [intOf]; omega
        · have dz : (er != 0) = true := by simpa using hz
          have UX := hide' (UB.out hz)
          obtain ⟨⟨g0, g1, g2, g3, g4, g5, g6, g7, g8⟩, h0, h1, h2, h3, h4, h5, h6, h7, h8⟩ := cells_9a PW.out.b1
          obtain ⟨m0, m1, m2, m3, m4, m5, m6, m7, m8⟩ := cells_9 PW.out.b0
          have FB := cells_putFrom [.slice ra0 rn0 rc0, .slice ra1 rn1 rc1, .slice ra2 rn2 rc2, .slice ra3 rn3 rc3, .slice ra4 rn4 rc4, .int .i64 s'.room, .slice ra6 rn6 rc6, .int .i64 s'.power, .int .i64 (s'.n : Int)] 0 _ _ PW.out.b1 (by simp)
          have FBL := below_put (m := W0.heap.size) (b := W0.heap.size + 1) (Nat.le_succ _) [.slice ra0 rn0 rc0, .slice ra1 rn1 rc1, .slice ra2 rn2 rc2, .slice ra3 rn3 rc3, .slice ra4 rn4 rc4, .int .i64 s'.room, .slice ra6 rn6 rc6, .int .i64 s'.power, .int .i64 (s'.n : Int)] 0 _ PW.out.bel
          have FRF := refS_sub PW.out.ref (Sub.trans (off_mask (S := fun k => S k ∨ k = W0.heap.size ∨ k = W0.heap.size + 1) (S' := fun k => S k ∨ k = W0.heap.size ∨ k = W0.heap.size + 1) (off_put (.inr (.inr rfl)) [.slice ra0 rn0 rc0, .slice ra1 rn1 rc1, .slice ra2 rn2 rc2, .slice ra3 rn3 rc3, .slice ra4 rn4 rc4, .int .i64 s'.room, .slice ra6 rn6 rc6, .int .i64 s'.power, .int .i64 (s'.n : Int)] 0 _) (fun _ e => .inl e)) (mask_mono (S := S) (fun _ e => .inl e)))
          simp only [putFrom] at FB FBL FRF
          have FIN := hide' (And.intro FRF FBL)
          have FBH := hide' FB
          clear FB FBL FRF PW UO UB hz
          go_wp2_with fail
          obtain ⟨z0, z1, z2, z3, z4, z5, z6, z7, z8⟩ := cells_9 (show Blk (W0.heap.size + 1) _ [.slice ra0 rn0 rc0, .slice ra1 rn1 rc1, .slice ra2 rn2 rc2, .slice ra3 rn3 rc3, .slice ra4 rn4 rc4, .int .i64 s'.room, .slice ra6 rn6 rc6, .int .i64 s'.power, .int .i64 (s'.n : Int)] from by simpa using FBH.out)
          exact bodyPost_ret (v := .tuple #[.agg #[.slice ra0 rn0 rc0, .slice ra1 rn1 rc1, .slice ra2 rn2 rc2, .slice ra3 rn3 rc3, .slice ra4 rn4 rc4, .int .i64 s'.room, .slice ra6 rn6 rc6, .int .i64 s'.power, .int .i64 (s'.n : Int)], .int .i64 (j : Int), .int .i64 er]) (by simp [results, Tryz.results31, go_sem, z0, z1, z2, z3, z4, z5, z6, z7, z8]) rfl (by rw [UX.out]; exact ⟨_, rfl, FIN.out.1, FIN.out.2⟩)
    · have UX := hide' (upto_end HU.out (by rw [← N1.out]; omega))
      rw [← N1.out] at UX
      obtain ⟨m0, m1, m2, m3, m4, m5, m6, m7, m8⟩ := cells_9 HL.out.b0
      obtain ⟨⟨g0, g1, g2, g3, g4, g5, g6, g7, g8⟩, h0, h1, h2, h3, h4, h5, h6, h7, h8⟩ := cells_9a HL.out.b1
      have J3 : W0.heap.size ≠ W0.heap.size + 1 := by omega
      have J4 : W0.heap.size + 1 ≠ W0.heap.size := by omega
      have FB := cells_putFrom [.slice a0 n0 c0, .slice a1 n1 c1, .slice a2 n2 c2, .slice a3 n3 c3, .slice a4 n4 c4, .int .i64 s.room, .slice a6 n6 c6, .int .i64 s.power, .int .i64 (s.n : Int)] 0 _ _ HL.out.b1 (by simp)
      have FBL := below_put (m := W0.heap.size) (b := W0.heap.size + 1) (Nat.le_succ _) [.slice a0 n0 c0, .slice a1 n1 c1, .slice a2 n2 c2, .slice a3 n3 c3, .slice a4 n4 c4, .int .i64 s.room, .slice a6 n6 c6, .int .i64 s.power, .int .i64 (s.n : Int)] 0 _ HL.out.bel
      have FRF := refS_sub HL.out.ref (Sub.trans (off_mask (S := fun k => S k ∨ k = W0.heap.size ∨ k = W0.heap.size + 1) (S' := fun k => S k ∨ k = W0.heap.size ∨ k = W0.heap.size + 1) (off_put (.inr (.inr rfl)) [.slice a0 n0 c0, .slice a1 n1 c1, .slice a2 n2 c2, .slice a3 n3 c3, .slice a4 n4 c4, .int .i64 s.room, .slice a6 n6 c6, .int .i64 s.power, .int .i64 (s.n : Int)] 0 _) (fun _ e => .inl e)) (mask_mono (S := S) (fun _ e => .inl e)))
      simp only [putFrom] at FB FBL FRF
      have FIN := hide' (And.intro FRF FBL)
      have FBH := hide' FB
      clear FB FBL FRF HL HU
      go_wp2_with fail
      obtain ⟨z0, z1, z2, z3, z4, z5, z6, z7, z8⟩ := cells_9 (show Blk (W0.heap.size + 1) _ [.slice a0 n0 c0, .slice a1 n1 c1, .slice a2 n2 c2, .slice a3 n3 c3, .slice a4 n4 c4, .int .i64 s.room, .slice a6 n6 c6, .int .i64 s.power, .int .i64 (s.n : Int)] from by simpa using FBH.out)
      exact bodyPost_ret (v := .tuple #[.agg #[.slice a0 n0 c0, .slice a1 n1 c1, .slice a2 n2 c2, .slice a3 n3 c3, .slice a4 n4 c4, .int .i64 s.room, .slice a6 n6 c6, .int .i64 s.power, .int .i64 (s.n : Int)], .int .i64 (n : Int), .int .i64 0]) (by simp [results, Tryz.results31, go_sem, z0, z1, z2, z3, z4, z5, z6, z7, z8]) rfl (by rw [UX.out]; exact ⟨_, rfl, FIN.out.1, FIN.out.2⟩)
end Go.Proofs.YtijnjgnckipghaaGreat
namespace Go.Proofs.YtijnjgnckipghaaGreat
open Go.RowKit
theorem encOf_lenA (seq op no : Int) (id : List UInt8) : (encOf seq op no id).1.length ≤ 4111 := by
  unfold encOf
  split
  · split
    · show (recL _ _ _ id).length ≤ _
      rw [recL_len]; omega
    · simp
  · simp
theorem sl_of {W : World} {v : Value} {bs : List UInt8} (h : HoldsB W v bs) : ∃ a n c, v = .slice a n c := by
  obtain ⟨ao, cap, rfl, _⟩ := h
  exact ⟨_, _, _, rfl⟩
theorem cells_ten {b : Nat} {W : World} {v0 v1 v2 v3 v4 v5 v6 v7 v8 v9 : Value} (h : Blk b W [v0, v1, v2, v3, v4, v5, v6, v7, v8, v9]) : (W.cell? ⟨b, 0, none⟩ = some v0 ∧ W.cell? ⟨b, 1, none⟩ = some v1 ∧ W.cell? ⟨b, 2, none⟩ = some v2 ∧ W.cell? ⟨b, 3, none⟩ = some v3 ∧ W.cell? ⟨b, 4, none⟩ = some v4 ∧ W.cell? ⟨b, 5, none⟩ = some v5 ∧ W.cell? ⟨b, 6, none⟩ = some v6 ∧ W.cell? ⟨b, 7, none⟩ = some v7 ∧ W.cell? ⟨b, 8, none⟩ = some v8 ∧ W.cell? ⟨b, 9, none⟩ = some v9) ∧ W.frozen? ⟨b, 0, none⟩ = false ∧ W.frozen? ⟨b, 1, none⟩ = false ∧ W.frozen? ⟨b, 2, none⟩ = false ∧ W.frozen? ⟨b, 3, none⟩ = false ∧ W.frozen? ⟨b, 4, none⟩ = false ∧ W.frozen? ⟨b, 5, none⟩ = false ∧ W.frozen? ⟨b, 6, none⟩ = false ∧ W.frozen? ⟨b, 7, none⟩ = false ∧ W.frozen? ⟨b, 8, none⟩ = false ∧ W.frozen? ⟨b, 9, none⟩ = false := by
  have k := fun j (hj : j < 10) => h.1 j (by simpa using hj)
  exact ⟨⟨(k 0 (by decide)).1, (k 1 (by decide)).1, (k 2 (by decide)).1, (k 3 (by decide)).1, (k 4 (by decide)).1, (k 5 (by decide)).1, (k 6 (by decide)).1, (k 7 (by decide)).1, (k 8 (by decide)).1, (k 9 (by decide)).1⟩, (k 0 (by decide)).2, (k 1 (by decide)).2, (k 2 (by decide)).2, (k 3 (by decide)).2, (k 4 (by decide)).2, (k 5 (by decide)).2, (k 6 (by decide)).2, (k 7 (by decide)).2, (k 8 (by decide)).2, (k 9 (by decide)).2⟩
theorem sti_putN {S : Nat → Prop} {W0 W : World} {zs vs : List Value} {v : Value} {s : Dk} {m : Nat} (h : StI S W0 zs vs v s m W) (us : List Value) (hu : us.length ≤ vs.length) : StI S W0 zs (us ++ vs.drop us.length) v s m (putFrom W0.heap.size 0 W us) := by
  refine ⟨?_, blk_putX (b := W0.heap.size + 1) (c := W0.heap.size) (by omega) us 0 _ h.b1, below_put (Nat.le_refl _) us 0 W h.bel, refS_sub h.ref (off_mask (off_put (.inr (.inl rfl)) us 0 W) (fun _ e => .inl e)), h.wf, h.bd⟩
  have := cells_putFrom us 0 W vs h.b0 (by omega)
  simpa using this
theorem sti_set {S : Nat → Prop} {W0 W : World} {zs vs : List Value} {v : Value} {s : Dk} {m : Nat} (h : StI S W0 zs vs v s m W) (j : Nat) (hj : j < vs.length) (x : Value) : StI S W0 zs (vs.set j x) v s m (W.setCell ⟨W0.heap.size, j, none⟩ x) :=
  ⟨cells_set h.b0 hj x, cells_other h.b1 (by omega) x, h.bel.setCell (Nat.le_refl _) x, refS_sub h.ref (off_mask (S := fun k => S k ∨ k = W0.heap.size ∨ k = W0.heap.size + 1) (S' := fun k => S k ∨ k = W0.heap.size ∨ k = W0.heap.size + 1) (off_poke ⟨W0.heap.size, j, none⟩ (.inr (.inl rfl)) x) (fun _ e => .inl e)), h.wf, h.bd⟩
theorem sti_begin {S : Nat → Prop} {W0 : World} {v : Value} {s : Dk} {m : Nat} (xs zs : Array Value) (hr : RefS (mask S W0) v s) (hw : Wf s) (hd : Bd m s) (t t2 : TypeId) : StI S W0 zs.toList xs.toList v s m ((W0.alloc (.cells xs t)).alloc (.cells zs t2)) := by
  have a1 := cells_lit W0 xs t
  have z1 : (W0.alloc (.cells xs t)).heap.size = W0.heap.size + 1 := by simp
  have a2 := cells_lit (W0.alloc (.cells xs t)) zs t2
  have e1 := below_alloc' W0 (.cells xs t)
  have e2 := below_alloc' (W0.alloc (.cells xs t)) (.cells zs t2)
  rw [z1] at a2
  have hb := e1.trans (e2.mono e1.size)
  exact ⟨cells_below a1 e2, a2, hb, refS_sub hr (off_mask (S := S) (S' := fun k => S k ∨ k = W0.heap.size ∨ k = W0.heap.size + 1) (off_of hb) (fun k e => by rcases e with e | e | e; exact .inl e; exact .inr (by omega); exact .inr (by omega))), hw, hd⟩
/-- the result is laid -/
theorem sti_end {S : Nat → Prop} {W0 W : World} {zs vs us : List Value} {v : Value} {s : Dk} {m : Nat} (h : StI S W0 zs vs v s m W) (hu : us.length = zs.length) : Blk (W0.heap.size + 1) (putFrom (W0.heap.size + 1) 0 W us) us ∧ Below W0.heap.size W0 (putFrom (W0.heap.size + 1) 0 W us) ∧ RefS (mask S (putFrom (W0.heap.size + 1) 0 W us)) v s := by
  have FB := cells_putFrom us 0 _ _ h.b1 (by omega)
  rw [List.drop_eq_nil_of_le (by omega)] at FB
  refine ⟨by simpa using FB, below_put (m := W0.heap.size) (b := W0.heap.size + 1) (Nat.le_succ _) us 0 _ h.bel, ?_⟩
  exact refS_sub h.ref (Sub.trans (off_mask (S := fun k => S k ∨ k = W0.heap.size ∨ k = W0.heap.size + 1) (S' := fun k => S k ∨ k = W0.heap.size ∨ k = W0.heap.size + 1) (off_put (.inr (.inr rfl)) us 0 _) (fun _ e => .inl e)) (mask_mono (S := S) (fun _ e => .inl e)))
def cellsO : List (OpT × Value) → List Value
  | [] => []
  | p :: r => .int .i64 p.1.1 :: S p.1.2.1 :: S p.1.2.2.1 :: p.2 :: cellsO r
theorem cellsO_at : ∀ (l : List (OpT × Value)) (j : Nat) (h : j < l.length), (cellsO l)[j * 4]? = some (.int .i64 l[j].1.1) ∧ (cellsO l)[j * 4 + 1]? = some (S l[j].1.2.1) ∧ (cellsO l)[j * 4 + 2]? = some (S l[j].1.2.2.1) ∧ (cellsO l)[j * 4 + 3]? = some l[j].2 := by
  intro l
  induction l with
  | nil => intro j h; cases h
  | cons p r ih =>
    intro j h
    cases j with
    | zero => exact ⟨rfl, rfl, rfl, rfl⟩
    | succ j =>
      have := ih j (by simpa using h)
      have e : (j + 1) * 4 = j * 4 + 4 := by omega
      rw [e]
      exact this
theorem ho_lit (W : World) (ws : List (OpT × Value)) (t : TypeId) (h : ∀ p ∈ ws, HoldsB W p.2 p.1.2.2.2) : HoldsO (W.alloc (.cells (cellsO ws).toArray t)) (.slice (some ⟨W.heap.size, 0, none⟩) ws.length ws.length) (ws.map (fun p => p.1)) := by
  have hb := below_alloc' W (.cells (cellsO ws).toArray t)
  refine ⟨_, ws.length, by rw [List.length_map], fun e => (by cases e), by rw [List.length_map]; exact Nat.le_refl _, fun _ => ⟨W.heap.size, 0, rfl, by simp, fun j hj => ?_⟩⟩
  have hj' : j < ws.length := by simpa using hj
  obtain ⟨c0, c1, c2, c3⟩ := cellsO_at ws j hj'
  have cc : ∀ o, (W.alloc (.cells (cellsO ws).toArray t)).cell? ⟨W.heap.size, o, none⟩ = (cellsO ws)[o]? := fun o => by simp
  refine ⟨by rw [cc, Nat.zero_add, c0]; simp, by rw [cc, Nat.zero_add, c1]; simp, by rw [cc, Nat.zero_add, c2]; simp, (ws[j]'hj').2, by rw [cc, Nat.zero_add, c3], ?_⟩
  rw [List.getElem_map]
  exact holdsB_mono (h _ (List.getElem_mem hj')) hb
theorem holdsB_none (W : World) : HoldsB W (.slice none 0 0) [] := ⟨none, 0, rfl, fun _ => rfl, Nat.le_refl _, fun h => absurd rfl h⟩
theorem stps_keeps : ∀ (os : List OpT) {m : Nat} {s : Dk}, Wf s → Bd m s → Wf (stpsT (opsD os) s).1 ∧ Bd (m + bulkO os) (stpsT (opsD os) s).1 ∧ (stpsT (opsD os) s).1.fails = s.fails := by
  intro os
  induction os with
  | nil => intro m s hw hb; exact ⟨hw, hb, rfl⟩
  | cons o r ih =>
    intro m s hw hb
    have e : opsD (o :: r) = ⟨o.1, o.2.1, o.2.2.1, o.2.2.2⟩ :: opsD r := rfl
    have b1 := bd_step hb ⟨o.1, o.2.1, o.2.2.1, o.2.2.2⟩
    have w1 := wf_step hw ⟨o.1, o.2.1, o.2.2.1, o.2.2.2⟩
    have f1 := step_fails s ⟨o.1, o.2.1, o.2.2.1, o.2.2.2⟩
    rw [e]
    by_cases h : (s.step ⟨o.1, o.2.1, o.2.2.1, o.2.2.2⟩).2 = 0
    · rw [stps_ok h]
      obtain ⟨h1, h2, h3⟩ := ih w1 b1
      exact ⟨h1, bd_mono h2 (by simp only [bulkO]; omega), h3.trans f1⟩
    · rw [stps_bad h]
      exact ⟨w1, bd_mono b1 (by simp only [bulkO]; omega), f1⟩
set_option maxRecDepth 20000 in
set_option maxHeartbeats 16000000 in
theorem addRC {S : Nat → Prop} {W0 : World} (hS : ∀ k, S k → k < W0.heap.size) {a0 a1 a2 a3 a4 a6 : Option Addr} {n0 c0 n1 c1 n2 c2 n3 c3 n4 c4 n6 c6 : Nat} {t : Dk} (h : RefS (mask S W0) (.agg #[.slice a0 n0 c0, .slice a1 n1 c1, .slice a2 n2 c2, .slice a3 n3 c3, .slice a4 n4 c4, .int .i64 t.room, .slice a6 n6 c6, .int .i64 t.power, .int .i64 (t.n : Int)]) t) (hw : Wf t) (m : Nat) (hB : Bd m t) (hfl : t.fails.length ≤ 1000000000) (c op no : Int) (id : List UInt8) (hid : id.length ≤ 1000000000000000) (hm : m ≤ 60000000) :
    Calls Tryz.prog 15 #[.agg #[.slice a0 n0 c0, .slice a1 n1 c1, .slice a2 n2 c2, .slice a3 n3 c3, .slice a4 n4 c4, .int .i64 t.room, .slice a6 n6 c6, .int .i64 t.power, .int .i64 (t.n : Int), .int .i64 c], .int .i64 op, .int .i64 no, .string ⟨id.toArray⟩] W0 fun e w' => ∃ (y0 y1 y2 y3 y4 y6 : Sl) (s' : Dk), s' = (addT op no id (t, c)).1.1 ∧ e = .returned (.tuple #[.agg #[.slice y0.a y0.n y0.c, .slice y1.a y1.n y1.c, .slice y2.a y2.n y2.c, .slice y3.a y3.n y3.c, .slice y4.a y4.n y4.c, .int .i64 s'.room, .slice y6.a y6.n y6.c, .int .i64 s'.power, .int .i64 (s'.n : Int), .int .i64 (addT op no id (t, c)).1.2], .int .i64 (addT op no id (t, c)).2]) ∧ RefS (mask S w') (.agg #[.slice y0.a y0.n y0.c, .slice y1.a y1.n y1.c, .slice y2.a y2.n y2.c, .slice y3.a y3.n y3.c, .slice y4.a y4.n y4.c, .int .i64 s'.room, .slice y6.a y6.n y6.c, .int .i64 s'.power, .int .i64 (s'.n : Int)]) s' ∧ Below W0.heap.size W0 w' := by
  have I0 : Hid (StI S W0 [.slice none 0 0, .slice none 0 0, .slice none 0 0, .slice none 0 0, .slice none 0 0, .int .i64 0, .slice none 0 0, .int .i64 0, .int .i64 0, .int .i64 0] [.slice a0 n0 c0, .slice a1 n1 c1, .slice a2 n2 c2, .slice a3 n3 c3, .slice a4 n4 c4, .int .i64 t.room, .slice a6 n6 c6, .int .i64 t.power, .int .i64 (t.n : Int), .int .i64 c] (.agg #[.slice a0 n0 c0, .slice a1 n1 c1, .slice a2 n2 c2, .slice a3 n3 c3, .slice a4 n4 c4, .int .i64 t.room, .slice a6 n6 c6, .int .i64 t.power, .int .i64 (t.n : Int)]) t m ((W0.alloc (.cells #[.slice a0 n0 c0, .slice a1 n1 c1, .slice a2 n2 c2, .slice a3 n3 c3, .slice a4 n4 c4, .int .i64 t.room, .slice a6 n6 c6, .int .i64 t.power, .int .i64 (t.n : Int), .int .i64 c] 46)).alloc (.cells #[.slice none 0 0, .slice none 0 0, .slice none 0 0, .slice none 0 0, .slice none 0 0, .int .i64 0, .slice none 0 0, .int .i64 0, .int .i64 0, .int .i64 0] 46))) := sti_begin #[.slice a0 n0 c0, .slice a1 n1 c1, .slice a2 n2 c2, .slice a3 n3 c3, .slice a4 n4 c4, .int .i64 t.room, .slice a6 n6 c6, .int .i64 t.power, .int .i64 (t.n : Int), .int .i64 c] #[.slice none 0 0, .slice none 0 0, .slice none 0 0, .slice none 0 0, .slice none 0 0, .int .i64 0, .slice none 0 0, .int .i64 0, .int .i64 0, .int .i64 0] h hw hB _ _
  have HS := hide' hS
  have FL := hide' hfl
  have b2 : Below W0.heap.size W0 ((W0.alloc (.cells #[.slice a0 n0 c0, .slice a1 n1 c1, .slice a2 n2 c2, .slice a3 n3 c3, .slice a4 n4 c4, .int .i64 t.room, .slice a6 n6 c6, .int .i64 t.power, .int .i64 (t.n : Int), .int .i64 c] 46)).alloc (.cells #[.slice none 0 0, .slice none 0 0, .slice none 0 0, .slice none 0 0, .slice none 0 0, .int .i64 0, .slice none 0 0, .int .i64 0, .int .i64 0, .int .i64 0] 46)) := I0.out.bel
  have CE := hide' (encRC c op no id ((W0.alloc (.cells #[.slice a0 n0 c0, .slice a1 n1 c1, .slice a2 n2 c2, .slice a3 n3 c3, .slice a4 n4 c4, .int .i64 t.room, .slice a6 n6 c6, .int .i64 t.power, .int .i64 (t.n : Int), .int .i64 c] 46)).alloc (.cells #[.slice none 0 0, .slice none 0 0, .slice none 0 0, .slice none 0 0, .slice none 0 0, .int .i64 0, .slice none 0 0, .int .i64 0, .int .i64 0, .int .i64 0] 46)) hid)
  unfold recV at CE
  have LE : Hid ((encOf c op no id).1.length ≤ 4111) := encOf_lenA c op no id
  obtain ⟨⟨k0, k1, k2, k3, k4, k5, k6, k7, k8, k9⟩, -⟩ := cells_ten I0.out.b0
  clear h hw hB hfl hS b2
  go_enter Tryz.func15, Tryz.ntmps15
  go_wp2_with fail
  refine CE.out.mono ?_
  rintro e w3 ⟨u, rfl, ho⟩
  have I3 := hide' (sti_below I0.out ho.2)
  have HU := hide' (holdsB_own ho)
  obtain ⟨ua, ul, uc, hu⟩ := sl_of HU.out
  subst hu
  clear I0 CE ho k0 k1 k2 k3 k4 k5 k6 k7 k8 k9
  obtain ⟨⟨k0, k1, k2, k3, k4, k5, k6, k7, k8, k9⟩, kf⟩ := cells_ten I3.out.b0
  obtain ⟨⟨g0, g1, g2, g3, g4, g5, g6, g7, g8, g9⟩, ⟨f0, f1, f2, f3, f4, f5, f6, f7, f8, f9⟩⟩ := cells_ten I3.out.b1
  have J3 : W0.heap.size ≠ W0.heap.size + 1 := by omega
  have J4 : W0.heap.size + 1 ≠ W0.heap.size := by omega
  by_cases hz : ¬ (encOf c op no id).2 = 0
  · have dz : ((encOf c op no id).2 != 0) = true := by simpa using hz
    have AD : Hid (addT op no id (t, c) = ((t, c), (encOf c op no id).2)) := by unfold Hid addT; rw [if_neg hz]
    have EN := sti_end I3.out (us := [.slice a0 n0 c0, .slice a1 n1 c1, .slice a2 n2 c2, .slice a3 n3 c3, .slice a4 n4 c4, .int .i64 t.room, .slice a6 n6 c6, .int .i64 t.power, .int .i64 (t.n : Int), .int .i64 c]) rfl
    simp only [putFrom] at EN
    have ENH := hide' EN
    clear EN hz HU I3
    generalize (encOf c op no id).2 = er at dz AD ⊢
    go_wp2_with fail
    obtain ⟨⟨z0, z1, z2, z3, z4, z5, z6, z7, z8, z9⟩, -⟩ := cells_ten ENH.out.1
    exact bodyPost_ret (v := .tuple #[.agg #[.slice a0 n0 c0, .slice a1 n1 c1, .slice a2 n2 c2, .slice a3 n3 c3, .slice a4 n4 c4, .int .i64 t.room, .slice a6 n6 c6, .int .i64 t.power, .int .i64 (t.n : Int), .int .i64 c], .int .i64 er]) (by simp [results, Tryz.results15, go_sem, z0, z1, z2, z3, z4, z5, z6, z7, z8, z9]) rfl (by rw [AD.out]; exact ⟨⟨a0, n0, c0⟩, ⟨a1, n1, c1⟩, ⟨a2, n2, c2⟩, ⟨a3, n3, c3⟩, ⟨a4, n4, c4⟩, ⟨a6, n6, c6⟩, t, rfl, rfl, ENH.out.2.2, ENH.out.2.1⟩)
  have hz' : (encOf c op no id).2 = 0 := by simpa using hz
  have CR : Hid (0 ≤ c ∧ c ≤ 4294967295) := by
    have h1 : encOf c op no id = ((encOf c op no id).1, 0) := by rw [← hz']
    exact (enc_inv h1).2.1
  have AD : Hid (addT op no id (t, c) = refAddR (encOf c op no id).1 (t, c)) := by unfold Hid addT; rw [if_pos hz', add_ref]
  have AD2 : Hid (addT op no id (t, c) = (((stpsT [⟨2, lgN, [], (encOf c op no id).1⟩, ⟨3, lgN, [], []⟩] t).1, if 1 ≤ (stpsT [⟨2, lgN, [], (encOf c op no id).1⟩, ⟨3, lgN, [], []⟩] t).2.1 then c + 1 else c), (stpsT [⟨2, lgN, [], (encOf c op no id).1⟩, ⟨3, lgN, [], []⟩] t).2.2)) := by unfold Hid; rw [AD.out]; rfl
  rw [hz']
  generalize (encOf c op no id).1 = bs at HU LE AD2 ⊢
  clear AD hz hz'
  have I4 := hide' (sti_below I3.out (below_alloc' w3 (.cells #[.int .i64 2, .string ⟨#[108, 111, 103]⟩, .string ⟨#[]⟩, .slice ua ul uc, .int .i64 3, .string ⟨#[108, 111, 103]⟩, .string ⟨#[]⟩, .slice none 0 0] 83)))
  have HO := ho_lit w3 [((2, lgN, [], bs), .slice ua ul uc), ((3, lgN, [], []), .slice none 0 0)] 83 (fun p hp => by
    simp only [List.mem_cons, List.not_mem_nil, or_false] at hp
    rcases hp with rfl | rfl
    · exact HU.out
    · exact holdsB_none _)
  have hbk : m + bulkO [(2, lgN, [], bs), (3, lgN, [], [])] ≤ 80000000 := by have := LE.out; simp only [bulkO, lgN, List.length_cons, List.length_nil]; omega
  have KEEP := hide' (stps_keeps [(2, lgN, [], bs), (3, lgN, [], [])] I3.out.wf I3.out.bd)
  have CS := hide' (stepsRC (S := fun k => S k ∨ k = W0.heap.size ∨ k = W0.heap.size + 1) (sti_lt I4.out HS.out) I4.out.ref I4.out.wf m I4.out.bd FL.out _ _ HO (fun o h => by
    simp only [List.map_cons, List.map_nil, List.mem_cons, List.not_mem_nil, or_false] at h
    rcases h with rfl | rfl
    · exact ⟨(by decide : (1 : Int) ≤ 2), (by decide : (2 : Int) ≤ 6)⟩
    · exact ⟨(by decide : (1 : Int) ≤ 3), (by decide : (3 : Int) ≤ 6)⟩) hbk)
  clear HO hbk I3 HU
  go_wp2_with fail
  refine CS.out.mono ?_
  rintro e w5 ⟨v', rfl, hr, hb⟩
  have hop : opsD [(2, lgN, [], bs), (3, lgN, [], [])] = [⟨2, lgN, [], bs⟩, ⟨3, lgN, [], []⟩] := rfl
  have EQ : Hid (stpsT (opsD [(2, lgN, [], bs), (3, lgN, [], [])]) t = stpsT [⟨2, lgN, [], bs⟩, ⟨3, lgN, [], []⟩] t) := by unfold Hid; rw [hop]
  simp only [List.map_cons, List.map_nil] at hr ⊢
  rw [EQ.out] at hr KEEP ⊢
  generalize stpsT [⟨2, lgN, [], bs⟩, ⟨3, lgN, [], []⟩] t = Q at hr KEEP AD2 ⊢
  obtain ⟨s', nn, er⟩ := Q
  dsimp only at hr KEEP AD2 ⊢
  obtain ⟨⟨ra0, rn0, rc0⟩, ⟨ra1, rn1, rc1⟩, ⟨ra2, rn2, rc2⟩, ⟨ra3, rn3, rc3⟩, ⟨ra4, rn4, rc4⟩, ⟨ra6, rn6, rc6⟩, ev, -⟩ := _root_.id hr
  unfold stV at ev
  dsimp only at ev
  subst ev
  have I6 := hide' (sti_below (sti_ref I4.out hb hr KEEP.out.1 KEEP.out.2.1) (below_alloc' w5 (.cells #[.slice ra0 rn0 rc0, .slice ra1 rn1 rc1, .slice ra2 rn2 rc2, .slice ra3 rn3 rc3, .slice ra4 rn4 rc4, .int .i64 s'.room, .slice ra6 rn6 rc6, .int .i64 s'.power, .int .i64 (s'.n : Int)] 38)))
  have P6 := sti_putN I6.out [.slice ra0 rn0 rc0, .slice ra1 rn1 rc1, .slice ra2 rn2 rc2, .slice ra3 rn3 rc3, .slice ra4 rn4 rc4, .int .i64 s'.room, .slice ra6 rn6 rc6, .int .i64 s'.power, .int .i64 (s'.n : Int)] (by simp)
  simp only [putFrom, List.cons_append, List.nil_append, List.length_cons, List.length_nil, List.drop_succ_cons, List.drop_zero] at P6
  have hc0 := CR.out.1
  have hc1 := CR.out.2
  have P6H := hide' P6
  obtain ⟨⟨p0, p1, p2, p3, p4, p5, p6, p7, p8, p9⟩, ⟨r0, r1, r2, r3, r4, r5, r6, r7, r8, r9⟩⟩ := cells_ten I6.out.b0
  clear hr hb CS KEEP I4 EQ hop FL LE P6 I6 k0 k1 k2 k3 k4 k5 k6 k7 k8 k9 g0 g1 g2 g3 g4 g5 g6 g7 g8 g9 f0 f1 f2 f3 f4 f5 f6 f7 f8 f9 kf
  go_upto_region 6 with fail
  generalize ((((((((((w5.alloc (.cells #[.slice ra0 rn0 rc0, .slice ra1 rn1 rc1, .slice ra2 rn2 rc2, .slice ra3 rn3 rc3, .slice ra4 rn4 rc4, .int .i64 s'.room, .slice ra6 rn6 rc6, .int .i64 s'.power, .int .i64 (s'.n : Int)] 38)).setCell ⟨W0.heap.size, 0, none⟩ (.slice ra0 rn0 rc0)).setCell ⟨W0.heap.size, 1, none⟩ (.slice ra1 rn1 rc1)).setCell ⟨W0.heap.size, 2, none⟩ (.slice ra2 rn2 rc2)).setCell ⟨W0.heap.size, 3, none⟩ (.slice ra3 rn3 rc3)).setCell ⟨W0.heap.size, 4, none⟩ (.slice ra4 rn4 rc4)).setCell ⟨W0.heap.size, 5, none⟩ (.int .i64 s'.room)).setCell ⟨W0.heap.size, 6, none⟩ (.slice ra6 rn6 rc6)).setCell ⟨W0.heap.size, 7, none⟩ (.int .i64 s'.power)).setCell ⟨W0.heap.size, 8, none⟩ (.int .i64 (s'.n : Int))) = wA at P6H ⊢
  clear p0 p1 p2 p3 p4 p5 p6 p7 p8 p9 r0 r1 r2 r3 r4 r5 r6 r7 r8 r9
  by_cases hn1 : 1 ≤ nn
  · have dn : decide ((1 : Int) ≤ (nn : Int)) = true := by simp; omega
    have P7 := sti_set P6H.out 9 (by simp) (.int .i64 (c + 1))
    simp only [List.set_cons_succ, List.set_cons_zero] at P7
    have P7H := hide' P7
    obtain ⟨⟨-, -, -, -, -, -, -, -, -, q9⟩, ⟨-, -, -, -, -, -, -, -, -, t9⟩⟩ := cells_ten P6H.out.b0
    rw [if_pos hn1] at AD2
    clear P7 P6H
    go_upto_region 8 with fail
    generalize (wA.setCell ⟨W0.heap.size, 9, none⟩ (.int .i64 (c + 1))) = wB at P7H ⊢
    clear q9 t9
    obtain ⟨⟨k0, k1, k2, k3, k4, k5, k6, k7, k8, k9⟩, -⟩ := cells_ten P7H.out.b0
    obtain ⟨⟨g0, g1, g2, g3, g4, g5, g6, g7, g8, g9⟩, ⟨f0, f1, f2, f3, f4, f5, f6, f7, f8, f9⟩⟩ := cells_ten P7H.out.b1
    have EN := sti_end P7H.out (us := [.slice ra0 rn0 rc0, .slice ra1 rn1 rc1, .slice ra2 rn2 rc2, .slice ra3 rn3 rc3, .slice ra4 rn4 rc4, .int .i64 s'.room, .slice ra6 rn6 rc6, .int .i64 s'.power, .int .i64 (s'.n : Int), .int .i64 (c + 1)]) rfl
    simp only [putFrom] at EN
    have ENH := hide' EN
    clear EN P7H
    go_wp2_with fail
    obtain ⟨⟨z0, z1, z2, z3, z4, z5, z6, z7, z8, z9⟩, -⟩ := cells_ten ENH.out.1
    exact bodyPost_ret (v := .tuple #[.agg #[.slice ra0 rn0 rc0, .slice ra1 rn1 rc1, .slice ra2 rn2 rc2, .slice ra3 rn3 rc3, .slice ra4 rn4 rc4, .int .i64 s'.room, .slice ra6 rn6 rc6, .int .i64 s'.power, .int .i64 (s'.n : Int), .int .i64 (c + 1)], .int .i64 er]) (by simp [results, Tryz.results15, go_sem, z0, z1, z2, z3, z4, z5, z6, z7, z8, z9]) rfl (by rw [AD2.out]; exact ⟨⟨ra0, rn0, rc0⟩, ⟨ra1, rn1, rc1⟩, ⟨ra2, rn2, rc2⟩, ⟨ra3, rn3, rc3⟩, ⟨ra4, rn4, rc4⟩, ⟨ra6, rn6, rc6⟩, s', rfl, rfl, ENH.out.2.2, ENH.out.2.1⟩)
  · have dn : decide ((1 : Int) ≤ (nn : Int)) = false := by simp; omega
    rw [if_neg hn1] at AD2
    obtain ⟨⟨k0, k1, k2, k3, k4, k5, k6, k7, k8, k9⟩, -⟩ := cells_ten P6H.out.b0
    obtain ⟨⟨g0, g1, g2, g3, g4, g5, g6, g7, g8, g9⟩, ⟨f0, f1, f2, f3, f4, f5, f6, f7, f8, f9⟩⟩ := cells_ten P6H.out.b1
    have EN := sti_end P6H.out (us := [.slice ra0 rn0 rc0, .slice ra1 rn1 rc1, .slice ra2 rn2 rc2, .slice ra3 rn3 rc3, .slice ra4 rn4 rc4, .int .i64 s'.room, .slice ra6 rn6 rc6, .int .i64 s'.power, .int .i64 (s'.n : Int), .int .i64 c]) rfl
    simp only [putFrom] at EN
    have ENH := hide' EN
    clear EN P6H
    go_wp2_with fail
    obtain ⟨⟨z0, z1, z2, z3, z4, z5, z6, z7, z8, z9⟩, -⟩ := cells_ten ENH.out.1
    exact bodyPost_ret (v := .tuple #[.agg #[.slice ra0 rn0 rc0, .slice ra1 rn1 rc1, .slice ra2 rn2 rc2, .slice ra3 rn3 rc3, .slice ra4 rn4 rc4, .int .i64 s'.room, .slice ra6 rn6 rc6, .int .i64 s'.power, .int .i64 (s'.n : Int), .int .i64 c], .int .i64 er]) (by simp [results, Tryz.results15, go_sem, z0, z1, z2, z3, z4, z5, z6, z7, z8, z9]) rfl (by rw [AD2.out]; exact ⟨⟨ra0, rn0, rc0⟩, ⟨ra1, rn1, rc1⟩, ⟨ra2, rn2, rc2⟩, ⟨ra3, rn3, rc3⟩, ⟨ra4, rn4, rc4⟩, ⟨ra6, rn6, rc6⟩, s', rfl, rfl, ENH.out.2.2, ENH.out.2.1⟩)
end Go.Proofs.YtijnjgnckipghaaGreat
namespace Go.Proofs.YtijnjgnckipghaaGreat
open Go.RowKit Go.Shelf
theorem own_emptyA (w : World) : Own w (.slice (some ⟨w.heap.size, 0, none⟩) 0 0) [] (w.alloc (.cells #[] 5)) := ⟨World.ownsRow_lit w #[] 0 (Nat.le_refl _) (by decide) rfl, below_alloc' _ _⟩
set_option maxRecDepth 20000 in
set_option maxHeartbeats 16000000 in
theorem rewRC {S : Nat → Prop} {W0 : World} (hS : ∀ k, S k → k < W0.heap.size) {a0 a1 a2 a3 a4 a6 : Option Addr} {n0 c0 n1 c1 n2 c2 n3 c3 n4 c4 n6 c6 : Nat} {t : Dk} (h : RefS (mask S W0) (.agg #[.slice a0 n0 c0, .slice a1 n1 c1, .slice a2 n2 c2, .slice a3 n3 c3, .slice a4 n4 c4, .int .i64 t.room, .slice a6 n6 c6, .int .i64 t.power, .int .i64 (t.n : Int)]) t) (hw : Wf t) (m : Nat) (hB : Bd m t) (hfl : t.fails.length ≤ 1000000000) (c : Int) (lv : Value) (rs : RL) (hl : HoldsR W0 lv rs) (hm : m + bulkR rs + 1000 ≤ 70000000) :
    Calls Tryz.prog 13 #[.agg #[.slice a0 n0 c0, .slice a1 n1 c1, .slice a2 n2 c2, .slice a3 n3 c3, .slice a4 n4 c4, .int .i64 t.room, .slice a6 n6 c6, .int .i64 t.power, .int .i64 (t.n : Int), .int .i64 c], lv] W0 fun e w' => ∃ (y0 y1 y2 y3 y4 y6 : Sl) (s' : Dk), s' = (rewT rs (t, c)).1.1 ∧ e = .returned (.tuple #[.agg #[.slice y0.a y0.n y0.c, .slice y1.a y1.n y1.c, .slice y2.a y2.n y2.c, .slice y3.a y3.n y3.c, .slice y4.a y4.n y4.c, .int .i64 s'.room, .slice y6.a y6.n y6.c, .int .i64 s'.power, .int .i64 (s'.n : Int), .int .i64 (rewT rs (t, c)).1.2], .int .i64 (rewT rs (t, c)).2]) ∧ RefS (mask S w') (.agg #[.slice y0.a y0.n y0.c, .slice y1.a y1.n y1.c, .slice y2.a y2.n y2.c, .slice y3.a y3.n y3.c, .slice y4.a y4.n y4.c, .int .i64 s'.room, .slice y6.a y6.n y6.c, .int .i64 s'.power, .int .i64 (s'.n : Int)]) s' ∧ Below W0.heap.size W0 w' := by
  have I0 : Hid (StI S W0 [.slice none 0 0, .slice none 0 0, .slice none 0 0, .slice none 0 0, .slice none 0 0, .int .i64 0, .slice none 0 0, .int .i64 0, .int .i64 0, .int .i64 0] [.slice a0 n0 c0, .slice a1 n1 c1, .slice a2 n2 c2, .slice a3 n3 c3, .slice a4 n4 c4, .int .i64 t.room, .slice a6 n6 c6, .int .i64 t.power, .int .i64 (t.n : Int), .int .i64 c] (.agg #[.slice a0 n0 c0, .slice a1 n1 c1, .slice a2 n2 c2, .slice a3 n3 c3, .slice a4 n4 c4, .int .i64 t.room, .slice a6 n6 c6, .int .i64 t.power, .int .i64 (t.n : Int)]) t m ((W0.alloc (.cells #[.slice a0 n0 c0, .slice a1 n1 c1, .slice a2 n2 c2, .slice a3 n3 c3, .slice a4 n4 c4, .int .i64 t.room, .slice a6 n6 c6, .int .i64 t.power, .int .i64 (t.n : Int), .int .i64 c] 46)).alloc (.cells #[.slice none 0 0, .slice none 0 0, .slice none 0 0, .slice none 0 0, .slice none 0 0, .int .i64 0, .slice none 0 0, .int .i64 0, .int .i64 0, .int .i64 0] 46))) := sti_begin #[.slice a0 n0 c0, .slice a1 n1 c1, .slice a2 n2 c2, .slice a3 n3 c3, .slice a4 n4 c4, .int .i64 t.room, .slice a6 n6 c6, .int .i64 t.power, .int .i64 (t.n : Int), .int .i64 c] #[.slice none 0 0, .slice none 0 0, .slice none 0 0, .slice none 0 0, .slice none 0 0, .int .i64 0, .slice none 0 0, .int .i64 0, .int .i64 0, .int .i64 0] h hw hB _ _
  have HS := hide' hS
  have FL := hide' hfl
  have HM := hide' hm
  have HLR := hide' hl
  obtain ⟨ao, cap, b, off, hlv, hc⟩ := holdsR_parts hl
  have HC := hide' hc
  obtain ⟨n, hn⟩ : ∃ n, n = rs.length := ⟨_, rfl⟩
  have N : Hid (rs.length = n) := hn.symm
  have hnl : n * 15 ≤ bulkR rs := by
    rw [hn]
    clear hn N HC hc hl hm HM HLR hlv
    induction rs with
    | nil => simp
    | cons r rs ih => simp only [List.length_cons, bulkR]; omega
  have hn2 : n ≤ 70000000 := by omega
  rw [N.out] at hlv
  subst hlv
  clear h hw hB hfl hS hl hm hc hn hnl
  have O0' := own_emptyA ((W0.alloc (.cells #[.slice a0 n0 c0, .slice a1 n1 c1, .slice a2 n2 c2, .slice a3 n3 c3, .slice a4 n4 c4, .int .i64 t.room, .slice a6 n6 c6, .int .i64 t.power, .int .i64 (t.n : Int), .int .i64 c] 46)).alloc (.cells #[.slice none 0 0, .slice none 0 0, .slice none 0 0, .slice none 0 0, .slice none 0 0, .int .i64 0, .slice none 0 0, .int .i64 0, .int .i64 0, .int .i64 0] 46))
  have z2 : (((W0.alloc (.cells #[.slice a0 n0 c0, .slice a1 n1 c1, .slice a2 n2 c2, .slice a3 n3 c3, .slice a4 n4 c4, .int .i64 t.room, .slice a6 n6 c6, .int .i64 t.power, .int .i64 (t.n : Int), .int .i64 c] 46)).alloc (.cells #[.slice none 0 0, .slice none 0 0, .slice none 0 0, .slice none 0 0, .slice none 0 0, .int .i64 0, .slice none 0 0, .int .i64 0, .int .i64 0, .int .i64 0] 46))).heap.size = W0.heap.size + 1 + 1 := by simp
  rw [z2] at O0'
  have O0 := hide' O0'
  clear O0' z2
  go_enter Tryz.func13, Tryz.ntmps13
  go_wp2_with fail
  generalize ((W0.alloc (.cells #[.slice a0 n0 c0, .slice a1 n1 c1, .slice a2 n2 c2, .slice a3 n3 c3, .slice a4 n4 c4, .int .i64 t.room, .slice a6 n6 c6, .int .i64 t.power, .int .i64 (t.n : Int), .int .i64 c] 46)).alloc (.cells #[.slice none 0 0, .slice none 0 0, .slice none 0 0, .slice none 0 0, .slice none 0 0, .int .i64 0, .slice none 0 0, .int .i64 0, .int .i64 0, .int .i64 0] 46)) = w2 at I0 O0 ⊢
  generalize (w2.alloc (.cells #[] 5)) = w3 at O0 ⊢
  go_loopw [6, 7] (fun v i wr => ∃ (k : Nat) (acc : List UInt8), k ≤ n ∧ i = .int .i64 k ∧ Hid (Own w2 v acc wr) ∧ Hid (encG 0 rs = encH acc (encG k (rs.drop k))) ∧ Hid (acc.length + bulkR (rs.drop k) ≤ bulkR rs)) (fun _ i _ => n - (intOf i).toNat)
  case atStart => exact ⟨0, [], by omega, rfl, O0, by unfold Hid; rw [List.drop_zero, encH_nil _ (encG_bad _ _)], by unfold Hid; simp⟩
  case round =>
    obtain ⟨k, acc, hk, rfl, HO, HE, HB⟩ := hrel
    clear O0
    have IR := hide' (sti_below I0.out HO.out.2)
    by_cases hlt : k < n
    · have G : k < rs.length := by rw [N.out]; exact hlt
      obtain ⟨hao, hblt, hcell⟩ := HC.out (by rw [N.out]; omega)
      subst hao
      obtain ⟨c0', c1, c2, c3⟩ := hcell k G
      have D : Hid (rs.drop k = rs[k] :: rs.drop (k + 1)) := List.drop_eq_getElem_cons G
      have BD := hide' (bulkR_drop rs k G)
      obtain ⟨r, hr⟩ : ∃ r, r = rs[k] := ⟨_, rfl⟩
      rw [← hr] at c1 c2 c3 D BD
      obtain ⟨q0, q1, q2, q3⟩ := r
      dsimp only at c1 c2 c3
      replace c3 : W0.cell? ⟨b, off + k * 4 + 3, none⟩ = some (.string ⟨q3.toArray⟩) := c3
      have OC : Hid (∀ Wx, Below W0.heap.size W0 Wx → Wx.cell? ⟨b, off + k * 4 + 1, none⟩ = some (.int .i64 q1) ∧ Wx.cell? ⟨b, off + k * 4 + 2, none⟩ = some (.int .i64 q2) ∧ Wx.cell? ⟨b, off + k * 4 + 3, none⟩ = some (.string ⟨q3.toArray⟩)) := fun Wx hb => ⟨(hb.cell (cell_lt c1)).trans c1, (hb.cell (cell_lt c2)).trans c2, (hb.cell (cell_lt c3)).trans c3⟩
      clear hr hcell hblt c0' c1 c2 c3
      obtain ⟨l1, l2, l3⟩ := OC.out wr IR.out.bel
      have CE : Hid (∀ Wx, Below wr.heap.size wr Wx → Calls Tryz.prog 40 #[.agg #[.int .i64 (k : Int), .int .i64 q1, .int .i64 q2, .string ⟨q3.toArray⟩]] Wx fun e w' => ∃ ua un uc, e = .returned (.tuple #[.slice ua un uc, .int .i64 (encOf (k : Int) q1 q2 q3).2]) ∧ Hid (HoldsB w' (.slice ua un uc) (encOf (k : Int) q1 q2 q3).1 ∧ Below wr.heap.size wr w') ∧ w'.cell? ⟨b, off + k * 4 + 1, none⟩ = some (.int .i64 q1) ∧ w'.cell? ⟨b, off + k * 4 + 2, none⟩ = some (.int .i64 q2) ∧ w'.cell? ⟨b, off + k * 4 + 3, none⟩ = some (.string ⟨q3.toArray⟩)) := fun Wx hb => by
        have hq := encRC (k : Int) q1 q2 q3 Wx (by have h1 := BD.out; have h2 := HB.out; have h3 := HM.out; (try dsimp only at h1); omega)
        unfold recV at hq
        refine hq.mono ?_
        rintro e w' ⟨u, rfl, ho⟩
        obtain ⟨ua, un, uc, rfl⟩ := sl_of (holdsB_own ho)
        have hb2 := hb.trans (ho.2.mono hb.size)
        exact ⟨ua, un, uc, rfl, ⟨holdsB_own ho, hb2⟩, OC.out w' (IR.out.bel.trans (hb2.mono IR.out.bel.size))⟩
      have LE := hide' (enc_len (k : Int) q1 q2 q3)
      by_cases hz : (encOf (k : Int) q1 q2 q3).2 = 0
      · have HE2 : Hid (encG 0 rs = encH (acc ++ (encOf (k : Int) q1 q2 q3).1) (encG (k + 1) (rs.drop (k + 1)))) := by
          unfold Hid; rw [HE.out, D.out]; exact encH_ok (r := (q0, q1, q2, q3)) hz
        rw [hz] at CE
        generalize (encOf (k : Int) q1 q2 q3).1 = bs at CE HE2 LE
        clear hz
        go_wp2_with fail
        go_region_held3 (fun w' => w'.cell? ⟨b, off + k * 4 + 1, none⟩ = some (.int .i64 q1) ∧ w'.cell? ⟨b, off + k * 4 + 2, none⟩ = some (.int .i64 q2) ∧ w'.cell? ⟨b, off + k * 4 + 3, none⟩ = some (.string ⟨q3.toArray⟩)) (go_keep)
          (first
            | (go_at_call 40; refine (CE.out _ ?_).mono ?_; (first | exact (Below.refl _ _).drew | exact Below.refl _ _); rintro e w5 ⟨ua, un, uc, rfl, OU, l1, l2, l3⟩))
        all_goals
          have HO1 := hide' (own_mono HO.out OU.out.2)
          clear CE OC l1 l2 l3
          go_wp2_with (at_builtin; refine appAllB rfl (.tmp 47) (.tmp 48) rfl w2 _ acc rfl HO1.out _ _ rfl OU.out.1 (by have h1 := BD.out; have h2 := HB.out; have h3 := HM.out; have h4 := LE.out; (try dsimp only at h1); omega) ?_; intro v2 w6 ho2; have HO2 := hide' ho2; clear ho2)
          go_roundw
          case rel => exact ⟨k + 1, _, by omega, by go_num, HO2, HE2, by unfold Hid; have h1 := BD.out; have h2 := HB.out; have h4 := LE.out; (try dsimp only at h1); rw [List.length_append]; omega⟩
          case measure => simp [intOf]; omega
      · have HE2 : Hid (encG 0 rs = ([], (encOf (k : Int) q1 q2 q3).2)) := by
          unfold Hid; rw [HE.out, D.out]; exact encH_bad (r := (q0, q1, q2, q3)) hz
        have AD : Hid (rewT rs (t, c) = ((t, c), (encOf (k : Int) q1 q2 q3).2)) := by unfold Hid rewT; rw [HE2.out, if_neg hz]
        have dz : ((encOf (k : Int) q1 q2 q3).2 != 0) = true := by simpa using hz
        generalize (encOf (k : Int) q1 q2 q3).2 = er at CE AD dz hz
        go_wp2_with fail
        go_region_held3 (fun w' => w'.cell? ⟨b, off + k * 4 + 1, none⟩ = some (.int .i64 q1) ∧ w'.cell? ⟨b, off + k * 4 + 2, none⟩ = some (.int .i64 q2) ∧ w'.cell? ⟨b, off + k * 4 + 3, none⟩ = some (.string ⟨q3.toArray⟩)) (go_keep)
          (first
            | (go_at_call 40; refine (CE.out _ ?_).mono ?_; (first | exact (Below.refl _ _).drew | exact Below.refl _ _); rintro e w5 ⟨ua, un, uc, rfl, OU, l1, l2, l3⟩))
        all_goals
          have P5 := hide' (sti_below IR.out OU.out.2)
          clear CE OC l1 l2 l3 OU IR HO HE2 hz
          have J3 : W0.heap.size ≠ W0.heap.size + 1 := by omega
          have J4 : W0.heap.size + 1 ≠ W0.heap.size := by omega
          obtain ⟨⟨k0, k1, k2, k3, k4, k5, k6, k7, k8, k9⟩, -⟩ := cells_ten P5.out.b0
          obtain ⟨⟨g0, g1, g2, g3, g4, g5, g6, g7, g8, g9⟩, ⟨f0, f1, f2, f3, f4, f5, f6, f7, f8, f9⟩⟩ := cells_ten P5.out.b1
          have EN := sti_end P5.out (us := [.slice a0 n0 c0, .slice a1 n1 c1, .slice a2 n2 c2, .slice a3 n3 c3, .slice a4 n4 c4, .int .i64 t.room, .slice a6 n6 c6, .int .i64 t.power, .int .i64 (t.n : Int), .int .i64 c]) rfl
          simp only [putFrom] at EN
          have ENH := hide' EN
          clear EN P5
          go_wp2_with fail
          obtain ⟨⟨z0, z1, z2, z3, z4, z5, z6, z7, z8, z9⟩, -⟩ := cells_ten ENH.out.1
          exact bodyPost_ret (v := .tuple #[.agg #[.slice a0 n0 c0, .slice a1 n1 c1, .slice a2 n2 c2, .slice a3 n3 c3, .slice a4 n4 c4, .int .i64 t.room, .slice a6 n6 c6, .int .i64 t.power, .int .i64 (t.n : Int), .int .i64 c], .int .i64 er]) (by simp [results, Tryz.results13, go_sem, z0, z1, z2, z3, z4, z5, z6, z7, z8, z9]) rfl (by rw [AD.out]; exact ⟨⟨a0, n0, c0⟩, ⟨a1, n1, c1⟩, ⟨a2, n2, c2⟩, ⟨a3, n3, c3⟩, ⟨a4, n4, c4⟩, ⟨a6, n6, c6⟩, t, rfl, rfl, ENH.out.2.2, ENH.out.2.1⟩)
    · obtain rfl : k = n := by omega
      have HE2 : Hid (encG 0 rs = (acc, 0)) := by
        unfold Hid; rw [HE.out, List.drop_eq_nil_of_le (by rw [N.out]; omega)]; show encH acc ([], 0) = _; unfold encH; rw [if_pos rfl, List.append_nil]
      have AD : Hid (rewT rs (t, c) = (((if 1 ≤ (stpsT [⟨1, nwN, [], []⟩, ⟨2, nwN, [], acc⟩, ⟨3, nwN, [], []⟩, ⟨5, nwN, lgN, []⟩, ⟨4, [], [], []⟩] t).2.1 ∧ (stpsT [⟨1, nwN, [], []⟩, ⟨2, nwN, [], acc⟩, ⟨3, nwN, [], []⟩, ⟨5, nwN, lgN, []⟩, ⟨4, [], [], []⟩] t).2.1 < 4 then ((stpsT [⟨1, nwN, [], []⟩, ⟨2, nwN, [], acc⟩, ⟨3, nwN, [], []⟩, ⟨5, nwN, lgN, []⟩, ⟨4, [], [], []⟩] t).1.step ⟨6, nwN, [], []⟩).1 else (stpsT [⟨1, nwN, [], []⟩, ⟨2, nwN, [], acc⟩, ⟨3, nwN, [], []⟩, ⟨5, nwN, lgN, []⟩, ⟨4, [], [], []⟩] t).1), if 4 ≤ (stpsT [⟨1, nwN, [], []⟩, ⟨2, nwN, [], acc⟩, ⟨3, nwN, [], []⟩, ⟨5, nwN, lgN, []⟩, ⟨4, [], [], []⟩] t).2.1 then (k : Int) else c), (stpsT [⟨1, nwN, [], []⟩, ⟨2, nwN, [], acc⟩, ⟨3, nwN, [], []⟩, ⟨5, nwN, lgN, []⟩, ⟨4, [], [], []⟩] t).2.2)) := by
        unfold Hid rewT
        rw [HE2.out, if_pos rfl, rew_ref, N.out]
        rfl
      have LA : Hid (acc.length ≤ bulkR rs) := by unfold Hid; have := HB.out; omega
      obtain ⟨ba, bn, bc, hbv⟩ := own_sl HO.out
      subst hbv
      have HH := hide' (holdsB_own HO.out)
      clear HE HE2 HB HO HC hlt
      have I4 := hide' (sti_below IR.out (below_alloc' wr (.cells #[.int .i64 1, .string ⟨#[108, 111, 103, 46, 110, 101, 119]⟩, .string ⟨#[]⟩, .slice none 0 0, .int .i64 2, .string ⟨#[108, 111, 103, 46, 110, 101, 119]⟩, .string ⟨#[]⟩, .slice ba bn bc, .int .i64 3, .string ⟨#[108, 111, 103, 46, 110, 101, 119]⟩, .string ⟨#[]⟩, .slice none 0 0, .int .i64 5, .string ⟨#[108, 111, 103, 46, 110, 101, 119]⟩, .string ⟨#[108, 111, 103]⟩, .slice none 0 0, .int .i64 4, .string ⟨#[]⟩, .string ⟨#[]⟩, .slice none 0 0] 83)))
      have HOP := ho_lit wr [((1, nwN, [], []), .slice none 0 0), ((2, nwN, [], acc), .slice ba bn bc), ((3, nwN, [], []), .slice none 0 0), ((5, nwN, lgN, []), .slice none 0 0), ((4, [], [], []), .slice none 0 0)] 83 (fun p hp => by
        simp only [List.mem_cons, List.not_mem_nil, or_false] at hp
        rcases hp with rfl | rfl | rfl | rfl | rfl
        · exact holdsB_none _
        · exact HH.out
        · exact holdsB_none _
        · exact holdsB_none _
        · exact holdsB_none _)
      have hbk : m + bulkO [(1, nwN, [], []), (2, nwN, [], acc), (3, nwN, [], []), (5, nwN, lgN, []), (4, [], [], [])] ≤ 80000000 := by have := LA.out; have := HM.out; simp only [bulkO, lgN, nwN, List.length_cons, List.length_nil]; omega
      have KEEP := hide' (stps_keeps [(1, nwN, [], []), (2, nwN, [], acc), (3, nwN, [], []), (5, nwN, lgN, []), (4, [], [], [])] IR.out.wf IR.out.bd)
      have BB : Hid (bulkO [(1, nwN, [], []), (2, nwN, [], acc), (3, nwN, [], []), (5, nwN, lgN, []), (4, [], [], [])] ≤ bulkR rs + 200) := by unfold Hid; have := LA.out; simp only [bulkO, lgN, nwN, List.length_cons, List.length_nil]; omega
      have CS := hide' (stepsRC (S := fun k => S k ∨ k = W0.heap.size ∨ k = W0.heap.size + 1) (sti_lt I4.out HS.out) I4.out.ref I4.out.wf m I4.out.bd FL.out _ _ HOP (fun o h => by
        simp only [List.map_cons, List.map_nil, List.mem_cons, List.not_mem_nil, or_false] at h
        rcases h with rfl | rfl | rfl | rfl | rfl
        · exact ⟨(by decide : (1 : Int) ≤ 1), (by decide : (1 : Int) ≤ 6)⟩
        · exact ⟨(by decide : (1 : Int) ≤ 2), (by decide : (2 : Int) ≤ 6)⟩
        · exact ⟨(by decide : (1 : Int) ≤ 3), (by decide : (3 : Int) ≤ 6)⟩
        · exact ⟨(by decide : (1 : Int) ≤ 5), (by decide : (5 : Int) ≤ 6)⟩
        · exact ⟨(by decide : (1 : Int) ≤ 4), (by decide : (4 : Int) ≤ 6)⟩) hbk)
      obtain ⟨⟨k0, k1, k2, k3, k4, k5, k6, k7, k8, k9⟩, -⟩ := cells_ten IR.out.b0
      clear HOP hbk HH
      go_wp2_with fail
      refine CS.out.mono ?_
      rintro e w5 ⟨v', rfl, hr, hb⟩
      have hop : opsD [(1, nwN, [], []), (2, nwN, [], acc), (3, nwN, [], []), (5, nwN, lgN, []), (4, [], [], [])] = [⟨1, nwN, [], []⟩, ⟨2, nwN, [], acc⟩, ⟨3, nwN, [], []⟩, ⟨5, nwN, lgN, []⟩, ⟨4, [], [], []⟩] := rfl
      simp only [List.map_cons, List.map_nil] at hr ⊢
      rw [hop] at hr KEEP ⊢
      generalize stpsT [⟨1, nwN, [], []⟩, ⟨2, nwN, [], acc⟩, ⟨3, nwN, [], []⟩, ⟨5, nwN, lgN, []⟩, ⟨4, [], [], []⟩] t = Q at hr KEEP AD ⊢
      obtain ⟨s', nn, er⟩ := Q
      dsimp only at hr KEEP AD ⊢
      obtain ⟨⟨ra0, rn0, rc0⟩, ⟨ra1, rn1, rc1⟩, ⟨ra2, rn2, rc2⟩, ⟨ra3, rn3, rc3⟩, ⟨ra4, rn4, rc4⟩, ⟨ra6, rn6, rc6⟩, ev, -⟩ := _root_.id hr
      unfold stV at ev
      dsimp only at ev
      subst ev
      have I6 := hide' (sti_below (sti_ref I4.out hb hr KEEP.out.1 KEEP.out.2.1) (below_alloc' w5 (.cells #[.slice ra0 rn0 rc0, .slice ra1 rn1 rc1, .slice ra2 rn2 rc2, .slice ra3 rn3 rc3, .slice ra4 rn4 rc4, .int .i64 s'.room, .slice ra6 rn6 rc6, .int .i64 s'.power, .int .i64 (s'.n : Int)] 38)))
      have P6 := sti_putN I6.out [.slice ra0 rn0 rc0, .slice ra1 rn1 rc1, .slice ra2 rn2 rc2, .slice ra3 rn3 rc3, .slice ra4 rn4 rc4, .int .i64 s'.room, .slice ra6 rn6 rc6, .int .i64 s'.power, .int .i64 (s'.n : Int)] (by simp)
      simp only [putFrom, List.cons_append, List.nil_append, List.length_cons, List.length_nil, List.drop_succ_cons, List.drop_zero] at P6
      have P6H := hide' P6
      have KF := hide' KEEP.out.2.2
      have J3 : W0.heap.size ≠ W0.heap.size + 1 := by omega
      have J4 : W0.heap.size + 1 ≠ W0.heap.size := by omega
      obtain ⟨⟨p0, p1, p2, p3, p4, p5, p6, p7, p8, p9⟩, ⟨r0, r1, r2, r3, r4, r5, r6, r7, r8, r9⟩⟩ := cells_ten I6.out.b0
      clear hr hb CS KEEP I4 hop P6 I6 IR LA k0 k1 k2 k3 k4 k5 k6 k7 k8 k9
      go_upto_region 11 with fail
      generalize ((((((((((w5.alloc (.cells #[.slice ra0 rn0 rc0, .slice ra1 rn1 rc1, .slice ra2 rn2 rc2, .slice ra3 rn3 rc3, .slice ra4 rn4 rc4, .int .i64 s'.room, .slice ra6 rn6 rc6, .int .i64 s'.power, .int .i64 (s'.n : Int)] 38)).setCell ⟨W0.heap.size, 0, none⟩ (.slice ra0 rn0 rc0)).setCell ⟨W0.heap.size, 1, none⟩ (.slice ra1 rn1 rc1)).setCell ⟨W0.heap.size, 2, none⟩ (.slice ra2 rn2 rc2)).setCell ⟨W0.heap.size, 3, none⟩ (.slice ra3 rn3 rc3)).setCell ⟨W0.heap.size, 4, none⟩ (.slice ra4 rn4 rc4)).setCell ⟨W0.heap.size, 5, none⟩ (.int .i64 s'.room)).setCell ⟨W0.heap.size, 6, none⟩ (.slice ra6 rn6 rc6)).setCell ⟨W0.heap.size, 7, none⟩ (.int .i64 s'.power)).setCell ⟨W0.heap.size, 8, none⟩ (.int .i64 (s'.n : Int))) = wA at P6H ⊢
      clear p0 p1 p2 p3 p4 p5 p6 p7 p8 p9 r0 r1 r2 r3 r4 r5 r6 r7 r8 r9
      by_cases h4 : 4 ≤ nn
      · have d4 : decide ((4 : Int) ≤ (nn : Int)) = true := by simp; omega
        have d1 : decide ((1 : Int) ≤ (nn : Int)) = true := by simp; omega
        have dl : decide ((nn : Int) < 4) = false := by simp; omega
        have P7 := sti_set P6H.out 9 (by simp) (.int .i64 (k : Int))
        simp only [List.set_cons_succ, List.set_cons_zero] at P7
        have P7H := hide' P7
        obtain ⟨⟨-, -, -, -, -, -, -, -, -, q9⟩, ⟨-, -, -, -, -, -, -, -, -, t9⟩⟩ := cells_ten P6H.out.b0
        rw [if_neg (by omega), if_pos h4] at AD
        clear P7 P6H
        go_upto_region 13 with fail
        generalize (wA.setCell ⟨W0.heap.size, 9, none⟩ (.int .i64 (k : Int))) = wB at P7H ⊢
        clear q9 t9
        obtain ⟨⟨k0, k1, k2, k3, k4, k5, k6, k7, k8, k9⟩, -⟩ := cells_ten P7H.out.b0
        obtain ⟨⟨g0, g1, g2, g3, g4, g5, g6, g7, g8, g9⟩, ⟨f0, f1, f2, f3, f4, f5, f6, f7, f8, f9⟩⟩ := cells_ten P7H.out.b1
        have EN := sti_end P7H.out (us := [.slice ra0 rn0 rc0, .slice ra1 rn1 rc1, .slice ra2 rn2 rc2, .slice ra3 rn3 rc3, .slice ra4 rn4 rc4, .int .i64 s'.room, .slice ra6 rn6 rc6, .int .i64 s'.power, .int .i64 (s'.n : Int), .int .i64 (k : Int)]) rfl
        simp only [putFrom] at EN
        have ENH := hide' EN
        clear EN P7H
        go_wp2_with fail
        obtain ⟨⟨z0, z1, z2, z3, z4, z5, z6, z7, z8, z9⟩, -⟩ := cells_ten ENH.out.1
        exact bodyPost_ret (v := .tuple #[.agg #[.slice ra0 rn0 rc0, .slice ra1 rn1 rc1, .slice ra2 rn2 rc2, .slice ra3 rn3 rc3, .slice ra4 rn4 rc4, .int .i64 s'.room, .slice ra6 rn6 rc6, .int .i64 s'.power, .int .i64 (s'.n : Int), .int .i64 (k : Int)], .int .i64 er]) (by simp [results, Tryz.results13, go_sem, z0, z1, z2, z3, z4, z5, z6, z7, z8, z9]) rfl (by rw [AD.out]; exact ⟨⟨ra0, rn0, rc0⟩, ⟨ra1, rn1, rc1⟩, ⟨ra2, rn2, rc2⟩, ⟨ra3, rn3, rc3⟩, ⟨ra4, rn4, rc4⟩, ⟨ra6, rn6, rc6⟩, s', rfl, rfl, ENH.out.2.2, ENH.out.2.1⟩)
      · have d4 : decide ((4 : Int) ≤ (nn : Int)) = false := by simp; omega
        rw [if_neg h4] at AD
        by_cases h1 : 1 ≤ nn
        · have d1 : decide ((1 : Int) ≤ (nn : Int)) = true := by simp; omega
          have dl : decide ((nn : Int) < 4) = true := by simp; omega
          rw [if_pos ⟨h1, by omega⟩] at AD
          obtain ⟨⟨k0, k1, k2, k3, k4, k5, k6, k7, k8, k9⟩, -⟩ := cells_ten P6H.out.b0
          have CT := hide' (stepRC (S := fun k => S k ∨ k = W0.heap.size ∨ k = W0.heap.size + 1) (sti_lt P6H.out HS.out) P6H.out.ref P6H.out.wf (bd_mono P6H.out.bd (by have := BB.out; have := HM.out; omega)) 6 (by decide) ⟨#[108, 111, 103, 46, 110, 101, 119]⟩ ⟨#[]⟩ none 0 0 [] (holdsB_none _) (by decide) (by decide) (by decide) (by rw [KF.out]; exact FL.out))
          have e6 : (⟨6, (⟨#[108, 111, 103, 46, 110, 101, 119]⟩ : ByteArray).data.toList, (⟨#[]⟩ : ByteArray).data.toList, []⟩ : DOp) = ⟨6, nwN, [], []⟩ := rfl
          rw [e6] at CT
          have WF2 := hide' (wf_step P6H.out.wf ⟨6, nwN, [], []⟩)
          have BD2 := hide' (bd_step P6H.out.bd ⟨6, nwN, [], []⟩)
          clear e6
          go_wp2_with fail
          refine CT.out.mono ?_
          rintro e w8 ⟨v', rfl, hr, hb⟩
          obtain ⟨s'', hs''⟩ : ∃ s'', s'' = (s'.step ⟨6, nwN, [], []⟩).1 := ⟨_, rfl⟩
          rw [← hs''] at hr AD WF2 BD2
          generalize (s'.step ⟨6, nwN, [], []⟩).2 = er6
          obtain ⟨⟨qa0, qn0, qc0⟩, ⟨qa1, qn1, qc1⟩, ⟨qa2, qn2, qc2⟩, ⟨qa3, qn3, qc3⟩, ⟨qa4, qn4, qc4⟩, ⟨qa6, qn6, qc6⟩, ev, -⟩ := _root_.id hr
          unfold stV at ev
          dsimp only at ev
          subst ev
          have I8 := hide' (sti_below (sti_ref P6H.out hb hr WF2.out BD2.out) (below_alloc' w8 (.cells #[.slice qa0 qn0 qc0, .slice qa1 qn1 qc1, .slice qa2 qn2 qc2, .slice qa3 qn3 qc3, .slice qa4 qn4 qc4, .int .i64 s''.room, .slice qa6 qn6 qc6, .int .i64 s''.power, .int .i64 (s''.n : Int)] 38)))
          have P8 := sti_putN I8.out [.slice qa0 qn0 qc0, .slice qa1 qn1 qc1, .slice qa2 qn2 qc2, .slice qa3 qn3 qc3, .slice qa4 qn4 qc4, .int .i64 s''.room, .slice qa6 qn6 qc6, .int .i64 s''.power, .int .i64 (s''.n : Int)] (by simp)
          simp only [putFrom, List.cons_append, List.nil_append, List.length_cons, List.length_nil, List.drop_succ_cons, List.drop_zero] at P8
          have P8H := hide' P8
          obtain ⟨⟨p0, p1, p2, p3, p4, p5, p6, p7, p8, p9⟩, ⟨r0, r1, r2, r3, r4, r5, r6, r7, r8, r9⟩⟩ := cells_ten I8.out.b0
          clear hr hb CT P8 I8 P6H hs'' k0 k1 k2 k3 k4 k5 k6 k7 k8 k9 WF2 BD2
          go_upto_region 16 with fail
          generalize ((((((((((w8.alloc (.cells #[.slice qa0 qn0 qc0, .slice qa1 qn1 qc1, .slice qa2 qn2 qc2, .slice qa3 qn3 qc3, .slice qa4 qn4 qc4, .int .i64 s''.room, .slice qa6 qn6 qc6, .int .i64 s''.power, .int .i64 (s''.n : Int)] 38)).setCell ⟨W0.heap.size, 0, none⟩ (.slice qa0 qn0 qc0)).setCell ⟨W0.heap.size, 1, none⟩ (.slice qa1 qn1 qc1)).setCell ⟨W0.heap.size, 2, none⟩ (.slice qa2 qn2 qc2)).setCell ⟨W0.heap.size, 3, none⟩ (.slice qa3 qn3 qc3)).setCell ⟨W0.heap.size, 4, none⟩ (.slice qa4 qn4 qc4)).setCell ⟨W0.heap.size, 5, none⟩ (.int .i64 s''.room)).setCell ⟨W0.heap.size, 6, none⟩ (.slice qa6 qn6 qc6)).setCell ⟨W0.heap.size, 7, none⟩ (.int .i64 s''.power)).setCell ⟨W0.heap.size, 8, none⟩ (.int .i64 (s''.n : Int))) = wC at P8H ⊢
          clear p0 p1 p2 p3 p4 p5 p6 p7 p8 p9 r0 r1 r2 r3 r4 r5 r6 r7 r8 r9
          obtain ⟨⟨k0, k1, k2, k3, k4, k5, k6, k7, k8, k9⟩, -⟩ := cells_ten P8H.out.b0
          obtain ⟨⟨g0, g1, g2, g3, g4, g5, g6, g7, g8, g9⟩, ⟨f0, f1, f2, f3, f4, f5, f6, f7, f8, f9⟩⟩ := cells_ten P8H.out.b1
          have EN := sti_end P8H.out (us := [.slice qa0 qn0 qc0, .slice qa1 qn1 qc1, .slice qa2 qn2 qc2, .slice qa3 qn3 qc3, .slice qa4 qn4 qc4, .int .i64 s''.room, .slice qa6 qn6 qc6, .int .i64 s''.power, .int .i64 (s''.n : Int), .int .i64 c]) rfl
          simp only [putFrom] at EN
          have ENH := hide' EN
          clear EN P8H
          go_wp2_with fail
          obtain ⟨⟨z0, z1, z2, z3, z4, z5, z6, z7, z8, z9⟩, -⟩ := cells_ten ENH.out.1
          exact bodyPost_ret (v := .tuple #[.agg #[.slice qa0 qn0 qc0, .slice qa1 qn1 qc1, .slice qa2 qn2 qc2, .slice qa3 qn3 qc3, .slice qa4 qn4 qc4, .int .i64 s''.room, .slice qa6 qn6 qc6, .int .i64 s''.power, .int .i64 (s''.n : Int), .int .i64 c], .int .i64 er]) (by simp [results, Tryz.results13, go_sem, z0, z1, z2, z3, z4, z5, z6, z7, z8, z9]) rfl (by rw [AD.out]; exact ⟨⟨qa0, qn0, qc0⟩, ⟨qa1, qn1, qc1⟩, ⟨qa2, qn2, qc2⟩, ⟨qa3, qn3, qc3⟩, ⟨qa4, qn4, qc4⟩, ⟨qa6, qn6, qc6⟩, s'', rfl, rfl, ENH.out.2.2, ENH.out.2.1⟩)
        · have d1 : decide ((1 : Int) ≤ (nn : Int)) = false := by simp; omega
          rw [if_neg (by omega)] at AD
          obtain ⟨⟨k0, k1, k2, k3, k4, k5, k6, k7, k8, k9⟩, -⟩ := cells_ten P6H.out.b0
          obtain ⟨⟨g0, g1, g2, g3, g4, g5, g6, g7, g8, g9⟩, ⟨f0, f1, f2, f3, f4, f5, f6, f7, f8, f9⟩⟩ := cells_ten P6H.out.b1
          have EN := sti_end P6H.out (us := [.slice ra0 rn0 rc0, .slice ra1 rn1 rc1, .slice ra2 rn2 rc2, .slice ra3 rn3 rc3, .slice ra4 rn4 rc4, .int .i64 s'.room, .slice ra6 rn6 rc6, .int .i64 s'.power, .int .i64 (s'.n : Int), .int .i64 c]) rfl
          simp only [putFrom] at EN
          have ENH := hide' EN
          clear EN P6H
          go_wp2_with fail
          obtain ⟨⟨z0, z1, z2, z3, z4, z5, z6, z7, z8, z9⟩, -⟩ := cells_ten ENH.out.1
          exact bodyPost_ret (v := .tuple #[.agg #[.slice ra0 rn0 rc0, .slice ra1 rn1 rc1, .slice ra2 rn2 rc2, .slice ra3 rn3 rc3, .slice ra4 rn4 rc4, .int .i64 s'.room, .slice ra6 rn6 rc6, .int .i64 s'.power, .int .i64 (s'.n : Int), .int .i64 c], .int .i64 er]) (by simp [results, Tryz.results13, go_sem, z0, z1, z2, z3, z4, z5, z6, z7, z8, z9]) rfl (by rw [AD.out]; exact ⟨⟨ra0, rn0, rc0⟩, ⟨ra1, rn1, rc1⟩, ⟨ra2, rn2, rc2⟩, ⟨ra3, rn3, rc3⟩, ⟨ra4, rn4, rc4⟩, ⟨ra6, rn6, rc6⟩, s', rfl, rfl, ENH.out.2.2, ENH.out.2.1⟩)
end Go.Proofs.YtijnjgnckipghaaGreat
namespace Go.Proofs.YtijnjgnckipghaaGreat
open Go.RowKit Go.Shelf
theorem list_once {s : Dk} (h : Wf s) {i j : Nat} (hij : i < j) (hj : j < s.list.length) (hi : s.list[i]'(by omega) = nwN) : s.list[j] ≠ nwN := by
  intro e
  have key : ∀ (l : List Nm), l.Pairwise (fun a b => lessN a b = true) → ∀ (i j : Nat) (hij : i < j) (hj : j < l.length), l[i]'(by omega) = nwN → l[j] = nwN → False := by
    intro l hp i j hij hj e1 e2
    have := List.pairwise_iff_getElem.1 hp i j (by omega) hj hij
    rw [e1, e2] at this
    exact absurd this (by decide)
  have hp : s.list.Pairwise (fun a b => lessN a b = true) := by
    unfold Dk.list
    split
    · exact List.Pairwise.nil
    · exact List.Pairwise.map _ (fun a b h => h) h.now.1
  exact key s.list hp i j hij hj hi e
/-- the names up to j were looked at -/
def RemI (t s : Dk) (j : Nat) : Prop := (s = t ∧ ∀ i, i < j → ∀ h : i < t.list.length, t.list[i] ≠ nwN) ∨ (s = (t.step ⟨6, nwN, [], []⟩).1 ∧ (t.step ⟨6, nwN, [], []⟩).2 = 0 ∧ ∃ i, i < j ∧ ∃ h : i < t.list.length, t.list[i] = nwN)
theorem remI_end {t s : Dk} {j : Nat} (h : RemI t s j) (hj : j = t.list.length) : remU (t, 0) = ((s, 0), 0) := by
  unfold remU
  rcases h with ⟨rfl, h⟩ | ⟨rfl, h2, i, _, hi, e⟩
  · rw [if_neg (fun hm => by
      obtain ⟨i, hi, e⟩ := List.mem_iff_getElem.1 hm
      have hi' : i < s.list.length := hi
      exact h i (by omega) hi' e)]
  · rw [if_pos (by rw [← e]; exact List.getElem_mem hi)]
    unfold opT
    dsimp only
    rw [h2]
theorem remI_bad {t s : Dk} {j : Nat} (h : RemI t s j) (hw : Wf t) (hj : j < t.list.length) (e : t.list[j] = nwN) : s = t ∧ remU (t, 0) = (((t.step ⟨6, nwN, [], []⟩).1, 0), (t.step ⟨6, nwN, [], []⟩).2) := by
  rcases h with ⟨rfl, h⟩ | ⟨rfl, h2, i, h3, hi, e2⟩
  · refine ⟨rfl, ?_⟩
    unfold remU
    rw [if_pos (by rw [← e]; exact List.getElem_mem hj)]
    rfl
  · exact absurd e (list_once hw h3 hj e2)
theorem remI_ok {t : Dk} {j : Nat} (hj : j < t.list.length) (e : t.list[j] = nwN) (h0 : (t.step ⟨6, nwN, [], []⟩).2 = 0) : RemI t (t.step ⟨6, nwN, [], []⟩).1 (j + 1) := .inr ⟨rfl, h0, j, by omega, hj, e⟩
theorem remI_no {t s : Dk} {j : Nat} (h : RemI t s j) (hj : j < t.list.length) (e : t.list[j] ≠ nwN) : RemI t s (j + 1) := by
  rcases h with ⟨h1, h2⟩ | ⟨h1, h2, i, h3, h4⟩
  · refine .inl ⟨h1, fun i hi hl => ?_⟩
    by_cases he : i = j
    · subst he; exact e
    · exact h2 i (by omega) hl
  · exact .inr ⟨h1, h2, i, by omega, h4⟩
theorem remI_fails {t s : Dk} {j : Nat} (h : RemI t s j) : s.fails = t.fails := by
  rcases h with ⟨rfl, _⟩ | ⟨rfl, _⟩
  · rfl
  · exact step_fails _ _
/-- the document's Open of a disk -/
noncomputable def refOpen (t : Dk) : LSt × RL × Int := if (remU (t, 0)).2 = 0 then refRd (remU (t, 0)).1.1 else (((remU (t, 0)).1.1, 0), [], (remU (t, 0)).2)
theorem refOpen_bad {t s : Dk} {er : Int} (h : remU (t, 0) = ((s, 0), er)) (he : er ≠ 0) : refOpen t = ((s, 0), [], er) := by
  unfold refOpen
  rw [h, if_neg he]
theorem refOpen_ok {t s : Dk} (h : remU (t, 0) = ((s, 0), 0)) : refOpen t = refRd s := by
  unfold refOpen
  rw [h, if_pos rfl]
theorem ownS_baseX {w w1 w2 : World} {v : Value} {ss : List (List UInt8)} (h : OwnS w1 v ss w2) (hb : Below w.heap.size w w1) : OwnS w v ss w2 := ⟨row_base h.1 hb.size, hb.trans (h.2.mono hb.size)⟩
set_option maxRecDepth 20000 in
set_option maxHeartbeats 4000000 in
theorem listRO {w : World} {v : Value} {s : Dk} (h : RefS w v s) (hl : s.now.length ≤ 1000000000) :
    Calls Tryz.prog 28 #[v] w fun e w' => ∃ u, e = .returned u ∧ OwnS w u s.list w' := by
  obtain ⟨⟨a0, n0, c0⟩, ⟨a1, n1, c1⟩, ⟨a2, n2, c2⟩, ⟨a3, n3, c3⟩, ⟨a4, n4, c4⟩, ⟨a6, n6, c6⟩, rfl, h⟩ := h
  obtain ⟨hn, _, _, hc⟩ := nm_open h.now
  replace hn : n0 = s.now.length := hn
  unfold stV
  dsimp only
  have HR := hide' h
  have HC := hide' hc
  have HN := hide' hn
  have hl0 : n0 ≤ 1000000000 := by omega
  have BX := hide' (box9 w (.slice a0 n0 c0) (.slice a1 n1 c1) (.slice a2 n2 c2) (.slice a3 n3 c3) (.slice a4 n4 c4) (.int .i64 s.room) (.slice a6 n6 c6) (.int .i64 s.power) (.int .i64 (s.n : Int)) 38)
  have ZW : Hid ((w.alloc (.cells #[.slice a0 n0 c0, .slice a1 n1 c1, .slice a2 n2 c2, .slice a3 n3 c3, .slice a4 n4 c4, .int .i64 s.room, .slice a6 n6 c6, .int .i64 s.power, .int .i64 (s.n : Int)] 38)).heap.size = w.heap.size + 1) := by unfold Hid; simp
  rename_i y1 y2
  clear y1 y2 h hc hn hl
  go_enter Tryz.func28, Tryz.ntmps28
  go_wp2_with fail
  generalize w.alloc (.cells #[.slice a0 n0 c0, .slice a1 n1 c1, .slice a2 n2 c2, .slice a3 n3 c3, .slice a4 n4 c4, .int .i64 s.room, .slice a6 n6 c6, .int .i64 s.power, .int .i64 (s.n : Int)] 38) = W at BX ZW ⊢
  have RS : Hid (∀ Wx, Below w.heap.size w Wx → RefS Wx (.agg #[.slice a0 n0 c0, .slice a1 n1 c1, .slice a2 n2 c2, .slice a3 n3 c3, .slice a4 n4 c4, .int .i64 s.room, .slice a6 n6 c6, .int .i64 s.power, .int .i64 (s.n : Int)]) s) := fun Wx hb => ⟨⟨a0, n0, c0⟩, ⟨a1, n1, c1⟩, ⟨a2, n2, c2⟩, ⟨a3, n3, c3⟩, ⟨a4, n4, c4⟩, ⟨a6, n6, c6⟩, rfl, refV_mono HR.out hb⟩
  go_loopw [3, 4] (fun u i wr => ∃ k : Nat, k ≤ n0 ∧ i = .int .i64 k ∧ Hid (0 < k → s.down = false) ∧ Hid (OwnS W u ((s.now.take k).map (fun p => p.1)) wr)) (fun _ i _ => n0 - (intOf i).toNat)
  case atStart => exact ⟨0, by omega, rfl, fun h => absurd h (Nat.lt_irrefl _), by have h := ownS_empty W; rw [ZW.out] at h; exact h⟩
  case round =>
    obtain ⟨k, hk, rfl, hdk, HO⟩ := hrel
    have KB := hide' (cells_below BX.out.1 HO.out.2)
    have BW := hide' (BX.out.2.trans (HO.out.2.mono BX.out.2.size))
    obtain ⟨k0, k1, k2, k3, k4, k5, k6, k7, k8⟩ := cells_9 KB.out
    by_cases hlt : k < n0
    · have hk' : k < s.now.length := by rw [← HN.out]; exact hlt
      have CD := hide' (downRC (RS.out wr BW.out))
      have qlt : decide ((k : Int) < (n0 : Int)) = true := by simp; omega
      cases hdn : s.down with
      | true =>
        have E : Hid (s.list = (s.now.take k).map (fun p => p.1)) := by
          have e0 : k = 0 := by
            rcases Nat.eq_zero_or_pos k with h0 | h0
            · exact h0
            · rw [hdk.out h0] at hdn; cases hdn
          unfold Hid Dk.list
          rw [if_pos hdn, e0]
          rfl
        rw [hdn] at CD
        clear hdn hdk
        go_wp2_with fail
        refine CD.out.mono ?_
        rintro e w1 ⟨rfl, hb1⟩
        have HO1 := hide' (ownS_mono HO.out hb1)
        clear CD hb1
        go_wp2_with fail
        go_ret
        rw [E.out]
        exact ⟨_, rfl, ownS_baseX HO1.out BX.out.2⟩
      | false =>
        have DN := hide' hdn
        rw [hdn] at CD
        clear hdn
        obtain ⟨b, off, rfl, hb, hcell⟩ := HC.out (by omega)
        have y1 := (hcell k hk').1
        unfold S at y1
        have Y1 : Hid (∀ Wx, Below wr.heap.size wr Wx → Wx.cell? ⟨b, off + k * 2, none⟩ = some (.string ⟨((s.now[k]'hk').1).toArray⟩)) := fun Wx hbx => by
          have hbw := BW.out.trans (hbx.mono BW.out.size)
          rw [hbw.cell (p := ⟨b, off + k * 2, none⟩) hb]
          exact y1
        have E2 : Hid ((s.now.take (k + 1)).map (fun p => p.1) = (s.now.take k).map (fun p => p.1) ++ [(s.now[k]'hk').1]) := by unfold Hid; rw [List.take_succ_eq_append_getElem hk', List.map_append]; rfl
        have hln : Hid (((s.now.take k).map (fun p => p.1)).length = k) := by unfold Hid; simp; omega
        clear hcell y1
        go_wp2_with fail
        refine CD.out.mono ?_
        rintro e w1 ⟨rfl, hb1⟩
        have HO1 := hide' (ownS_mono HO.out hb1)
        have z1 := Y1.out w1 hb1
        obtain ⟨m0, m1, m2, m3, m4, m5, m6, m7, m8⟩ := cells_9 (cells_below KB.out hb1)
        clear CD hb1 k0 k1 k2 k3 k4 k5 k6 k7 k8
        go_wp2_with (at_builtin; refine appS rfl (.tmp 18) (.tmp 25) rfl W _ _ rfl HO1.out (s.now[k]'hk').1 rfl rfl (by rw [hln.out]; omega) ?_; intro v2 w2 hown2; rw [← E2.out] at hown2; have O2 := hide' hown2; clear hown2)
        go_roundw
        case rel => exact ⟨k + 1, by omega, by go_num, fun _ => (by first | exact DN.out | trivial), O2⟩
        case measure => simp [intOf]; omega
    · have E : Hid (s.list = (s.now.take k).map (fun p => p.1)) := by
        have et : s.now.take k = s.now := List.take_of_length_le (by rw [← HN.out]; omega)
        unfold Hid Dk.list
        rw [et]
        cases hdn : s.down with
        | false => rfl
        | true =>
          have e0 : k = 0 := by
            rcases Nat.eq_zero_or_pos k with h0 | h0
            · exact h0
            · rw [hdk.out h0] at hdn; cases hdn
          have : s.now = [] := List.eq_nil_of_length_eq_zero (by have := HN.out; omega)
          rw [this]
          rfl
      have qlt : decide ((k : Int) < (n0 : Int)) = false := by simp; omega
      clear hdk
      go_wp2_with fail
      go_ret
      rw [E.out]
      exact ⟨_, rfl, ownS_baseX HO.out BX.out.2⟩
theorem eqSx {s t : ByteArray} (h : ¬ s.data.toList = t.data.toList) : (s.toList == t.toList) = false := by
  rw [Lib.toList_data, Lib.toList_data]; simpa using h
theorem lt_of_block {W W' : World} {b : Nat} (h : W'.heap[b]? = W.heap[b]?) (hb : b < W.heap.size) : b < W'.heap.size := by
  rcases Nat.lt_or_ge b W'.heap.size with h1 | h1
  · exact h1
  · rw [Array.getElem?_eq_none h1, Array.getElem?_eq_getElem hb] at h; cases h
/-- what is needed at the end of Open -/
structure FrE (S : Nat → Prop) (W0 : World) (zs : List Value) (Q : Nat → Prop) (v : Value) (s : Dk) (W : World) : Prop where
  b1 : Blk (W0.heap.size + 1) W zs
  bel : Below W0.heap.size W0 W
  ref : RefS (mask (fun k => (S k ∨ k = W0.heap.size ∨ k = W0.heap.size + 1) ∨ Q k) W) v s
theorem fre_below {S Q : Nat → Prop} {W0 W W' : World} {zs : List Value} {v : Value} {s : Dk} (h : FrE S W0 zs Q v s W) (hb : Below W.heap.size W W') : FrE S W0 zs Q v s W' :=
  ⟨cells_below h.b1 hb, h.bel.trans (hb.mono h.bel.size), refS_sub h.ref (off_mask (off_of hb) (fun _ e => .inl e))⟩
theorem fre_put {S Q : Nat → Prop} {W0 W : World} {zs : List Value} {v : Value} {s : Dk} (h : FrE S W0 zs Q v s W) {b : Nat} (hQ : Q b) (hb : W0.heap.size + 2 ≤ b) (us : List Value) : FrE S W0 zs Q v s (putFrom b 0 W us) :=
  ⟨blk_putX (by omega) us 0 _ h.b1, below_put (by omega) us 0 W h.bel, refS_sub h.ref (off_mask (S := fun k => (S k ∨ k = W0.heap.size ∨ k = W0.heap.size + 1) ∨ Q k) (S' := fun k => (S k ∨ k = W0.heap.size ∨ k = W0.heap.size + 1) ∨ Q k) (off_put (.inr hQ) us 0 W) (fun _ e => .inl e))⟩
theorem fre_end {S Q : Nat → Prop} {W0 W : World} {zs us : List Value} {v : Value} {s : Dk} (h : FrE S W0 zs Q v s W) (hu : us.length = zs.length) : Blk (W0.heap.size + 1) (putFrom (W0.heap.size + 1) 0 W us) us ∧ Below W0.heap.size W0 (putFrom (W0.heap.size + 1) 0 W us) ∧ RefS (mask S (putFrom (W0.heap.size + 1) 0 W us)) v s := by
  have FB := cells_putFrom us 0 _ _ h.b1 (by omega)
  rw [List.drop_eq_nil_of_le (by omega)] at FB
  refine ⟨by simpa using FB, below_put (m := W0.heap.size) (b := W0.heap.size + 1) (Nat.le_succ _) us 0 _ h.bel, ?_⟩
  exact refS_sub h.ref (Sub.trans (off_mask (S := fun k => (S k ∨ k = W0.heap.size ∨ k = W0.heap.size + 1) ∨ Q k) (S' := fun k => (S k ∨ k = W0.heap.size ∨ k = W0.heap.size + 1) ∨ Q k) (off_put (.inl (.inr (.inr rfl))) us 0 _) (fun _ e => .inl e)) (mask_mono (S := S) (fun _ e => .inl (.inl e))))
theorem holdsR_put {W : World} {lv : Value} {rs : RL} (h : HoldsR W lv rs) {b : Nat} (hb : ∀ ad n c, lv = .slice (some ad) n c → ad.block ≠ b) (us : List Value) : HoldsR (putFrom b 0 W us) lv rs := by
  obtain ⟨ao, cap, rfl, h0, hcp, hc⟩ := h
  refine ⟨ao, cap, rfl, h0, hcp, fun hne => ?_⟩
  obtain ⟨g, off, rfl, hlt, hcell⟩ := hc hne
  have hof := off_put (S := fun k => k = b) rfl us 0 W
  have hg : g ≠ b := hb _ _ _ rfl
  have key : ∀ o, (putFrom b 0 W us).cell? ⟨g, o, none⟩ = W.cell? ⟨g, o, none⟩ := fun o => World.cell?_of_block (w := W) (a := ⟨g, o, none⟩) (hof.block g hlt hg)
  refine ⟨g, off, rfl, Nat.lt_of_lt_of_le hlt hof.size, fun j hj => ?_⟩
  obtain ⟨r0, r1, r2, r3⟩ := hcell j hj
  exact ⟨by rw [key]; exact r0, by rw [key]; exact r1, by rw [key]; exact r2, by rw [key]; exact r3⟩
def OpenR (S : Nat → Prop) (W0 : World) (Q : LSt × RL × Int) (e : Ending) (w' : World) : Prop := ∃ (y0 y1 y2 y3 y4 y6 : Sl) (s' : Dk) (lv : Value), s' = Q.1.1 ∧ e = .returned (.tuple #[.agg #[.slice y0.a y0.n y0.c, .slice y1.a y1.n y1.c, .slice y2.a y2.n y2.c, .slice y3.a y3.n y3.c, .slice y4.a y4.n y4.c, .int .i64 s'.room, .slice y6.a y6.n y6.c, .int .i64 s'.power, .int .i64 (s'.n : Int), .int .i64 Q.1.2], lv, .int .i64 Q.2.2]) ∧ HoldsR w' lv Q.2.1 ∧ RefS (mask S w') (.agg #[.slice y0.a y0.n y0.c, .slice y1.a y1.n y1.c, .slice y2.a y2.n y2.c, .slice y3.a y3.n y3.c, .slice y4.a y4.n y4.c, .int .i64 s'.room, .slice y6.a y6.n y6.c, .int .i64 s'.power, .int .i64 (s'.n : Int)]) s' ∧ Below W0.heap.size W0 w'
set_option maxRecDepth 20000 in
set_option maxHeartbeats 16000000 in
theorem openRC {S : Nat → Prop} {W0 : World} (hS : ∀ k, S k → k < W0.heap.size) {a0 a1 a2 a3 a4 a6 : Option Addr} {n0 c0 n1 c1 n2 c2 n3 c3 n4 c4 n6 c6 : Nat} {t : Dk} (h : RefS (mask S W0) (.agg #[.slice a0 n0 c0, .slice a1 n1 c1, .slice a2 n2 c2, .slice a3 n3 c3, .slice a4 n4 c4, .int .i64 t.room, .slice a6 n6 c6, .int .i64 t.power, .int .i64 (t.n : Int)]) t) (hw : Wf t) (m : Nat) (hB : Bd m t) (hfl : t.fails.length ≤ 1000000000) (hm : m ≤ 3000000) :
    Calls Tryz.prog 8 #[.agg #[.slice a0 n0 c0, .slice a1 n1 c1, .slice a2 n2 c2, .slice a3 n3 c3, .slice a4 n4 c4, .int .i64 t.room, .slice a6 n6 c6, .int .i64 t.power, .int .i64 (t.n : Int)]] W0 fun e w' => OpenR S W0 (refOpen t) e w' := by
  have I0 : Hid (StI S W0 [.slice none 0 0, .slice none 0 0, .slice none 0 0, .slice none 0 0, .slice none 0 0, .int .i64 0, .slice none 0 0, .int .i64 0, .int .i64 0, .int .i64 0] [.slice a0 n0 c0, .slice a1 n1 c1, .slice a2 n2 c2, .slice a3 n3 c3, .slice a4 n4 c4, .int .i64 t.room, .slice a6 n6 c6, .int .i64 t.power, .int .i64 (t.n : Int)] (.agg #[.slice a0 n0 c0, .slice a1 n1 c1, .slice a2 n2 c2, .slice a3 n3 c3, .slice a4 n4 c4, .int .i64 t.room, .slice a6 n6 c6, .int .i64 t.power, .int .i64 (t.n : Int)]) t m ((W0.alloc (.cells #[.slice a0 n0 c0, .slice a1 n1 c1, .slice a2 n2 c2, .slice a3 n3 c3, .slice a4 n4 c4, .int .i64 t.room, .slice a6 n6 c6, .int .i64 t.power, .int .i64 (t.n : Int)] 38)).alloc (.cells #[.slice none 0 0, .slice none 0 0, .slice none 0 0, .slice none 0 0, .slice none 0 0, .int .i64 0, .slice none 0 0, .int .i64 0, .int .i64 0, .int .i64 0] 46))) := sti_begin #[.slice a0 n0 c0, .slice a1 n1 c1, .slice a2 n2 c2, .slice a3 n3 c3, .slice a4 n4 c4, .int .i64 t.room, .slice a6 n6 c6, .int .i64 t.power, .int .i64 (t.n : Int)] #[.slice none 0 0, .slice none 0 0, .slice none 0 0, .slice none 0 0, .slice none 0 0, .int .i64 0, .slice none 0 0, .int .i64 0, .int .i64 0, .int .i64 0] h hw hB _ _
  have HS := hide' hS
  have FL := hide' hfl
  have WF := hide' hw
  have CL := hide' (listRO (refS_sub I0.out.ref (mask_sub _ _)) (by have := hB.2.2.1; omega))
  have BM := hide' hB
  have LL : Hid (t.list.length ≤ 3000000) := by unfold Hid; have := list_lenB hB; omega
  obtain ⟨k0, k1, k2, k3, k4, k5, k6, k7, k8⟩ := cells_9 I0.out.b0
  clear h hw hB hfl hS
  go_enter Tryz.func8, Tryz.ntmps8
  go_wp2_with fail
  refine CL.out.mono ?_
  rintro e w3 ⟨u, rfl, hu⟩
  have I3 := hide' (sti_below I0.out hu.2)
  have z2 : (((W0.alloc (.cells #[.slice a0 n0 c0, .slice a1 n1 c1, .slice a2 n2 c2, .slice a3 n3 c3, .slice a4 n4 c4, .int .i64 t.room, .slice a6 n6 c6, .int .i64 t.power, .int .i64 (t.n : Int)] 38)).alloc (.cells #[.slice none 0 0, .slice none 0 0, .slice none 0 0, .slice none 0 0, .slice none 0 0, .int .i64 0, .slice none 0 0, .int .i64 0, .int .i64 0, .int .i64 0] 46))).heap.size = W0.heap.size + 2 := by simp
  obtain ⟨ao, cap, hul, hucell⟩ := holds_own hu
  have HU : Hid (t.list ≠ [] → ∃ b off, ao = some ⟨b, off, none⟩ ∧ W0.heap.size + 2 ≤ b ∧ b < w3.heap.size ∧ ∀ j (h : j < t.list.length), w3.cell? ⟨b, off + j, none⟩ = some (Go.Proofs.YtijnjgnckipghaaGreat.S t.list[j])) := fun hne => by
    obtain ⟨b, off, e1, e2, e3⟩ := hucell hne
    refine ⟨b, off, e1, ?_, e2, e3⟩
    have := (hu.1.lt b (by rw [hul, e1]; rfl)).1
    rw [z2] at this
    exact this
  obtain ⟨n, hn⟩ : ∃ n, n = t.list.length := ⟨_, rfl⟩
  have N := hide' hn
  have ln : n ≤ 3000000 := by have := LL.out; omega
  rw [← hn] at hul
  subst hul
  have R0 : Hid (RemI t t 0) := .inl ⟨rfl, fun i hi => absurd hi (Nat.not_lt_zero _)⟩
  clear CL I0 hu hucell hn k0 k1 k2 k3 k4 k5 k6 k7 k8 LL z2
  go_wp2_with fail
  go_loopw [6] (fun i wr => ∃ j : Nat, j ≤ n ∧ i = .int .i64 j ∧ ∃ (x0 x1 x2 x3 x4 x6 : Sl) (s : Dk), Hid (StI S W0 [.slice none 0 0, .slice none 0 0, .slice none 0 0, .slice none 0 0, .slice none 0 0, .int .i64 0, .slice none 0 0, .int .i64 0, .int .i64 0, .int .i64 0] [.slice x0.a x0.n x0.c, .slice x1.a x1.n x1.c, .slice x2.a x2.n x2.c, .slice x3.a x3.n x3.c, .slice x4.a x4.n x4.c, .int .i64 s.room, .slice x6.a x6.n x6.c, .int .i64 s.power, .int .i64 (s.n : Int)] (.agg #[.slice x0.a x0.n x0.c, .slice x1.a x1.n x1.c, .slice x2.a x2.n x2.c, .slice x3.a x3.n x3.c, .slice x4.a x4.n x4.c, .int .i64 s.room, .slice x6.a x6.n x6.c, .int .i64 s.power, .int .i64 (s.n : Int)]) s (m + 2) wr) ∧ Hid (RemI t s j) ∧ Hid (∀ b, W0.heap.size + 2 ≤ b → b < w3.heap.size → wr.heap[b]? = w3.heap[b]?)) (fun i _ => n - (intOf i).toNat)
  case atStart => exact ⟨0, by omega, rfl, ⟨a0, n0, c0⟩, ⟨a1, n1, c1⟩, ⟨a2, n2, c2⟩, ⟨a3, n3, c3⟩, ⟨a4, n4, c4⟩, ⟨a6, n6, c6⟩, t, hide' ⟨I3.out.b0, I3.out.b1, I3.out.bel, I3.out.ref, I3.out.wf, bd_mono I3.out.bd (by omega)⟩, R0, fun _ _ _ => rfl⟩
  case round =>
    obtain ⟨j, hj, rfl, ⟨a0, n0, c0⟩, ⟨a1, n1, c1⟩, ⟨a2, n2, c2⟩, ⟨a3, n3, c3⟩, ⟨a4, n4, c4⟩, ⟨a6, n6, c6⟩, s, HI, HR, HB⟩ := hrel
    dsimp only at HI
    clear I3 R0
    have FLs : Hid (s.fails.length ≤ 1000000000) := by unfold Hid; rw [remI_fails HR.out]; exact FL.out
    by_cases hlt : j < n
    · have hj' : j < t.list.length := by rw [← N.out]; exact hlt
      obtain ⟨b, off, hao, hblo, hblt, hcell⟩ := HU.out (fun e => by rw [e] at hj'; exact absurd hj' (Nat.not_lt_zero _))
      subst hao
      have hc := (World.cell?_of_block (w := w3) (a := ⟨b, off + j, none⟩) (HB.out b hblo hblt)).trans (hcell j hj')
      replace hc : wr.cell? ⟨b, off + j, none⟩ = some (.string ⟨(t.list[j]'hj').toArray⟩) := hc
      by_cases he : t.list[j]'hj' = nwN
      · obtain ⟨hst, hrm⟩ := remI_bad HR.out WF.out hj' he
        have RO := hide' (fun h0 => remI_ok hj' he h0)
        rw [he] at hc
        replace hc : wr.cell? ⟨b, off + j, none⟩ = some (.string ⟨#[108, 111, 103, 46, 110, 101, 119]⟩) := hc
        have RM := hide' hrm
        clear hcell hrm he HR
        subst hst
        have CT := hide' (stepRC (S := fun k => S k ∨ k = W0.heap.size ∨ k = W0.heap.size + 1) (sti_lt HI.out HS.out) HI.out.ref HI.out.wf (bd_mono HI.out.bd (by omega)) 6 (by decide) ⟨#[108, 111, 103, 46, 110, 101, 119]⟩ ⟨#[]⟩ none 0 0 [] (holdsB_none _) (by decide) (by decide) (by decide) FLs.out)
        have e6 : (⟨6, (⟨#[108, 111, 103, 46, 110, 101, 119]⟩ : ByteArray).data.toList, (⟨#[]⟩ : ByteArray).data.toList, []⟩ : DOp) = ⟨6, nwN, [], []⟩ := rfl
        rw [e6] at CT
        have WF2 := hide' (wf_step HI.out.wf ⟨6, nwN, [], []⟩)
        have BD2 := hide' (bd_step BM.out ⟨6, nwN, [], []⟩)
        clear e6
        obtain ⟨k0, k1, k2, k3, k4, k5, k6, k7, k8⟩ := cells_9 HI.out.b0
        go_wp2_with fail
        refine CT.out.mono ?_
        rintro e w8 ⟨v', rfl, hr, hb⟩
        generalize s.step ⟨6, nwN, [], []⟩ = Q at hr RM RO WF2 BD2 ⊢
        obtain ⟨s', er⟩ := Q
        dsimp only at hr RM RO WF2 BD2 ⊢
        obtain ⟨⟨ra0, rn0, rc0⟩, ⟨ra1, rn1, rc1⟩, ⟨ra2, rn2, rc2⟩, ⟨ra3, rn3, rc3⟩, ⟨ra4, rn4, rc4⟩, ⟨ra6, rn6, rc6⟩, ev, -⟩ := id hr
        unfold stV at ev
        dsimp only at ev
        subst ev
        have I8 := hide' (sti_below (sti_ref HI.out hb hr WF2.out (bd_mono BD2.out (show m + 2 + 0 ≤ m + 2 by omega))) (below_alloc' w8 (.cells #[.slice ra0 rn0 rc0, .slice ra1 rn1 rc1, .slice ra2 rn2 rc2, .slice ra3 rn3 rc3, .slice ra4 rn4 rc4, .int .i64 s'.room, .slice ra6 rn6 rc6, .int .i64 s'.power, .int .i64 (s'.n : Int)] 38)))
        have P8 := sti_put I8.out (us := [.slice ra0 rn0 rc0, .slice ra1 rn1 rc1, .slice ra2 rn2 rc2, .slice ra3 rn3 rc3, .slice ra4 rn4 rc4, .int .i64 s'.room, .slice ra6 rn6 rc6, .int .i64 s'.power, .int .i64 (s'.n : Int)]) rfl
        have KB : ∀ b, W0.heap.size + 2 ≤ b → b < w3.heap.size → (putFrom W0.heap.size 0 (w8.alloc (.cells #[.slice ra0 rn0 rc0, .slice ra1 rn1 rc1, .slice ra2 rn2 rc2, .slice ra3 rn3 rc3, .slice ra4 rn4 rc4, .int .i64 s'.room, .slice ra6 rn6 rc6, .int .i64 s'.power, .int .i64 (s'.n : Int)] 38)) [.slice ra0 rn0 rc0, .slice ra1 rn1 rc1, .slice ra2 rn2 rc2, .slice ra3 rn3 rc3, .slice ra4 rn4 rc4, .int .i64 s'.room, .slice ra6 rn6 rc6, .int .i64 s'.power, .int .i64 (s'.n : Int)]).heap[b]? = w3.heap[b]? := fun b h1 h2 => by
          have hwr : b < wr.heap.size := lt_of_block (HB.out b h1 h2) h2
          have h8 : b < w8.heap.size := Nat.lt_of_lt_of_le hwr hb.size
          rw [(off_put (S := fun k => k = W0.heap.size) rfl [.slice ra0 rn0 rc0, .slice ra1 rn1 rc1, .slice ra2 rn2 rc2, .slice ra3 rn3 rc3, .slice ra4 rn4 rc4, .int .i64 s'.room, .slice ra6 rn6 rc6, .int .i64 s'.power, .int .i64 (s'.n : Int)] 0 (w8.alloc (.cells #[.slice ra0 rn0 rc0, .slice ra1 rn1 rc1, .slice ra2 rn2 rc2, .slice ra3 rn3 rc3, .slice ra4 rn4 rc4, .int .i64 s'.room, .slice ra6 rn6 rc6, .int .i64 s'.power, .int .i64 (s'.n : Int)] 38))).block b (by simp; omega) (by omega), (below_alloc' w8 (.cells #[.slice ra0 rn0 rc0, .slice ra1 rn1 rc1, .slice ra2 rn2 rc2, .slice ra3 rn3 rc3, .slice ra4 rn4 rc4, .int .i64 s'.room, .slice ra6 rn6 rc6, .int .i64 s'.power, .int .i64 (s'.n : Int)] 38)).block b h8, hb.block b hwr]
          exact HB.out b h1 h2
        simp only [putFrom] at P8 KB
        have P8H := hide' P8
        have KBH := hide' KB
        obtain ⟨⟨p0, p1, p2, p3, p4, p5, p6, p7, p8⟩, r0, r1, r2, r3, r4, r5, r6, r7, r8⟩ := cells_9a I8.out.b0
        clear hr hb CT P8 KB I8 HI HB WF2 BD2 k0 k1 k2 k3 k4 k5 k6 k7 k8 hc hblo hblt
        go_upto_region 8 with fail
        generalize ((((((((((w8.alloc (.cells #[.slice ra0 rn0 rc0, .slice ra1 rn1 rc1, .slice ra2 rn2 rc2, .slice ra3 rn3 rc3, .slice ra4 rn4 rc4, .int .i64 s'.room, .slice ra6 rn6 rc6, .int .i64 s'.power, .int .i64 (s'.n : Int)] 38)).setCell ⟨W0.heap.size, 0, none⟩ (.slice ra0 rn0 rc0)).setCell ⟨W0.heap.size, 1, none⟩ (.slice ra1 rn1 rc1)).setCell ⟨W0.heap.size, 2, none⟩ (.slice ra2 rn2 rc2)).setCell ⟨W0.heap.size, 3, none⟩ (.slice ra3 rn3 rc3)).setCell ⟨W0.heap.size, 4, none⟩ (.slice ra4 rn4 rc4)).setCell ⟨W0.heap.size, 5, none⟩ (.int .i64 s'.room)).setCell ⟨W0.heap.size, 6, none⟩ (.slice ra6 rn6 rc6)).setCell ⟨W0.heap.size, 7, none⟩ (.int .i64 s'.power)).setCell ⟨W0.heap.size, 8, none⟩ (.int .i64 (s'.n : Int))) = wA at P8H KBH ⊢
        clear p0 p1 p2 p3 p4 p5 p6 p7 p8 r0 r1 r2 r3 r4 r5 r6 r7 r8
        by_cases hz : er = 0
        · have RX := hide' (RO.out hz)
          subst hz
          clear RO RM
          go_wp2_with fail
          go_roundw
          case rel => exact ⟨j + 1, by omega, by go_num, ⟨ra0, rn0, rc0⟩, ⟨ra1, rn1, rc1⟩, ⟨ra2, rn2, rc2⟩, ⟨ra3, rn3, rc3⟩, ⟨ra4, rn4, rc4⟩, ⟨ra6, rn6, rc6⟩, s', P8H, RX, KBH⟩
          case measure => simp [intOf]; omega
        · have dz : (er != 0) = true := by simpa using hz
          have RX := hide' (refOpen_bad RM.out hz)
          obtain ⟨k0, k1, k2, k3, k4, k5, k6, k7, k8⟩ := cells_9 P8H.out.b0
          have J3 : W0.heap.size ≠ W0.heap.size + 1 := by omega
          have J4 : W0.heap.size + 1 ≠ W0.heap.size := by omega
          clear RO RM hz KBH
          obtain ⟨⟨g0, g1, g2, g3, g4, g5, g6, g7, g8, g9⟩, ⟨f0, f1, f2, f3, f4, f5, f6, f7, f8, f9⟩⟩ := cells_ten P8H.out.b1
          have EN := sti_end P8H.out (us := [.slice ra0 rn0 rc0, .slice ra1 rn1 rc1, .slice ra2 rn2 rc2, .slice ra3 rn3 rc3, .slice ra4 rn4 rc4, .int .i64 s'.room, .slice ra6 rn6 rc6, .int .i64 s'.power, .int .i64 (s'.n : Int), .int .i64 0]) rfl
          simp only [putFrom] at EN
          have ENH := hide' EN
          clear EN P8H
          go_wp2_with fail
          obtain ⟨⟨z0, z1, z2, z3, z4, z5, z6, z7, z8, z9⟩, -⟩ := cells_ten ENH.out.1
          exact bodyPost_ret (v := .tuple #[.agg #[.slice ra0 rn0 rc0, .slice ra1 rn1 rc1, .slice ra2 rn2 rc2, .slice ra3 rn3 rc3, .slice ra4 rn4 rc4, .int .i64 s'.room, .slice ra6 rn6 rc6, .int .i64 s'.power, .int .i64 (s'.n : Int), .int .i64 0], .slice none 0 0, .int .i64 er]) (by simp [results, Tryz.results8, go_sem, z0, z1, z2, z3, z4, z5, z6, z7, z8, z9]) rfl (by rw [RX.out]; exact ⟨⟨ra0, rn0, rc0⟩, ⟨ra1, rn1, rc1⟩, ⟨ra2, rn2, rc2⟩, ⟨ra3, rn3, rc3⟩, ⟨ra4, rn4, rc4⟩, ⟨ra6, rn6, rc6⟩, s', .slice none 0 0, rfl, rfl, holdsR_nil _, ENH.out.2.2, ENH.out.2.1⟩)
      · have RX := hide' (remI_no HR.out hj' he)
        have dl : ¬ (⟨(t.list[j]'hj').toArray⟩ : ByteArray).data.toList = [108, 111, 103, 46, 110, 101, 119] := fun e => he (by
          have e3 : t.list[j]'hj' = [108, 111, 103, 46, 110, 101, 119] := by simpa using e
          exact e3)
        generalize (⟨(t.list[j]'hj').toArray⟩ : ByteArray) = x at hc dl
        have dx : (x.toList == (⟨#[108, 111, 103, 46, 110, 101, 119]⟩ : ByteArray).toList) = false := eqSx dl
        have dy : (x.toList == [108, 111, 103, 46, 110, 101, 119]) = false := by rw [Lib.toList_data]; simpa using dl
        have dn : ¬ x = (⟨#[108, 111, 103, 46, 110, 101, 119]⟩ : ByteArray) := fun e => dl (by rw [e])
        have dv : decide (x = (⟨#[108, 111, 103, 46, 110, 101, 119]⟩ : ByteArray)) = false := by simpa using dn
        clear HR he hcell
        go_wp2_with fail
        go_roundw
        case rel => exact ⟨j + 1, by omega, by go_num, ⟨a0, n0, c0⟩, ⟨a1, n1, c1⟩, ⟨a2, n2, c2⟩, ⟨a3, n3, c3⟩, ⟨a4, n4, c4⟩, ⟨a6, n6, c6⟩, s, HI, RX, HB⟩
        case measure => simp [intOf]; omega
    · have RE := hide' (refOpen_ok (remI_end HR.out (by rw [← N.out]; omega)))
      clear HR HB HU
      have J3 : W0.heap.size ≠ W0.heap.size + 1 := by omega
      have J4 : W0.heap.size + 1 ≠ W0.heap.size := by omega
      have CR := hide' (readRC (refS_sub HI.out.ref (mask_sub _ _)) HI.out.wf ⟨#[108, 111, 103]⟩ (by decide) (by have := HI.out.bd.2.2.1; omega) (fun i => by have := HI.out.bd.2.2.2.2.2 i; omega))
      have ern : (⟨#[108, 111, 103]⟩ : ByteArray).data.toList = lgN := rfl
      rw [ern] at CR
      have RL := hide' (read_len HI.out.bd lgN)
      obtain ⟨k0, k1, k2, k3, k4, k5, k6, k7, k8⟩ := cells_9 HI.out.b0
      clear ern
      unfold refRd at RE
      generalize s.read lgN = rd at CR RE RL
      obtain ⟨bs, ry⟩ := rd
      dsimp only at CR RE RL
      go_wp2_with fail
      refine CR.out.mono ?_
      rintro e w4 ⟨u4, rfl, hu4, hb4⟩
      have I4 := hide' (sti_below HI.out hb4)
      have HU4 := hide' hu4
      obtain ⟨ua, un, uc, hue⟩ := sl_of hu4
      have ULN : Hid (bs.length = un) := by
        obtain ⟨_, _, e1, _⟩ := hu4
        rw [hue] at e1
        simp only [Value.slice.injEq] at e1
        exact e1.2.1.symm
      subst hue
      clear CR HI hu4 hb4 k0 k1 k2 k3 k4 k5 k6 k7 k8
      obtain ⟨k0, k1, k2, k3, k4, k5, k6, k7, k8⟩ := cells_9 I4.out.b0
      by_cases h90 : ry = 90
      · subst h90
        rw [if_pos rfl] at RE
        have I5 := hide' (sti_below I4.out (below_alloc' w4 (.cells #[.int .i64 1, .string ⟨#[108, 111, 103]⟩, .string ⟨#[]⟩, .slice none 0 0, .int .i64 3, .string ⟨#[108, 111, 103]⟩, .string ⟨#[]⟩, .slice none 0 0, .int .i64 4, .string ⟨#[]⟩, .string ⟨#[]⟩, .slice none 0 0] 83)))
        have HOP := ho_lit w4 [((1, lgN, [], []), .slice none 0 0), ((3, lgN, [], []), .slice none 0 0), ((4, [], [], []), .slice none 0 0)] 83 (fun p hp => by
          simp only [List.mem_cons, List.not_mem_nil, or_false] at hp
          rcases hp with rfl | rfl | rfl
          · exact holdsB_none _
          · exact holdsB_none _
          · exact holdsB_none _)
        have hbk : m + 2 + bulkO [(1, lgN, [], []), (3, lgN, [], []), (4, [], [], [])] ≤ 80000000 := by simp only [bulkO, lgN, List.length_cons, List.length_nil]; omega
        have KEEP := hide' (stps_keeps [(1, lgN, [], []), (3, lgN, [], []), (4, [], [], [])] I4.out.wf I4.out.bd)
        have CS := hide' (stepsRC (S := fun k => S k ∨ k = W0.heap.size ∨ k = W0.heap.size + 1) (sti_lt I5.out HS.out) I5.out.ref I5.out.wf (m + 2) I5.out.bd FLs.out _ _ HOP (fun o h => by
          simp only [List.map_cons, List.map_nil, List.mem_cons, List.not_mem_nil, or_false] at h
          rcases h with rfl | rfl | rfl
          · exact ⟨(by decide : (1 : Int) ≤ 1), (by decide : (1 : Int) ≤ 6)⟩
          · exact ⟨(by decide : (1 : Int) ≤ 3), (by decide : (3 : Int) ≤ 6)⟩
          · exact ⟨(by decide : (1 : Int) ≤ 4), (by decide : (4 : Int) ≤ 6)⟩) hbk)
        clear HOP hbk HU4 ULN RL
        go_wp2_with fail
        refine CS.out.mono ?_
        rintro e w5 ⟨v', rfl, hr, hb⟩
        have hop : opsD [(1, lgN, [], []), (3, lgN, [], []), (4, [], [], [])] = begOps := rfl
        simp only [List.map_cons, List.map_nil] at hr ⊢
        rw [hop] at hr KEEP ⊢
        generalize stpsT begOps s = Q at hr KEEP RE ⊢
        obtain ⟨s', nn, er⟩ := Q
        dsimp only at hr KEEP RE ⊢
        obtain ⟨⟨ra0, rn0, rc0⟩, ⟨ra1, rn1, rc1⟩, ⟨ra2, rn2, rc2⟩, ⟨ra3, rn3, rc3⟩, ⟨ra4, rn4, rc4⟩, ⟨ra6, rn6, rc6⟩, ev, -⟩ := id hr
        unfold stV at ev
        dsimp only at ev
        subst ev
        have I6 := hide' (sti_below (sti_ref I5.out hb hr KEEP.out.1 KEEP.out.2.1) (below_alloc' w5 (.cells #[.slice ra0 rn0 rc0, .slice ra1 rn1 rc1, .slice ra2 rn2 rc2, .slice ra3 rn3 rc3, .slice ra4 rn4 rc4, .int .i64 s'.room, .slice ra6 rn6 rc6, .int .i64 s'.power, .int .i64 (s'.n : Int)] 38)))
        clear hr hb CS KEEP I5 I4 hop k0 k1 k2 k3 k4 k5 k6 k7 k8
        obtain ⟨⟨g0, g1, g2, g3, g4, g5, g6, g7, g8, g9⟩, ⟨f0, f1, f2, f3, f4, f5, f6, f7, f8, f9⟩⟩ := cells_ten I6.out.b1
        have EN := sti_end I6.out (us := [.slice ra0 rn0 rc0, .slice ra1 rn1 rc1, .slice ra2 rn2 rc2, .slice ra3 rn3 rc3, .slice ra4 rn4 rc4, .int .i64 s'.room, .slice ra6 rn6 rc6, .int .i64 s'.power, .int .i64 (s'.n : Int), .int .i64 0]) rfl
        simp only [putFrom] at EN
        have ENH := hide' EN
        clear EN I6
        go_wp2_with fail
        obtain ⟨⟨z0, z1, z2, z3, z4, z5, z6, z7, z8, z9⟩, -⟩ := cells_ten ENH.out.1
        exact bodyPost_ret (v := .tuple #[.agg #[.slice ra0 rn0 rc0, .slice ra1 rn1 rc1, .slice ra2 rn2 rc2, .slice ra3 rn3 rc3, .slice ra4 rn4 rc4, .int .i64 s'.room, .slice ra6 rn6 rc6, .int .i64 s'.power, .int .i64 (s'.n : Int), .int .i64 0], .slice none 0 0, .int .i64 er]) (by simp [results, Tryz.results8, go_sem, z0, z1, z2, z3, z4, z5, z6, z7, z8, z9]) rfl (by rw [RE.out]; exact ⟨⟨ra0, rn0, rc0⟩, ⟨ra1, rn1, rc1⟩, ⟨ra2, rn2, rc2⟩, ⟨ra3, rn3, rc3⟩, ⟨ra4, rn4, rc4⟩, ⟨ra6, rn6, rc6⟩, s', .slice none 0 0, rfl, rfl, holdsR_nil _, ENH.out.2.2, ENH.out.2.1⟩)
      have d90 : (ry == 90) = false := by simpa using h90
      rw [if_neg h90] at RE
      by_cases hz : ry = 0
      · subst hz
        rw [if_neg (fun h => h rfl)] at RE
        have CP := hide' (replayRC (.slice ua un uc) bs w4 HU4.out (by have := RL.out; omega))
        go_wp2_with fail
        refine CP.out.mono ?_
        rintro e w5 ⟨K, u5, rfl, hK, ho5⟩
        have eK : sndK bs = K := stops_one (sndK_stops bs) hK
        rw [eK] at RE
        have hal := atR_le bs K
        have hbk := bulk_rep K hK.1
        have lK : K ≤ 3000002 := by have := stops_le hK; have := RL.out; omega
        have I5 := hide' (sti_below I4.out ho5.2)
        have H5 := hide' (holdsR_own ho5)
        have N5 : Hid (∀ ad n c, u5 = .slice (some ad) n c → W0.heap.size + 2 ≤ ad.block ∧ ad.block < w5.heap.size) := fun ad n c e => by
          have h1 := ho5.1.lt ad.block (by rw [e]; rfl)
          have h2 := I4.out.b1.2
          exact ⟨by omega, h1.2⟩
        obtain ⟨la, lc, _, _, hle, _⟩ := holdsR_parts H5.out
        rw [repR_len] at hle
        subst hle
        have hLn := RL.out
        clear eK hK ho5 CP HU4 I4 k0 k1 k2 k3 k4 k5 k6 k7 k8
        generalize repR bs K = rs at RE H5 hbk
        generalize atR bs K = at' at RE hal hbk
        rw [ULN.out] at RE hal hLn
        clear ULN RL
        obtain ⟨k0, k1, k2, k3, k4, k5, k6, k7, k8⟩ := cells_9 I5.out.b0
        have B16 := below_alloc' w5 (.cells #[.slice a0 n0 c0, .slice a1 n1 c1, .slice a2 n2 c2, .slice a3 n3 c3, .slice a4 n4 c4, .int .i64 s.room, .slice a6 n6 c6, .int .i64 s.power, .int .i64 (s.n : Int), .int .i64 (K : Int)] 46)
        have P16 : Hid (Blk w5.heap.size (w5.alloc (.cells #[.slice a0 n0 c0, .slice a1 n1 c1, .slice a2 n2 c2, .slice a3 n3 c3, .slice a4 n4 c4, .int .i64 s.room, .slice a6 n6 c6, .int .i64 s.power, .int .i64 (s.n : Int), .int .i64 (K : Int)] 46)) [.slice a0 n0 c0, .slice a1 n1 c1, .slice a2 n2 c2, .slice a3 n3 c3, .slice a4 n4 c4, .int .i64 s.room, .slice a6 n6 c6, .int .i64 s.power, .int .i64 (s.n : Int), .int .i64 (K : Int)]) := cells_lit w5 #[.slice a0 n0 c0, .slice a1 n1 c1, .slice a2 n2 c2, .slice a3 n3 c3, .slice a4 n4 c4, .int .i64 s.room, .slice a6 n6 c6, .int .i64 s.power, .int .i64 (s.n : Int), .int .i64 (K : Int)] 46
        have z6 : (w5.alloc (.cells #[.slice a0 n0 c0, .slice a1 n1 c1, .slice a2 n2 c2, .slice a3 n3 c3, .slice a4 n4 c4, .int .i64 s.room, .slice a6 n6 c6, .int .i64 s.power, .int .i64 (s.n : Int), .int .i64 (K : Int)] 46)).heap.size = w5.heap.size + 1 := by simp
        have W5L : W0.heap.size + 2 ≤ w5.heap.size := by have := I5.out.b1.2; omega
        by_cases hlt2 : at' < un
        · have dlt : decide ((at' : Int) < (un : Int)) = true := by simp; omega
          rw [if_pos hlt2] at RE
          have I6 := sti_below I5.out B16
          have R6 : RefS (mask (fun k => (S k ∨ k = W0.heap.size ∨ k = W0.heap.size + 1) ∨ k = w5.heap.size) (w5.alloc (.cells #[.slice a0 n0 c0, .slice a1 n1 c1, .slice a2 n2 c2, .slice a3 n3 c3, .slice a4 n4 c4, .int .i64 s.room, .slice a6 n6 c6, .int .i64 s.power, .int .i64 (s.n : Int), .int .i64 (K : Int)] 46))) (.agg #[.slice a0 n0 c0, .slice a1 n1 c1, .slice a2 n2 c2, .slice a3 n3 c3, .slice a4 n4 c4, .int .i64 s.room, .slice a6 n6 c6, .int .i64 s.power, .int .i64 (s.n : Int)]) s := refS_sub I5.out.ref (off_mask (S := fun k => S k ∨ k = W0.heap.size ∨ k = W0.heap.size + 1) (off_of B16) (fun k e => e.elim .inl (fun e => .inr (by omega))))
          have CW := hide' (rewRC (S := fun k => (S k ∨ k = W0.heap.size ∨ k = W0.heap.size + 1) ∨ k = w5.heap.size) (fun k e => e.elim (sti_lt I6 HS.out k) (fun e => by rw [e, z6]; omega)) R6 I6.wf (m + 2) I6.bd FLs.out (K : Int) (.slice la K lc) rs (holdsR_mono H5.out B16) (by omega))
          have F6 := hide' (And.intro I6.b1 I6.bel)
          have H6 := hide' (holdsR_mono H5.out B16)
          clear R6 I6 I5 H5 hal hbk hLn
          generalize rewT rs (s, (K : Int)) = RW at CW RE
          obtain ⟨⟨s1, cw⟩, er⟩ := RW
          dsimp only at CW RE
          go_wp2_with fail
          clear k0 k1 k2 k3 k4 k5 k6 k7 k8
          generalize (w5.alloc (.cells #[.slice a0 n0 c0, .slice a1 n1 c1, .slice a2 n2 c2, .slice a3 n3 c3, .slice a4 n4 c4, .int .i64 s.room, .slice a6 n6 c6, .int .i64 s.power, .int .i64 (s.n : Int), .int .i64 (K : Int)] 46)) = w6 at CW F6 H6 P16 z6 B16 ⊢
          refine CW.out.mono ?_
          rintro e w7 ⟨⟨ra0, rn0, rc0⟩, ⟨ra1, rn1, rc1⟩, ⟨ra2, rn2, rc2⟩, ⟨ra3, rn3, rc3⟩, ⟨ra4, rn4, rc4⟩, ⟨ra6, rn6, rc6⟩, s', hs', rfl, hr, hb⟩
          subst hs'
          dsimp only at hr ⊢
          have E7 : FrE S W0 [.slice none 0 0, .slice none 0 0, .slice none 0 0, .slice none 0 0, .slice none 0 0, .int .i64 0, .slice none 0 0, .int .i64 0, .int .i64 0, .int .i64 0] (fun k => k = w5.heap.size) (.agg #[.slice ra0 rn0 rc0, .slice ra1 rn1 rc1, .slice ra2 rn2 rc2, .slice ra3 rn3 rc3, .slice ra4 rn4 rc4, .int .i64 s'.room, .slice ra6 rn6 rc6, .int .i64 s'.power, .int .i64 (s'.n : Int)]) s' w7 := ⟨cells_below F6.out.1 hb, F6.out.2.trans (hb.mono F6.out.2.size), hr⟩
          have E7H := hide' E7
          have P7 := hide' (cells_below P16.out hb)
          have H7 := hide' (holdsR_mono H6.out hb)
          have Q8 : w5.heap.size < w7.heap.size := by have := hb.size; omega
          clear E7 hr hb CW F6 H6 P16 B16
          by_cases hz : er = 0
          · subst hz
            rw [if_pos rfl] at RE
            have E9 := fre_below (fre_put E7H.out (b := w5.heap.size) rfl W5L [.slice ra0 rn0 rc0, .slice ra1 rn1 rc1, .slice ra2 rn2 rc2, .slice ra3 rn3 rc3, .slice ra4 rn4 rc4, .int .i64 s'.room, .slice ra6 rn6 rc6, .int .i64 s'.power, .int .i64 (s'.n : Int), .int .i64 cw]) (below_alloc' (putFrom w5.heap.size 0 w7 [.slice ra0 rn0 rc0, .slice ra1 rn1 rc1, .slice ra2 rn2 rc2, .slice ra3 rn3 rc3, .slice ra4 rn4 rc4, .int .i64 s'.room, .slice ra6 rn6 rc6, .int .i64 s'.power, .int .i64 (s'.n : Int), .int .i64 cw]) (.cells #[.slice ra0 rn0 rc0, .slice ra1 rn1 rc1, .slice ra2 rn2 rc2, .slice ra3 rn3 rc3, .slice ra4 rn4 rc4, .int .i64 s'.room, .slice ra6 rn6 rc6, .int .i64 s'.power, .int .i64 (s'.n : Int), .int .i64 cw] 46))
            have H9 := holdsR_mono (holdsR_put H7.out (b := w5.heap.size) (fun ad n c e => by have := (N5.out ad n c e).2; omega) [.slice ra0 rn0 rc0, .slice ra1 rn1 rc1, .slice ra2 rn2 rc2, .slice ra3 rn3 rc3, .slice ra4 rn4 rc4, .int .i64 s'.room, .slice ra6 rn6 rc6, .int .i64 s'.power, .int .i64 (s'.n : Int), .int .i64 cw]) (below_alloc' (putFrom w5.heap.size 0 w7 [.slice ra0 rn0 rc0, .slice ra1 rn1 rc1, .slice ra2 rn2 rc2, .slice ra3 rn3 rc3, .slice ra4 rn4 rc4, .int .i64 s'.room, .slice ra6 rn6 rc6, .int .i64 s'.power, .int .i64 (s'.n : Int), .int .i64 cw]) (.cells #[.slice ra0 rn0 rc0, .slice ra1 rn1 rc1, .slice ra2 rn2 rc2, .slice ra3 rn3 rc3, .slice ra4 rn4 rc4, .int .i64 s'.room, .slice ra6 rn6 rc6, .int .i64 s'.power, .int .i64 (s'.n : Int), .int .i64 cw] 46))
            have P9 := cells_below (cells_putFrom [.slice ra0 rn0 rc0, .slice ra1 rn1 rc1, .slice ra2 rn2 rc2, .slice ra3 rn3 rc3, .slice ra4 rn4 rc4, .int .i64 s'.room, .slice ra6 rn6 rc6, .int .i64 s'.power, .int .i64 (s'.n : Int), .int .i64 cw] 0 _ _ P7.out (by simp)) (below_alloc' (putFrom w5.heap.size 0 w7 [.slice ra0 rn0 rc0, .slice ra1 rn1 rc1, .slice ra2 rn2 rc2, .slice ra3 rn3 rc3, .slice ra4 rn4 rc4, .int .i64 s'.room, .slice ra6 rn6 rc6, .int .i64 s'.power, .int .i64 (s'.n : Int), .int .i64 cw]) (.cells #[.slice ra0 rn0 rc0, .slice ra1 rn1 rc1, .slice ra2 rn2 rc2, .slice ra3 rn3 rc3, .slice ra4 rn4 rc4, .int .i64 s'.room, .slice ra6 rn6 rc6, .int .i64 s'.power, .int .i64 (s'.n : Int), .int .i64 cw] 46))
            simp only [putFrom] at E9 H9 P9
            have E9H := hide' E9
            have H9H := hide' H9
            have P9H := hide' P9
            obtain ⟨⟨p0, p1, p2, p3, p4, p5, p6, p7, p8, p9⟩, ⟨r0, r1, r2, r3, r4, r5, r6, r7, r8, r9⟩⟩ := cells_ten P7.out
            clear E9 H9 P9 P7 E7H H7
            go_upto_region 23 with fail
            generalize (((((((((((w7.setCell ⟨w5.heap.size, 0, none⟩ (.slice ra0 rn0 rc0)).setCell ⟨w5.heap.size, 1, none⟩ (.slice ra1 rn1 rc1)).setCell ⟨w5.heap.size, 2, none⟩ (.slice ra2 rn2 rc2)).setCell ⟨w5.heap.size, 3, none⟩ (.slice ra3 rn3 rc3)).setCell ⟨w5.heap.size, 4, none⟩ (.slice ra4 rn4 rc4)).setCell ⟨w5.heap.size, 5, none⟩ (.int .i64 s'.room)).setCell ⟨w5.heap.size, 6, none⟩ (.slice ra6 rn6 rc6)).setCell ⟨w5.heap.size, 7, none⟩ (.int .i64 s'.power)).setCell ⟨w5.heap.size, 8, none⟩ (.int .i64 (s'.n : Int))).setCell ⟨w5.heap.size, 9, none⟩ (.int .i64 cw)).alloc (.cells #[.slice ra0 rn0 rc0, .slice ra1 rn1 rc1, .slice ra2 rn2 rc2, .slice ra3 rn3 rc3, .slice ra4 rn4 rc4, .int .i64 s'.room, .slice ra6 rn6 rc6, .int .i64 s'.power, .int .i64 (s'.n : Int), .int .i64 cw] 46)) = wA at E9H H9H P9H ⊢
            clear p0 p1 p2 p3 p4 p5 p6 p7 p8 p9 r0 r1 r2 r3 r4 r5 r6 r7 r8 r9
            obtain ⟨⟨k0, k1, k2, k3, k4, k5, k6, k7, k8, k9⟩, -⟩ := cells_ten (show Blk w5.heap.size wA [.slice ra0 rn0 rc0, .slice ra1 rn1 rc1, .slice ra2 rn2 rc2, .slice ra3 rn3 rc3, .slice ra4 rn4 rc4, .int .i64 s'.room, .slice ra6 rn6 rc6, .int .i64 s'.power, .int .i64 (s'.n : Int), .int .i64 cw] from by simpa using P9H.out)
            obtain ⟨⟨g0, g1, g2, g3, g4, g5, g6, g7, g8, g9⟩, ⟨f0, f1, f2, f3, f4, f5, f6, f7, f8, f9⟩⟩ := cells_ten E9H.out.b1
            have J5 : w5.heap.size ≠ W0.heap.size + 1 := by omega
            have J6 : W0.heap.size + 1 ≠ w5.heap.size := by omega
            have EN := fre_end E9H.out (us := [.slice ra0 rn0 rc0, .slice ra1 rn1 rc1, .slice ra2 rn2 rc2, .slice ra3 rn3 rc3, .slice ra4 rn4 rc4, .int .i64 s'.room, .slice ra6 rn6 rc6, .int .i64 s'.power, .int .i64 (s'.n : Int), .int .i64 cw]) rfl
            have HN := holdsR_put H9H.out (b := W0.heap.size + 1) (fun ad n c e => by have := (N5.out ad n c e).1; omega) [.slice ra0 rn0 rc0, .slice ra1 rn1 rc1, .slice ra2 rn2 rc2, .slice ra3 rn3 rc3, .slice ra4 rn4 rc4, .int .i64 s'.room, .slice ra6 rn6 rc6, .int .i64 s'.power, .int .i64 (s'.n : Int), .int .i64 cw]
            simp only [putFrom] at EN HN
            have ENH := hide' (And.intro EN HN)
            clear EN HN E9H H9H P9H
            go_wp2_with fail
            obtain ⟨⟨z0, z1, z2, z3, z4, z5, z6, z7, z8, z9⟩, -⟩ := cells_ten ENH.out.1.1
            exact bodyPost_ret (v := .tuple #[.agg #[.slice ra0 rn0 rc0, .slice ra1 rn1 rc1, .slice ra2 rn2 rc2, .slice ra3 rn3 rc3, .slice ra4 rn4 rc4, .int .i64 s'.room, .slice ra6 rn6 rc6, .int .i64 s'.power, .int .i64 (s'.n : Int), .int .i64 cw], .slice la K lc, .int .i64 0]) (by simp [results, Tryz.results8, go_sem, z0, z1, z2, z3, z4, z5, z6, z7, z8, z9]) rfl (by rw [RE.out]; exact ⟨⟨ra0, rn0, rc0⟩, ⟨ra1, rn1, rc1⟩, ⟨ra2, rn2, rc2⟩, ⟨ra3, rn3, rc3⟩, ⟨ra4, rn4, rc4⟩, ⟨ra6, rn6, rc6⟩, s', .slice la K lc, rfl, rfl, ENH.out.2, ENH.out.1.2.2, ENH.out.1.2.1⟩)
          · have dz : (er != 0) = true := by simpa using hz
            rw [if_neg hz] at RE
            have E8 := hide' (fre_below E7H.out (below_alloc' w7 (.cells #[.slice ra0 rn0 rc0, .slice ra1 rn1 rc1, .slice ra2 rn2 rc2, .slice ra3 rn3 rc3, .slice ra4 rn4 rc4, .int .i64 s'.room, .slice ra6 rn6 rc6, .int .i64 s'.power, .int .i64 (s'.n : Int), .int .i64 cw] 46)))
            obtain ⟨⟨g0, g1, g2, g3, g4, g5, g6, g7, g8, g9⟩, ⟨f0, f1, f2, f3, f4, f5, f6, f7, f8, f9⟩⟩ := cells_ten E8.out.b1
            have EN := fre_end E8.out (us := [.slice ra0 rn0 rc0, .slice ra1 rn1 rc1, .slice ra2 rn2 rc2, .slice ra3 rn3 rc3, .slice ra4 rn4 rc4, .int .i64 s'.room, .slice ra6 rn6 rc6, .int .i64 s'.power, .int .i64 (s'.n : Int), .int .i64 cw]) rfl
            simp only [putFrom] at EN
            have ENH := hide' EN
            clear EN E8 E7H P7 H7 hz
            go_wp2_with fail
            obtain ⟨⟨z0, z1, z2, z3, z4, z5, z6, z7, z8, z9⟩, -⟩ := cells_ten ENH.out.1
            exact bodyPost_ret (v := .tuple #[.agg #[.slice ra0 rn0 rc0, .slice ra1 rn1 rc1, .slice ra2 rn2 rc2, .slice ra3 rn3 rc3, .slice ra4 rn4 rc4, .int .i64 s'.room, .slice ra6 rn6 rc6, .int .i64 s'.power, .int .i64 (s'.n : Int), .int .i64 cw], .slice none 0 0, .int .i64 er]) (by simp [results, Tryz.results8, go_sem, z0, z1, z2, z3, z4, z5, z6, z7, z8, z9]) rfl (by rw [RE.out]; exact ⟨⟨ra0, rn0, rc0⟩, ⟨ra1, rn1, rc1⟩, ⟨ra2, rn2, rc2⟩, ⟨ra3, rn3, rc3⟩, ⟨ra4, rn4, rc4⟩, ⟨ra6, rn6, rc6⟩, s', .slice none 0 0, rfl, rfl, holdsR_nil _, ENH.out.2.2, ENH.out.2.1⟩)
        · have dlt : decide ((at' : Int) < (un : Int)) = false := by simp; omega
          rw [if_neg hlt2] at RE
          have I6 := hide' (sti_below I5.out B16)
          obtain ⟨⟨g0, g1, g2, g3, g4, g5, g6, g7, g8, g9⟩, ⟨f0, f1, f2, f3, f4, f5, f6, f7, f8, f9⟩⟩ := cells_ten I6.out.b1
          have EN := sti_end I6.out (us := [.slice a0 n0 c0, .slice a1 n1 c1, .slice a2 n2 c2, .slice a3 n3 c3, .slice a4 n4 c4, .int .i64 s.room, .slice a6 n6 c6, .int .i64 s.power, .int .i64 (s.n : Int), .int .i64 (K : Int)]) rfl
          have HN := holdsR_put (holdsR_mono H5.out B16) (b := W0.heap.size + 1) (fun ad n c e => by have := (N5.out ad n c e).1; omega) [.slice a0 n0 c0, .slice a1 n1 c1, .slice a2 n2 c2, .slice a3 n3 c3, .slice a4 n4 c4, .int .i64 s.room, .slice a6 n6 c6, .int .i64 s.power, .int .i64 (s.n : Int), .int .i64 (K : Int)]
          simp only [putFrom] at EN HN
          have ENH := hide' (And.intro EN HN)
          clear EN HN I6 I5 H5 P16 hal hbk hLn B16
          go_wp2_with fail
          obtain ⟨⟨z0, z1, z2, z3, z4, z5, z6, z7, z8, z9⟩, -⟩ := cells_ten ENH.out.1.1
          exact bodyPost_ret (v := .tuple #[.agg #[.slice a0 n0 c0, .slice a1 n1 c1, .slice a2 n2 c2, .slice a3 n3 c3, .slice a4 n4 c4, .int .i64 s.room, .slice a6 n6 c6, .int .i64 s.power, .int .i64 (s.n : Int), .int .i64 (K : Int)], .slice la K lc, .int .i64 0]) (by simp [results, Tryz.results8, go_sem, z0, z1, z2, z3, z4, z5, z6, z7, z8, z9]) rfl (by rw [RE.out]; exact ⟨⟨a0, n0, c0⟩, ⟨a1, n1, c1⟩, ⟨a2, n2, c2⟩, ⟨a3, n3, c3⟩, ⟨a4, n4, c4⟩, ⟨a6, n6, c6⟩, s, .slice la K lc, rfl, rfl, ENH.out.2, ENH.out.1.2.2, ENH.out.1.2.1⟩)
      · have dz : (ry != 0) = true := by simpa using hz
        rw [if_pos hz] at RE
        clear HU4 ULN RL h90 hz
        obtain ⟨⟨g0, g1, g2, g3, g4, g5, g6, g7, g8, g9⟩, ⟨f0, f1, f2, f3, f4, f5, f6, f7, f8, f9⟩⟩ := cells_ten I4.out.b1
        have EN := sti_end I4.out (us := [.slice a0 n0 c0, .slice a1 n1 c1, .slice a2 n2 c2, .slice a3 n3 c3, .slice a4 n4 c4, .int .i64 s.room, .slice a6 n6 c6, .int .i64 s.power, .int .i64 (s.n : Int), .int .i64 0]) rfl
        simp only [putFrom] at EN
        have ENH := hide' EN
        clear EN I4
        go_wp2_with fail
        obtain ⟨⟨z0, z1, z2, z3, z4, z5, z6, z7, z8, z9⟩, -⟩ := cells_ten ENH.out.1
        exact bodyPost_ret (v := .tuple #[.agg #[.slice a0 n0 c0, .slice a1 n1 c1, .slice a2 n2 c2, .slice a3 n3 c3, .slice a4 n4 c4, .int .i64 s.room, .slice a6 n6 c6, .int .i64 s.power, .int .i64 (s.n : Int), .int .i64 0], .slice none 0 0, .int .i64 ry]) (by simp [results, Tryz.results8, go_sem, z0, z1, z2, z3, z4, z5, z6, z7, z8, z9]) rfl (by rw [RE.out]; exact ⟨⟨a0, n0, c0⟩, ⟨a1, n1, c1⟩, ⟨a2, n2, c2⟩, ⟨a3, n3, c3⟩, ⟨a4, n4, c4⟩, ⟨a6, n6, c6⟩, s, .slice none 0 0, rfl, rfl, holdsR_nil _, ENH.out.2.2, ENH.out.2.1⟩)
end Go.Proofs.YtijnjgnckipghaaGreat
