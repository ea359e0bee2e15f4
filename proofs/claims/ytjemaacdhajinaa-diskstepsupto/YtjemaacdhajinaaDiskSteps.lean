/- After every step of a script the program's disk answers what the document's disk answers: the step itself, the count, whether it is down, the bytes used, the names and what the file holds, for what is of bulk at most 1048576. -/
import Derived.Test.YtjemaacdhajinaaBdF
import Derived.Test.YtjemaacdhajinaaBdG
import Derived.Test.YtjemaacdhajinaaDrT
import Derived.Test.YtjemaacdhajinaaBdI
import Derived.Deep.RegionHeld3
import Derived.Test.YtjemaacdhajinaaOpnS
import Derived.OpenShut
import Derived.ShutString
import Derived.ChangeOld
import Derived.Below
import Derived.SizedLaws
import Derived.Deep.DeepHandedRow
import Derived.Lib.LaidTab
namespace Go.Proofs.Ytjemaacdhajinaa
open Go.RowKit
theorem refS_sub {M W : World} {v : Value} {s : Dk} (h : RefS M v s) (hs : Sub M W) : RefS W v s := by
  obtain ⟨x0, x1, x2, x3, x4, x6, e, h⟩ := h
  exact ⟨x0, x1, x2, x3, x4, x6, e, refV_sub h hs⟩
/-- the disk's blocks, and the block q -/
def NoB (o : Ow) (q k : Nat) : Prop := o.has k ∨ k = q
/-- a block that is not the disk's -/
structure Kp (o : Ow) (w1 : World) (p : Nat) (cs : List Value) (W : World) : Prop where
  out : o p = none
  lo : w1.heap.size ≤ p
  blk : Blk p W cs
section
variable {o o' : Ow} {w1 W W' : World} {p g q : Nat} {cs vs us : List Value} {s s' t t' : Dk} {v v' : Value}
theorem kp_below (h : Kp o w1 p cs W) (hb : Below W.heap.size W W') : Kp o w1 p cs W' := ⟨h.out, h.lo, cells_below h.blk hb⟩
theorem kp_grow (h : Kp o w1 p cs W) (hg : Grow o W o' W') : Kp o' w1 p cs W' := by
  have hn : ¬ o.has p := fun e => e h.out
  have hk := hg.off.block p h.blk.2 hn
  refine ⟨?_, h.lo, ⟨fun j hj => ⟨?_, ?_⟩, Nat.lt_of_lt_of_le h.blk.2 hg.off.size⟩⟩
  · cases e : o' p with
    | none => rfl
    | some r =>
      rcases hg.new p (has_of e) with e1 | e1
      · exact absurd e1 hn
      · exact absurd h.blk.2 (by omega)
  · rw [World.cell?_of_block (w := W) (a := ⟨p, j, none⟩) hk]; exact (h.blk.1 j hj).1
  · rw [World.frozen?_of_block (w := W) (a := ⟨p, j, none⟩) hk]; exact (h.blk.1 j hj).2
/-- the program's disk is s, the document's value v is t; q's block holds vs -/
structure Two (o : Ow) (g q : Nat) (vs : List Value) (v : Value) (s t : Dk) (w1 W : World) : Prop where
  liv : Liv o g s w1 W
  kp : Kp o w1 q vs W
  ref : RefS (mask (NoB o q) W) v t
theorem two_lt (h : Two o g q vs v s t w1 W) : ∀ k, NoB o q k → k < W.heap.size := fun k e => e.elim (dsk_lt h.liv.dsk k) (fun e => by rw [e]; exact h.kp.blk.2)
theorem two_refS (h : Two o g q vs v s t w1 W) : RefS W v t := refS_sub h.ref (mask_sub _ _)
theorem two_below (h : Two o g q vs v s t w1 W) (hb : Below W.heap.size W W') : Two o g q vs v s t w1 W' :=
  ⟨liv_below h.liv hb, kp_below h.kp hb, refS_sub h.ref (off_mask (S := NoB o q) (S' := NoB o q) (off_of hb) (fun _ hk => .inl hk))⟩
theorem two_grow (h : Two o g q vs v s t w1 W) (hl : Liv o' g s' w1 W') (hg : Grow o W o' W') : Two o' g q vs v s' t w1 W' :=
  ⟨hl, kp_grow h.kp hg, refS_sub h.ref (off_mask (S := NoB o q) (S' := NoB o' q) (hg.off.mono (fun _ e => .inl e)) (fun k e => e.elim (fun e => (hg.new k e).elim (fun e => .inl (.inl e)) .inr) (fun e => .inl (.inr e))))⟩
theorem two_ref (h : Two o g q vs v s t w1 W) (hb : Below W.heap.size W W') (hr : RefS (mask (NoB o q) W') v' t') : Two o g q vs v' s t' w1 W' := ⟨liv_below h.liv hb, kp_below h.kp hb, hr⟩
theorem two_put (h : Two o g q vs v s t w1 W) (hu : us.length = vs.length) : Two o g q us v s t w1 (putFrom q 0 W us) := by
  refine ⟨⟨dsk_off h.liv.dsk (off_put (S := fun k => k = q) rfl us 0 W) (fun k e => by rw [e]; exact h.kp.out), h.liv.own, below_put h.kp.lo us 0 W h.liv.bel⟩, ⟨h.kp.out, h.kp.lo, ?_⟩, refS_sub h.ref (off_mask (S := NoB o q) (S' := NoB o q) (off_put (.inr rfl) us 0 W) (fun _ e => .inl e))⟩
  have := cells_putFrom us 0 W vs h.kp.blk (by omega)
  rw [List.drop_eq_nil_of_le (by omega)] at this
  simpa using this
/-- the beginning: the document's value, and its block laid -/
theorem two_start (hl : Liv o g s w1 W) (hr : RefS (mask o.has W) v t) (hb : Below W.heap.size W W') (hk : Blk W.heap.size W' vs) : Two o g W.heap.size vs v s t w1 W' :=
  ⟨liv_below hl hb, ⟨by
    cases e : o W.heap.size with
    | none => rfl
    | some r => exact absurd (dsk_lt hl.dsk _ (has_of e)) (by omega), hl.bel.size, hk⟩, refS_sub hr (off_mask (S := o.has) (S' := NoB o W.heap.size) (off_of hb) (fun k e => e.elim .inl (fun e => .inr (by omega))))⟩
/-- a block laid behind what there is -/
theorem kp_new (hl : Liv o g s w1 W) (hk : Blk W.heap.size W' cs) : Kp o w1 W.heap.size cs W' :=
  ⟨by
    cases e : o W.heap.size with
    | none => rfl
    | some r => exact absurd (dsk_lt hl.dsk _ (has_of e)) (by omega), hl.bel.size, hk⟩
end
/-- what came in lies outside of the disk -/
theorem in_sub {o : Ow} {w w1 W : World} (h1 : Below w.heap.size w w1) (hb : Below w1.heap.size w1 W) (ho : ∀ k, o.has k → w1.heap.size ≤ k) : Sub w (mask o.has W) :=
  ⟨by rw [mask_size]; exact Nat.le_trans h1.size hb.size, fun a v h => by
    have hl := cell_lt h
    have hs := h1.size
    rw [mask_cell W (show ¬ o.has a.block from fun e => by have := ho _ e; omega), hb.cell (p := a) (by omega), h1.cell hl]
    exact h⟩
/-- both disks, and one op's block -/
def Reg (g q p : Nat) (vs cs : List Value) (v : Value) (s t : Dk) (w1 W : World) : Prop := ∃ o, Two o g q vs v s t w1 W ∧ Kp o w1 p cs W
theorem reg_below {g q p : Nat} {vs cs : List Value} {v : Value} {s t : Dk} {w1 W W' : World} (h : Reg g q p vs cs v s t w1 W) (hb : Below W.heap.size W W') : Reg g q p vs cs v s t w1 W' := by
  obtain ⟨o, h1, h2⟩ := h
  exact ⟨o, two_below h1 hb, kp_below h2 hb⟩
end Go.Proofs.Ytjemaacdhajinaa
namespace Go.Proofs.Ytjemaacdhajinaa
open Go.RowKit
theorem no_mask (W : World) : Sub W (mask (fun _ => False) W) := ⟨by rw [mask_size]; exact Nat.le_refl _, fun a v h => by rw [mask_cell (S := fun _ => False) W (a := a) (fun e => e)]; exact h⟩
theorem agg9_inj {x0 x1 x2 x3 x4 x5 x6 x7 x8 y0 y1 y2 y3 y4 y5 y6 y7 y8 : Value} (h : Value.agg #[x0, x1, x2, x3, x4, x5, x6, x7, x8] = Value.agg #[y0, y1, y2, y3, y4, y5, y6, y7, y8]) : x0 = y0 ∧ x1 = y1 ∧ x2 = y2 ∧ x3 = y3 ∧ x4 = y4 ∧ x5 = y5 ∧ x6 = y6 ∧ x7 = y7 ∧ x8 = y8 := by
  simpa using h
section
variable {g q p : Nat} {vs cs : List Value} {v : Value} {s t : Dk} {w1 W : World}
theorem rg_do (h : Reg g q p vs cs v s t w1 W) (op : OpT) (da : Option Addr) (dl dc : Nat) (hs : op.2.1.length ≤ 140737488351232) (ht : op.2.2.1.length ≤ 140737488351232) (hB : Bd 90000000 s) (hd : HoldsB W (.slice da dl dc) op.2.2.2) (hdl : op.2.2.2.length ≤ 1000000000) :
    Calls Try.prog 12 #[.pointer (some ⟨g, 0, none⟩), .agg #[.int .i64 (meant op.1), .string ⟨op.2.1.toArray⟩, .string ⟨op.2.2.1.toArray⟩, .slice da dl dc]] W fun e W' => e = .returned (.int .i64 (s.step (dop op)).2) ∧ Reg g q p vs cs v (s.step (dop op)).1 t w1 W' := by
  obtain ⟨o, h1, h2⟩ := h
  refine (doMC h1.liv op da dl dc hs ht hB hd hdl).mono ?_
  rintro e W' ⟨rfl, o', l, hg⟩
  exact ⟨rfl, o', two_grow h1 l hg, kp_grow h2 hg⟩
theorem rg_steps (h : Reg g q p vs cs v s t w1 W) : Calls Try.prog 13 #[.pointer (some ⟨g, 0, none⟩)] W fun e W' => e = .returned (.int .i64 (s.n : Int)) ∧ Reg g q p vs cs v s t w1 W' := by
  obtain ⟨o, h1, h2⟩ := h
  refine (stepsC h1.liv.dsk).mono ?_
  rintro e W' ⟨rfl, rfl⟩
  exact ⟨rfl, o, h1, h2⟩
theorem rg_down (h : Reg g q p vs cs v s t w1 W) : Calls Try.prog 14 #[.pointer (some ⟨g, 0, none⟩)] W fun e W' => e = .returned (.bool s.down) ∧ Reg g q p vs cs v s t w1 W' := by
  have h0 := h
  obtain ⟨o, h1, h2⟩ := h
  refine (downC h1.liv.dsk).mono ?_
  rintro e W' ⟨rfl, n, rfl⟩
  exact ⟨rfl, reg_below h0 (below_drewN _ _)⟩
theorem rg_downR (h : Reg g q p vs cs v s t w1 W) : Calls Try.prog 15 #[v] W fun e W' => e = .returned (.bool t.down) ∧ Reg g q p vs cs v s t w1 W' := by
  have h0 := h
  obtain ⟨o, h1, h2⟩ := h
  refine (downRC (two_refS h1)).mono ?_
  rintro e W' ⟨rfl, hb⟩
  exact ⟨rfl, reg_below h0 hb⟩
theorem rg_used (h : Reg g q p vs cs v s t w1 W) (hB : Bd 1000000000 s) : Calls Try.prog 16 #[.pointer (some ⟨g, 0, none⟩)] W fun e W' => e = .returned (.int .i64 (s.used : Int)) ∧ Reg g q p vs cs v s t w1 W' := by
  have h0 := h
  obtain ⟨o, h1, h2⟩ := h
  refine (usedC h1.liv.dsk hB).mono ?_
  rintro e W' ⟨rfl, hb⟩
  exact ⟨rfl, reg_below h0 hb⟩
theorem rg_usedR (h : Reg g q p vs cs v s t w1 W) (hw : Wf t) (hl : t.now.length ≤ 1000000000) (hu : t.used ≤ 1000000000000000000) : Calls Try.prog 17 #[v] W fun e W' => e = .returned (.int .i64 (t.used : Int)) ∧ Reg g q p vs cs v s t w1 W' := by
  have h0 := h
  obtain ⟨o, h1, h2⟩ := h
  refine (usedRC (two_refS h1) hw hl hu).mono ?_
  rintro e W' ⟨rfl, hb⟩
  exact ⟨rfl, reg_below h0 hb⟩
theorem rg_list (h : Reg g q p vs cs v s t w1 W) (hB : Bd 1000000000 s) : Calls Try.prog 19 #[.pointer (some ⟨g, 0, none⟩)] W fun e W' => ∃ u, e = .returned u ∧ (Holds W' u s.list ∧ Below W.heap.size W W') ∧ Reg g q p vs cs v s t w1 W' := by
  have h0 := h
  obtain ⟨o, h1, h2⟩ := h
  refine (listC h1.liv.dsk hB).mono ?_
  rintro e W' ⟨u, rfl, ho⟩
  exact ⟨u, rfl, ⟨holds_own ho, ho.2⟩, reg_below h0 ho.2⟩
theorem rg_listR (h : Reg g q p vs cs v s t w1 W) (hl : t.now.length ≤ 1000000000) : Calls Try.prog 20 #[v] W fun e W' => ∃ u, e = .returned u ∧ (Holds W' u t.list ∧ Below W.heap.size W W') ∧ Reg g q p vs cs v s t w1 W' := by
  have h0 := h
  obtain ⟨o, h1, h2⟩ := h
  refine (listRC (two_refS h1) hl).mono ?_
  rintro e W' ⟨u, rfl, ho, hb⟩
  exact ⟨u, rfl, ⟨ho, hb⟩, reg_below h0 hb⟩
theorem rg_same (h : Reg g q p vs cs v s t w1 W) (ua ub : Value) (L : List (List UInt8)) (ha : Holds W ua L) (hb : Holds W ub L) (hl : L.length ≤ 1000000000000000) : Calls Try.prog 18 #[ua, ub] W fun e W' => e = .returned (.bool true) ∧ Reg g q p vs cs v s t w1 W' := by
  refine (sameTe ua ub L W ha hb hl).mono ?_
  rintro e W' ⟨rfl, hb⟩
  exact ⟨rfl, reg_below h hb⟩
end
theorem reg_cells {g q p : Nat} {v0 v1 v2 v3 v4 v5 v6 v7 v8 u0 u1 u2 u3 v : Value} {s t : Dk} {w1 W : World} (h : Reg g q p [v0, v1, v2, v3, v4, v5, v6, v7, v8] [u0, u1, u2, u3] v s t w1 W) :
    (W.cell? ⟨q, 0, none⟩ = some v0 ∧ W.cell? ⟨q, 1, none⟩ = some v1 ∧ W.cell? ⟨q, 2, none⟩ = some v2 ∧ W.cell? ⟨q, 3, none⟩ = some v3 ∧ W.cell? ⟨q, 4, none⟩ = some v4 ∧ W.cell? ⟨q, 5, none⟩ = some v5 ∧ W.cell? ⟨q, 6, none⟩ = some v6 ∧ W.cell? ⟨q, 7, none⟩ = some v7 ∧ W.cell? ⟨q, 8, none⟩ = some v8) ∧ (W.cell? ⟨p, 0, none⟩ = some u0 ∧ W.cell? ⟨p, 1, none⟩ = some u1 ∧ W.cell? ⟨p, 2, none⟩ = some u2 ∧ W.cell? ⟨p, 3, none⟩ = some u3) := by
  obtain ⟨o, h1, h2⟩ := h
  exact ⟨cells_9 h1.kp.blk, (cells_4 h2.blk).1⟩
theorem act_fails (s : Dk) (o : DOp) (k : Nat) : (s.act o k).1.fails = s.fails := by
  unfold Dk.act Dk.named
  repeat' split
  all_goals rfl
theorem step_fails (s : Dk) (o : DOp) : (s.step o).1.fails = s.fails := by
  unfold Dk.step
  repeat' split
  all_goals first | rfl | exact act_fails _ _ _
theorem run_fails : ∀ (os : List OpT) (s : Dk), (runD s os).fails = s.fails := by
  intro os
  induction os with
  | nil => intro s; rfl
  | cons o r ih =>
    intro s
    show (runD (s.step (dop o)).1 r).fails = s.fails
    rw [ih, step_fails]
theorem kp_put {o : Ow} {w1 W : World} {p q : Nat} {cs : List Value} (h : Kp o w1 p cs W) (hne : p ≠ q) (us : List Value) : Kp o w1 p cs (putFrom q 0 W us) := by
  have go : ∀ (us : List Value) (k : Nat) (W : World), Blk p W cs → Blk p (putFrom q k W us) cs := by
    intro us
    induction us with
    | nil => intro k W h; exact h
    | cons u r ih => intro k W h; exact ih (k + 1) _ (cells_other h hne u)
  exact ⟨h.out, h.lo, go us 0 W h.blk⟩
theorem step_dop (s : Dk) (op : OpT) : s.step ⟨meant op.1, (⟨op.2.1.toArray⟩ : ByteArray).data.toList, (⟨op.2.2.1.toArray⟩ : ByteArray).data.toList, op.2.2.2⟩ = s.step (dop op) := by simp [dop]
theorem list_lenB {s : Dk} {m : Nat} (h : Bd m s) : s.list.length ≤ m := by
  unfold Dk.list
  split
  · exact Nat.zero_le _
  · rw [List.length_map]; exact h.2.2.1
theorem used_bdM {s : Dk} (h : Bd 3000000 s) : s.used ≤ 1000000000000000000 := by
  have h1 := h.2.2.1
  have h2 := h.2.2.2.2.2
  have key : ∀ l : NL, (l.map (fun p => (s.data.getD p.2 []).length)).sum ≤ l.length * 3000000 := by
    intro l
    induction l with
    | nil => simp
    | cons x r ih => simp only [List.map_cons, List.sum_cons, List.length_cons]; have := h2 x.2; omega
  have := key s.now
  unfold Dk.used
  omega
theorem read_lenB {s : Dk} (h : Bd 3000000 s) (nm : Nm) : (s.read nm).1.length ≤ 1000000000000000 := by
  unfold Dk.read
  split
  · simp
  · split
    · simp
    · split
      · simp
      · have := h.2.2.2.2.2; rename_i k _; have := this k; simp only; omega
/-- both disks are s -/
def Sid (g q : Nat) (s : Dk) (w1 W : World) : Prop := ∃ o, ∃ x0 x1 x2 x3 x4 x6 : Sl, Two o g q [.slice x0.a x0.n x0.c, .slice x1.a x1.n x1.c, .slice x2.a x2.n x2.c, .slice x3.a x3.n x3.c, .slice x4.a x4.n x4.c, .int .i64 s.room, .slice x6.a x6.n x6.c, .int .i64 s.power, .int .i64 (s.n : Int)] (.agg #[.slice x0.a x0.n x0.c, .slice x1.a x1.n x1.c, .slice x2.a x2.n x2.c, .slice x3.a x3.n x3.c, .slice x4.a x4.n x4.c, .int .i64 s.room, .slice x6.a x6.n x6.c, .int .i64 s.power, .int .i64 (s.n : Int)]) s s w1 W
end Go.Proofs.Ytjemaacdhajinaa
namespace Go.Proofs.Ytjemaacdhajinaa
open Go.RowKit
set_option maxRecDepth 20000 in
set_option maxHeartbeats 16000000 in
theorem stepsLC {w : World} {fv zv ov : Value} {fs : FL} {fails : List Int} {os : List OpT} (room power : Int) (hf : HoldsFi w fv fs) (hz : HoldsI w zv fails) (ho : HoldsO w ov os) (b1 : bulkF fs ≤ 1048576) (b2 : fails.length ≤ 1048576) (b3 : bulkO os ≤ 1048576)
    (zb : ∀ z ∈ fails, -9223372036854775808 ≤ z ∧ z ≤ 9223372036854775807) :
    Calls Try.prog 3 #[.agg #[fv, .int .i64 room, zv, .int .i64 power], ov] w fun e w' => e = .returned (.bool true) ∧ Below w.heap.size w w' := by
  obtain ⟨fa, fc, hfv, _⟩ := id hf
  obtain ⟨za, zc, hzv, _⟩ := id hz
  obtain ⟨oa, oc, hov, _⟩ := ho_slice ho
  have HF := hide' hf
  have HZ := hide' hz
  have HO := hide' ho
  have B1 := hide' b1
  have B2 := hide' b2
  have B3 := hide' b3
  have ZB := hide' zb
  have BS : Hid (Blk w.heap.size (w.alloc (.cells #[fv, .int .i64 room, zv, .int .i64 power] 25)) [fv, .int .i64 room, zv, .int .i64 power] ∧ Below w.heap.size w (w.alloc (.cells #[fv, .int .i64 room, zv, .int .i64 power] 25))) := ⟨by simpa using cells_lit w #[fv, .int .i64 room, zv, .int .i64 power] 25, below_alloc' _ _⟩
  subst hfv hzv hov
  rename_i y1 y2 y3
  clear y1 y2 y3 hf hz ho b1 b2 b3 zb
  obtain ⟨nf, hnf⟩ : ∃ n, n = fs.length := ⟨_, rfl⟩
  obtain ⟨nz, hnz⟩ : ∃ n, n = fails.length := ⟨_, rfl⟩
  obtain ⟨no, hno⟩ : ∃ n, n = os.length := ⟨_, rfl⟩
  rw [← hnf, ← hnz] at BS
  rw [← hnf] at HF
  rw [← hnz] at HZ
  rw [← hno] at HO
  rw [← hnf, ← hnz, ← hno]
  clear hnf hnz hno
  go_enter Try.func3, Try.ntmps3
  go_wp2_with fail
  generalize (w.alloc (.cells #[.slice fa nf fc, .int .i64 room, .slice za nz zc, .int .i64 power] 25)) = W3 at BS ⊢
  refine (aliveC W3).mono ?_
  rintro e w1 ⟨rfl, hb1⟩
  have BS1 : Hid (Blk w.heap.size w1 [.slice fa nf fc, .int .i64 room, .slice za nz zc, .int .i64 power] ∧ Below w.heap.size w w1) := ⟨cells_below BS.out.1 hb1, BS.out.2.trans (hb1.mono BS.out.2.size)⟩
  clear hb1 BS
  obtain ⟨⟨x0, x1, x2, x3⟩, _⟩ := cells_4 BS1.out.1
  have CB := hide' (beginC (.slice fa nf fc) fs room (.slice za nz zc) fails power w1 (holdsFi_mono HF.out BS1.out.2) (holdsI_mono HZ.out BS1.out.2) (fun f h => by have := bulkF_mem fs f h; have := B1.out; omega) (by have := bulkF_len fs; have := B1.out; omega) (by have := B2.out; omega) ZB.out)
  go_wp2_with fail
  refine CB.out.mono ?_
  intro e w2 np
  clear x0 x1 x2 x3 CB
  obtain ⟨nb, hor⟩ := np
  have BS2 : Hid (Blk w.heap.size w2 [.slice fa nf fc, .int .i64 room, .slice za nz zc, .int .i64 power] ∧ Below w.heap.size w w2) := ⟨cells_below BS1.out.1 nb, BS1.out.2.trans (nb.mono BS1.out.2.size)⟩
  obtain ⟨⟨x0, x1, x2, x3⟩, _⟩ := cells_4 BS2.out.1
  obtain ⟨ne, rfl⟩ | ⟨hne0, g, o, rfl, hD, hO⟩ := hor
  · have CN := hide' (newRC (Sx := fun _ => False) (w := w2) (fun _ e => e.elim) (.slice fa nf fc) fs room (.slice za nz zc) fails power (holdsFi_mono HF.out BS2.out.2) (holdsI_sub (no_mask w2) (holdsI_mono HZ.out BS2.out.2)) (fun f h => by have := bulkF_mem fs f h; have := B1.out; omega) (by have := bulkF_len fs; have := B1.out; omega))
    have ne' : ((newE fs room) != 0) = true := by simpa using ne
    clear nb
    generalize newE fs room = er at ne ne' CN ⊢
    go_wp2_with fail
    refine CN.out.mono ?_
    rintro e w3 ⟨v0, v1, v2, v3, v4, v5, v6, v7, v8, rfl, hb3, -, hzz⟩
    have hzz := hzz ne
    simp only [List.cons.injEq, and_true] at hzz
    obtain ⟨rfl, rfl, rfl, rfl, rfl, rfl, rfl, rfl, rfl⟩ := hzz
    have NB := hide' (BS2.out.2.trans (hb3.mono BS2.out.2.size))
    clear hb3 x0 x1 x2 x3 CN
    go_wp2_with fail
    go_ret
    exact ⟨rfl, NB.out.trans ((below_alloc' _ _).mono NB.out.size)⟩
  have L0 : Hid (Liv o g (newS fs room fails power) w1 w2) := ⟨hD, hO, nb⟩
  have NE := hide' hne0
  have BW : Hid (Below w.heap.size w w1) := BS1.out.2
  have CN := hide' (newRC (Sx := o.has) (w := w2) (dsk_lt hD) (.slice fa nf fc) fs room (.slice za nz zc) fails power (holdsFi_mono HF.out BS2.out.2) (holdsI_sub (in_sub BS1.out.2 nb hO) HZ.out) (fun f h => by have := bulkF_mem fs f h; have := B1.out; omega) (by have := bulkF_len fs; have := B1.out; omega))
  rw [hne0] at CN
  clear hD hO nb hne0 BS1 BS2
  go_wp2_with fail
  refine CN.out.mono ?_
  rintro e w3 ⟨v0, v1, v2, v3, v4, v5, v6, v7, v8, rfl, hb3, hr, -⟩
  obtain ⟨⟨a0, n0, c0⟩, ⟨a1, n1, c1⟩, ⟨a2, n2, c2⟩, ⟨a3, n3, c3⟩, ⟨a4, n4, c4⟩, ⟨a6, n6, c6⟩, ev, hv⟩ := id (hr (by first | rfl | trivial))
  have hr := hr (by first | rfl | trivial)
  unfold stV at ev
  dsimp only at ev
  obtain ⟨rfl, rfl, rfl, rfl, rfl, rfl, rfl, rfl, rfl⟩ := agg9_inj ev
  have TW : Hid (Two o g w3.heap.size [.slice a0 n0 c0, .slice a1 n1 c1, .slice a2 n2 c2, .slice a3 n3 c3, .slice a4 n4 c4, .int .i64 (newS fs room fails power).room, .slice a6 n6 c6, .int .i64 (newS fs room fails power).power, .int .i64 ((newS fs room fails power).n : Int)] (.agg #[.slice a0 n0 c0, .slice a1 n1 c1, .slice a2 n2 c2, .slice a3 n3 c3, .slice a4 n4 c4, .int .i64 (newS fs room fails power).room, .slice a6 n6 c6, .int .i64 (newS fs room fails power).power, .int .i64 ((newS fs room fails power).n : Int)]) (newS fs room fails power) (newS fs room fails power) w1 (w3.alloc (.cells #[.slice a0 n0 c0, .slice a1 n1 c1, .slice a2 n2 c2, .slice a3 n3 c3, .slice a4 n4 c4, .int .i64 (newS fs room fails power).room, .slice a6 n6 c6, .int .i64 (newS fs room fails power).power, .int .i64 ((newS fs room fails power).n : Int)] 36))) := two_start (liv_below L0.out hb3) hr (below_alloc' _ _) (by simpa using cells_lit w3 #[.slice a0 n0 c0, .slice a1 n1 c1, .slice a2 n2 c2, .slice a3 n3 c3, .slice a4 n4 c4, .int .i64 (newS fs room fails power).room, .slice a6 n6 c6, .int .i64 (newS fs room fails power).power, .int .i64 ((newS fs room fails power).n : Int)] 36)
  clear hv ev hr hb3 CN x0 x1 x2 x3 L0
  obtain ⟨S0, hS0⟩ : ∃ S, S = newS fs room fails power := ⟨_, rfl⟩
  have ES0 := hide' hS0
  rw [← hS0] at TW ⊢
  clear hS0
  go_wp2_with fail
  generalize (w3.alloc (.cells #[.slice a0 n0 c0, .slice a1 n1 c1, .slice a2 n2 c2, .slice a3 n3 c3, .slice a4 n4 c4, .int .i64 S0.room, .slice a6 n6 c6, .int .i64 S0.power, .int .i64 (S0.n : Int)] 36)) = w4 at TW ⊢
  have C0 := hide' (cutC (.slice oa no oc) os w4 (holdsO_mono HO.out (BW.out.trans (TW.out.liv.bel.mono BW.out.size))) (by have := bulk_len os; have := B3.out; omega))
  refine C0.out.mono ?_
  rintro e w5 ⟨u, rfl, hu, rfl⟩
  have hcut := hu w HO.out
  obtain ⟨ua, uc, huv, hpos⟩ := ho_slice hcut
  have CUT := hide' hcut
  have BT : Hid (bulkO (os.take 300) ≤ 1048576) := Nat.le_trans (bulk_take os 300) B3.out
  clear C0 hu hcut
  generalize os.take 300 = ot at CUT huv hpos BT
  subst huv
  obtain ⟨nt, hnt⟩ : ∃ n, n = ot.length := ⟨_, rfl⟩
  have NT := hide' hnt
  rw [← hnt] at hpos ⊢
  have lnt : nt ≤ 1048576 := by have := bulk_len ot; have := BT.out; omega
  have BDS : Hid (∀ j, Bd 3000000 (runD S0 (ot.take j))) := fun j => by
    rw [ES0.out]
    exact bd_mono (bd_run (ot.take j) (bd_new fs room fails power 1048576 (by have := bulkF_len fs; have := B1.out; omega) (fun f h => by have := bulkF_mem fs f h; have := B1.out; omega))) (by have := bulk_take ot j; have := BT.out; omega)
  have RUN : Hid (∀ j (h : j < ot.length), runD S0 (ot.take (j + 1)) = ((runD S0 (ot.take j)).step (dop ot[j])).1) := fun j h => run_snoc _ ot j h
  have FLS : Hid (∀ j, (runD S0 (ot.take j)).fails.length ≤ 1048576) := fun j => by
    rw [run_fails, ES0.out]; exact B2.out
  obtain ⟨q, hq⟩ : ∃ q, q = w3.heap.size := ⟨_, rfl⟩
  rw [← hq] at TW ⊢
  have SD : Hid (Sid g q S0 w1 w5) := ⟨o, ⟨a0, n0, c0⟩, ⟨a1, n1, c1⟩, ⟨a2, n2, c2⟩, ⟨a3, n3, c3⟩, ⟨a4, n4, c4⟩, ⟨a6, n6, c6⟩, TW.out⟩
  clear hnt hq TW
  go_wp2_with fail
  go_loopw [9] (fun i wr => ∃ j : Nat, j ≤ nt ∧ i = .int .i64 j ∧ Hid (Sid g q (runD S0 (ot.take j)) w1 wr)) (fun i _ => nt - (intOf i).toNat)
  case atStart => exact ⟨0, by omega, rfl, SD⟩
  case round =>
    obtain ⟨j, hj, rfl, HL⟩ := hrel
    by_cases hlt : j < nt
    · have hj' : j < ot.length := by rw [← NT.out]; exact hlt
      obtain ⟨b, off, rfl⟩ := hpos (by omega)
      obtain ⟨o, ⟨a0, n0, c0⟩, ⟨a1, n1, c1⟩, ⟨a2, n2, c2⟩, ⟨a3, n3, c3⟩, ⟨a4, n4, c4⟩, ⟨a6, n6, c6⟩, hT⟩ := HL.out
      dsimp only at hT
      have hbw : Below w.heap.size w wr := BW.out.trans (hT.liv.bel.mono BW.out.size)
      obtain ⟨da, dl, dc, ⟨q0, q1, q2, q3⟩, hdat⟩ := op_at CUT.out j hj'
      replace q0 := (hbw.cell (cell_lt q0)).trans q0
      replace q1 := (hbw.cell (cell_lt q1)).trans q1
      replace q2 := (hbw.cell (cell_lt q2)).trans q2
      replace q3 := (hbw.cell (cell_lt q3)).trans q3
      have hbo := bulk_mem ot _ (List.getElem_mem hj')
      have hbt := BT.out
      have BDj := hide' (BDS.out j)
      have BDk := hide' (BDS.out (j + 1))
      have FLj := hide' (FLS.out j)
      have WFj := hide' (dsk_wf hT.liv.dsk).1
      have HD := hide' hdat
      have LN : Hid ((ot[j]'hj').2.1.length ≤ 1048576 ∧ (ot[j]'hj').2.2.1.length ≤ 1048576 ∧ (ot[j]'hj').2.2.2.length ≤ 1048576) := ⟨by omega, by omega, by omega⟩
      have RN := hide' (RUN.out j hj')
      have TW := hide' hT
      have CS := hide' (opC (ot[j]'hj').1 ⟨(ot[j]'hj').2.1.toArray⟩ ⟨(ot[j]'hj').2.2.1.toArray⟩ da dl dc wr)
      obtain ⟨s', es'⟩ : ∃ s', s' = runD S0 (ot.take (j + 1)) := ⟨_, rfl⟩
      have ES := hide' es'
      rw [← es'] at BDk RN
      clear hdat hbo hbt hT hbw HL es'
      generalize ot[j]'hj' = op at q0 q1 q2 q3 HD LN RN CS
      generalize runD S0 (ot.take j) = s at TW BDj FLj WFj RN
      go_wp2_with fail
      refine CS.out.mono ?_
      rintro e w6 ⟨rfl, hb6⟩
      have TW6 := hide' (two_below TW.out hb6)
      have TW7 := hide' (two_below TW6.out (below_alloc' w6 (.cells #[.int .i64 (meant op.1), .string ⟨op.2.1.toArray⟩, .string ⟨op.2.2.1.toArray⟩, .slice da dl dc] 42)))
      have KP7 : Hid (Kp o w1 w6.heap.size [.int .i64 (meant op.1), .string ⟨op.2.1.toArray⟩, .string ⟨op.2.2.1.toArray⟩, .slice da dl dc] (w6.alloc (.cells #[.int .i64 (meant op.1), .string ⟨op.2.1.toArray⟩, .string ⟨op.2.2.1.toArray⟩, .slice da dl dc] 42))) := kp_new TW6.out.liv (by simpa using cells_lit w6 #[.int .i64 (meant op.1), .string ⟨op.2.1.toArray⟩, .string ⟨op.2.2.1.toArray⟩, .slice da dl dc] 42)
      have hpq : w6.heap.size ≠ q := fun e => by have := TW6.out.kp.blk.2; omega
      have HPQ := hide' hpq
      obtain ⟨c0', c1', c2', c3', c4', c5', c6', c7', c8'⟩ := cells_9 TW7.out.kp.blk
      clear CS q0 q1 q2 q3 TW TW6 hb6 hpq
      go_wp2_with fail
      clear c0' c1' c2' c3' c4' c5' c6' c7' c8'
      generalize w6.alloc (.cells #[.int .i64 (meant op.1), .string ⟨op.2.1.toArray⟩, .string ⟨op.2.2.1.toArray⟩, .slice da dl dc] 42) = w7 at TW7 KP7 ⊢
      obtain ⟨p, hp⟩ : ∃ p, p = w6.heap.size := ⟨_, rfl⟩
      rw [← hp] at KP7 HPQ ⊢
      clear hp
      have CT := hide' (stepRC (S := NoB o q) (two_lt TW7.out) TW7.out.ref WFj.out (bd_mono BDj.out (by omega)) (meant op.1) (meant_in _) ⟨op.2.1.toArray⟩ ⟨op.2.2.1.toArray⟩ da dl dc op.2.2.2 (holdsB_mono HD.out (BW.out.trans (TW7.out.liv.bel.mono BW.out.size))) (by rw [size_l]; have := LN.out.1; omega) (by rw [size_l]; have := LN.out.2.1; omega) (by have := LN.out.2.2; omega) (by have := FLj.out; omega))
      rw [step_dop, ← RN.out] at CT
      refine CT.out.mono ?_
      rintro e w8 ⟨v', rfl, hr8, hb8⟩
      obtain ⟨⟨ra0, rn0, rc0⟩, ⟨ra1, rn1, rc1⟩, ⟨ra2, rn2, rc2⟩, ⟨ra3, rn3, rc3⟩, ⟨ra4, rn4, rc4⟩, ⟨ra6, rn6, rc6⟩, ev, -⟩ := id hr8
      unfold stV at ev
      dsimp only at ev
      subst ev
      have TW9 := hide' (two_below (two_ref TW7.out hb8 hr8) (below_alloc' w8 (.cells #[.slice ra0 rn0 rc0, .slice ra1 rn1 rc1, .slice ra2 rn2 rc2, .slice ra3 rn3 rc3, .slice ra4 rn4 rc4, .int .i64 s'.room, .slice ra6 rn6 rc6, .int .i64 s'.power, .int .i64 (s'.n : Int)] 36)))
      have KP9 := hide' (kp_below (kp_below KP7.out hb8) (below_alloc' w8 (.cells #[.slice ra0 rn0 rc0, .slice ra1 rn1 rc1, .slice ra2 rn2 rc2, .slice ra3 rn3 rc3, .slice ra4 rn4 rc4, .int .i64 s'.room, .slice ra6 rn6 rc6, .int .i64 s'.power, .int .i64 (s'.n : Int)] 36)))
      have TWX := two_put TW9.out (us := [.slice ra0 rn0 rc0, .slice ra1 rn1 rc1, .slice ra2 rn2 rc2, .slice ra3 rn3 rc3, .slice ra4 rn4 rc4, .int .i64 s'.room, .slice ra6 rn6 rc6, .int .i64 s'.power, .int .i64 (s'.n : Int)]) rfl
      have KPX := kp_put KP9.out HPQ.out [.slice ra0 rn0 rc0, .slice ra1 rn1 rc1, .slice ra2 rn2 rc2, .slice ra3 rn3 rc3, .slice ra4 rn4 rc4, .int .i64 s'.room, .slice ra6 rn6 rc6, .int .i64 s'.power, .int .i64 (s'.n : Int)]
      simp only [putFrom] at TWX KPX
      obtain ⟨⟨c0', c1', c2', c3', c4', c5', c6', c7', c8'⟩, f0, f1, f2, f3, f4, f5, f6, f7, f8⟩ := cells_9a TW9.out.kp.blk
      have RX : Hid (Reg g q p [.slice ra0 rn0 rc0, .slice ra1 rn1 rc1, .slice ra2 rn2 rc2, .slice ra3 rn3 rc3, .slice ra4 rn4 rc4, .int .i64 s'.room, .slice ra6 rn6 rc6, .int .i64 s'.power, .int .i64 (s'.n : Int)] [.int .i64 (meant op.1), .string ⟨op.2.1.toArray⟩, .string ⟨op.2.2.1.toArray⟩, .slice da dl dc] (.agg #[.slice ra0 rn0 rc0, .slice ra1 rn1 rc1, .slice ra2 rn2 rc2, .slice ra3 rn3 rc3, .slice ra4 rn4 rc4, .int .i64 s'.room, .slice ra6 rn6 rc6, .int .i64 s'.power, .int .i64 (s'.n : Int)]) s s' w1 (((((((((((w8.alloc (.cells #[.slice ra0 rn0 rc0, .slice ra1 rn1 rc1, .slice ra2 rn2 rc2, .slice ra3 rn3 rc3, .slice ra4 rn4 rc4, .int .i64 s'.room, .slice ra6 rn6 rc6, .int .i64 s'.power, .int .i64 (s'.n : Int)] 36)).setCell ⟨q, 0, none⟩ (.slice ra0 rn0 rc0)).setCell ⟨q, 1, none⟩ (.slice ra1 rn1 rc1)).setCell ⟨q, 2, none⟩ (.slice ra2 rn2 rc2)).setCell ⟨q, 3, none⟩ (.slice ra3 rn3 rc3)).setCell ⟨q, 4, none⟩ (.slice ra4 rn4 rc4)).setCell ⟨q, 5, none⟩ (.int .i64 s'.room)).setCell ⟨q, 6, none⟩ (.slice ra6 rn6 rc6)).setCell ⟨q, 7, none⟩ (.int .i64 s'.power)).setCell ⟨q, 8, none⟩ (.int .i64 (s'.n : Int))))) := ⟨o, TWX, KPX⟩
      clear TW7 KP7 hb8 hr8 CT TW9 KP9 TWX KPX
      go_wp2_with fail
      clear c0' c1' c2' c3' c4' c5' c6' c7' c8' f0 f1 f2 f3 f4 f5 f6 f7 f8
      generalize ((((((((((w8.alloc (.cells #[.slice ra0 rn0 rc0, .slice ra1 rn1 rc1, .slice ra2 rn2 rc2, .slice ra3 rn3 rc3, .slice ra4 rn4 rc4, .int .i64 s'.room, .slice ra6 rn6 rc6, .int .i64 s'.power, .int .i64 (s'.n : Int)] 36)).setCell ⟨q, 0, none⟩ (.slice ra0 rn0 rc0)).setCell ⟨q, 1, none⟩ (.slice ra1 rn1 rc1)).setCell ⟨q, 2, none⟩ (.slice ra2 rn2 rc2)).setCell ⟨q, 3, none⟩ (.slice ra3 rn3 rc3)).setCell ⟨q, 4, none⟩ (.slice ra4 rn4 rc4)).setCell ⟨q, 5, none⟩ (.int .i64 s'.room)).setCell ⟨q, 6, none⟩ (.slice ra6 rn6 rc6)).setCell ⟨q, 7, none⟩ (.int .i64 s'.power)).setCell ⟨q, 8, none⟩ (.int .i64 (s'.n : Int))) = wA at RX ⊢
      have WFk : Hid (Wf s') := by rw [RN.out]; exact wf_step WFj.out _
      have CD : Hid (∀ Wx, Hid (Reg g q p [.slice ra0 rn0 rc0, .slice ra1 rn1 rc1, .slice ra2 rn2 rc2, .slice ra3 rn3 rc3, .slice ra4 rn4 rc4, .int .i64 s'.room, .slice ra6 rn6 rc6, .int .i64 s'.power, .int .i64 (s'.n : Int)] [.int .i64 (meant op.1), .string ⟨op.2.1.toArray⟩, .string ⟨op.2.2.1.toArray⟩, .slice da dl dc] (.agg #[.slice ra0 rn0 rc0, .slice ra1 rn1 rc1, .slice ra2 rn2 rc2, .slice ra3 rn3 rc3, .slice ra4 rn4 rc4, .int .i64 s'.room, .slice ra6 rn6 rc6, .int .i64 s'.power, .int .i64 (s'.n : Int)]) s s' w1 Wx) → Calls Try.prog 12 #[.pointer (some ⟨g, 0, none⟩), .agg #[.int .i64 (meant op.1), .string ⟨op.2.1.toArray⟩, .string ⟨op.2.2.1.toArray⟩, .slice da dl dc]] Wx fun e w' => e = .returned (.int .i64 (s.step (dop op)).2) ∧ Hid (Reg g q p [.slice ra0 rn0 rc0, .slice ra1 rn1 rc1, .slice ra2 rn2 rc2, .slice ra3 rn3 rc3, .slice ra4 rn4 rc4, .int .i64 s'.room, .slice ra6 rn6 rc6, .int .i64 s'.power, .int .i64 (s'.n : Int)] [.int .i64 (meant op.1), .string ⟨op.2.1.toArray⟩, .string ⟨op.2.2.1.toArray⟩, .slice da dl dc] (.agg #[.slice ra0 rn0 rc0, .slice ra1 rn1 rc1, .slice ra2 rn2 rc2, .slice ra3 rn3 rc3, .slice ra4 rn4 rc4, .int .i64 s'.room, .slice ra6 rn6 rc6, .int .i64 s'.power, .int .i64 (s'.n : Int)]) s' s' w1 w') ∧ (w'.cell? ⟨q, 0, none⟩ = some (.slice ra0 rn0 rc0) ∧ w'.cell? ⟨q, 1, none⟩ = some (.slice ra1 rn1 rc1) ∧ w'.cell? ⟨q, 2, none⟩ = some (.slice ra2 rn2 rc2) ∧ w'.cell? ⟨q, 3, none⟩ = some (.slice ra3 rn3 rc3) ∧ w'.cell? ⟨q, 4, none⟩ = some (.slice ra4 rn4 rc4) ∧ w'.cell? ⟨q, 5, none⟩ = some (.int .i64 s'.room) ∧ w'.cell? ⟨q, 6, none⟩ = some (.slice ra6 rn6 rc6) ∧ w'.cell? ⟨q, 7, none⟩ = some (.int .i64 s'.power) ∧ w'.cell? ⟨q, 8, none⟩ = some (.int .i64 (s'.n : Int))) ∧ (w'.cell? ⟨p, 0, none⟩ = some (.int .i64 (meant op.1)) ∧ w'.cell? ⟨p, 1, none⟩ = some (.string ⟨op.2.1.toArray⟩) ∧ w'.cell? ⟨p, 2, none⟩ = some (.string ⟨op.2.2.1.toArray⟩) ∧ w'.cell? ⟨p, 3, none⟩ = some (.slice da dl dc))) := fun Wx h => by
        obtain ⟨o2, h1, h2⟩ := h.out
        refine (rg_do h.out op da dl dc (by have := LN.out.1; omega) (by have := LN.out.2.1; omega) (bd_mono BDj.out (by omega)) (holdsB_mono HD.out (BW.out.trans (h1.liv.bel.mono BW.out.size))) (by have := LN.out.2.2; omega)).mono ?_
        rintro e w' ⟨rfl, hr⟩
        rw [← RN.out] at hr
        exact ⟨rfl, hr, reg_cells hr⟩
      have C1 : Hid (∀ Wx, Hid (Reg g q p [.slice ra0 rn0 rc0, .slice ra1 rn1 rc1, .slice ra2 rn2 rc2, .slice ra3 rn3 rc3, .slice ra4 rn4 rc4, .int .i64 s'.room, .slice ra6 rn6 rc6, .int .i64 s'.power, .int .i64 (s'.n : Int)] [.int .i64 (meant op.1), .string ⟨op.2.1.toArray⟩, .string ⟨op.2.2.1.toArray⟩, .slice da dl dc] (.agg #[.slice ra0 rn0 rc0, .slice ra1 rn1 rc1, .slice ra2 rn2 rc2, .slice ra3 rn3 rc3, .slice ra4 rn4 rc4, .int .i64 s'.room, .slice ra6 rn6 rc6, .int .i64 s'.power, .int .i64 (s'.n : Int)]) s' s' w1 Wx) → Calls Try.prog 13 #[.pointer (some ⟨g, 0, none⟩)] Wx fun e w' => e = .returned (.int .i64 (s'.n : Int)) ∧ Hid (Reg g q p [.slice ra0 rn0 rc0, .slice ra1 rn1 rc1, .slice ra2 rn2 rc2, .slice ra3 rn3 rc3, .slice ra4 rn4 rc4, .int .i64 s'.room, .slice ra6 rn6 rc6, .int .i64 s'.power, .int .i64 (s'.n : Int)] [.int .i64 (meant op.1), .string ⟨op.2.1.toArray⟩, .string ⟨op.2.2.1.toArray⟩, .slice da dl dc] (.agg #[.slice ra0 rn0 rc0, .slice ra1 rn1 rc1, .slice ra2 rn2 rc2, .slice ra3 rn3 rc3, .slice ra4 rn4 rc4, .int .i64 s'.room, .slice ra6 rn6 rc6, .int .i64 s'.power, .int .i64 (s'.n : Int)]) s' s' w1 w') ∧ (w'.cell? ⟨q, 0, none⟩ = some (.slice ra0 rn0 rc0) ∧ w'.cell? ⟨q, 1, none⟩ = some (.slice ra1 rn1 rc1) ∧ w'.cell? ⟨q, 2, none⟩ = some (.slice ra2 rn2 rc2) ∧ w'.cell? ⟨q, 3, none⟩ = some (.slice ra3 rn3 rc3) ∧ w'.cell? ⟨q, 4, none⟩ = some (.slice ra4 rn4 rc4) ∧ w'.cell? ⟨q, 5, none⟩ = some (.int .i64 s'.room) ∧ w'.cell? ⟨q, 6, none⟩ = some (.slice ra6 rn6 rc6) ∧ w'.cell? ⟨q, 7, none⟩ = some (.int .i64 s'.power) ∧ w'.cell? ⟨q, 8, none⟩ = some (.int .i64 (s'.n : Int))) ∧ (w'.cell? ⟨p, 0, none⟩ = some (.int .i64 (meant op.1)) ∧ w'.cell? ⟨p, 1, none⟩ = some (.string ⟨op.2.1.toArray⟩) ∧ w'.cell? ⟨p, 2, none⟩ = some (.string ⟨op.2.2.1.toArray⟩) ∧ w'.cell? ⟨p, 3, none⟩ = some (.slice da dl dc))) := fun Wx h => by
        refine (rg_steps h.out).mono ?_
        rintro e w' ⟨rfl, hr⟩
        exact ⟨rfl, hr, reg_cells hr⟩
      have C2 : Hid (∀ Wx, Hid (Reg g q p [.slice ra0 rn0 rc0, .slice ra1 rn1 rc1, .slice ra2 rn2 rc2, .slice ra3 rn3 rc3, .slice ra4 rn4 rc4, .int .i64 s'.room, .slice ra6 rn6 rc6, .int .i64 s'.power, .int .i64 (s'.n : Int)] [.int .i64 (meant op.1), .string ⟨op.2.1.toArray⟩, .string ⟨op.2.2.1.toArray⟩, .slice da dl dc] (.agg #[.slice ra0 rn0 rc0, .slice ra1 rn1 rc1, .slice ra2 rn2 rc2, .slice ra3 rn3 rc3, .slice ra4 rn4 rc4, .int .i64 s'.room, .slice ra6 rn6 rc6, .int .i64 s'.power, .int .i64 (s'.n : Int)]) s' s' w1 Wx) → Calls Try.prog 14 #[.pointer (some ⟨g, 0, none⟩)] Wx fun e w' => e = .returned (.bool s'.down) ∧ Hid (Reg g q p [.slice ra0 rn0 rc0, .slice ra1 rn1 rc1, .slice ra2 rn2 rc2, .slice ra3 rn3 rc3, .slice ra4 rn4 rc4, .int .i64 s'.room, .slice ra6 rn6 rc6, .int .i64 s'.power, .int .i64 (s'.n : Int)] [.int .i64 (meant op.1), .string ⟨op.2.1.toArray⟩, .string ⟨op.2.2.1.toArray⟩, .slice da dl dc] (.agg #[.slice ra0 rn0 rc0, .slice ra1 rn1 rc1, .slice ra2 rn2 rc2, .slice ra3 rn3 rc3, .slice ra4 rn4 rc4, .int .i64 s'.room, .slice ra6 rn6 rc6, .int .i64 s'.power, .int .i64 (s'.n : Int)]) s' s' w1 w') ∧ (w'.cell? ⟨q, 0, none⟩ = some (.slice ra0 rn0 rc0) ∧ w'.cell? ⟨q, 1, none⟩ = some (.slice ra1 rn1 rc1) ∧ w'.cell? ⟨q, 2, none⟩ = some (.slice ra2 rn2 rc2) ∧ w'.cell? ⟨q, 3, none⟩ = some (.slice ra3 rn3 rc3) ∧ w'.cell? ⟨q, 4, none⟩ = some (.slice ra4 rn4 rc4) ∧ w'.cell? ⟨q, 5, none⟩ = some (.int .i64 s'.room) ∧ w'.cell? ⟨q, 6, none⟩ = some (.slice ra6 rn6 rc6) ∧ w'.cell? ⟨q, 7, none⟩ = some (.int .i64 s'.power) ∧ w'.cell? ⟨q, 8, none⟩ = some (.int .i64 (s'.n : Int))) ∧ (w'.cell? ⟨p, 0, none⟩ = some (.int .i64 (meant op.1)) ∧ w'.cell? ⟨p, 1, none⟩ = some (.string ⟨op.2.1.toArray⟩) ∧ w'.cell? ⟨p, 2, none⟩ = some (.string ⟨op.2.2.1.toArray⟩) ∧ w'.cell? ⟨p, 3, none⟩ = some (.slice da dl dc))) := fun Wx h => by
        refine (rg_down h.out).mono ?_
        rintro e w' ⟨rfl, hr⟩
        exact ⟨rfl, hr, reg_cells hr⟩
      have C3 : Hid (∀ Wx, Hid (Reg g q p [.slice ra0 rn0 rc0, .slice ra1 rn1 rc1, .slice ra2 rn2 rc2, .slice ra3 rn3 rc3, .slice ra4 rn4 rc4, .int .i64 s'.room, .slice ra6 rn6 rc6, .int .i64 s'.power, .int .i64 (s'.n : Int)] [.int .i64 (meant op.1), .string ⟨op.2.1.toArray⟩, .string ⟨op.2.2.1.toArray⟩, .slice da dl dc] (.agg #[.slice ra0 rn0 rc0, .slice ra1 rn1 rc1, .slice ra2 rn2 rc2, .slice ra3 rn3 rc3, .slice ra4 rn4 rc4, .int .i64 s'.room, .slice ra6 rn6 rc6, .int .i64 s'.power, .int .i64 (s'.n : Int)]) s' s' w1 Wx) → Calls Try.prog 15 #[.agg #[.slice ra0 rn0 rc0, .slice ra1 rn1 rc1, .slice ra2 rn2 rc2, .slice ra3 rn3 rc3, .slice ra4 rn4 rc4, .int .i64 s'.room, .slice ra6 rn6 rc6, .int .i64 s'.power, .int .i64 (s'.n : Int)]] Wx fun e w' => e = .returned (.bool s'.down) ∧ Hid (Reg g q p [.slice ra0 rn0 rc0, .slice ra1 rn1 rc1, .slice ra2 rn2 rc2, .slice ra3 rn3 rc3, .slice ra4 rn4 rc4, .int .i64 s'.room, .slice ra6 rn6 rc6, .int .i64 s'.power, .int .i64 (s'.n : Int)] [.int .i64 (meant op.1), .string ⟨op.2.1.toArray⟩, .string ⟨op.2.2.1.toArray⟩, .slice da dl dc] (.agg #[.slice ra0 rn0 rc0, .slice ra1 rn1 rc1, .slice ra2 rn2 rc2, .slice ra3 rn3 rc3, .slice ra4 rn4 rc4, .int .i64 s'.room, .slice ra6 rn6 rc6, .int .i64 s'.power, .int .i64 (s'.n : Int)]) s' s' w1 w') ∧ (w'.cell? ⟨q, 0, none⟩ = some (.slice ra0 rn0 rc0) ∧ w'.cell? ⟨q, 1, none⟩ = some (.slice ra1 rn1 rc1) ∧ w'.cell? ⟨q, 2, none⟩ = some (.slice ra2 rn2 rc2) ∧ w'.cell? ⟨q, 3, none⟩ = some (.slice ra3 rn3 rc3) ∧ w'.cell? ⟨q, 4, none⟩ = some (.slice ra4 rn4 rc4) ∧ w'.cell? ⟨q, 5, none⟩ = some (.int .i64 s'.room) ∧ w'.cell? ⟨q, 6, none⟩ = some (.slice ra6 rn6 rc6) ∧ w'.cell? ⟨q, 7, none⟩ = some (.int .i64 s'.power) ∧ w'.cell? ⟨q, 8, none⟩ = some (.int .i64 (s'.n : Int))) ∧ (w'.cell? ⟨p, 0, none⟩ = some (.int .i64 (meant op.1)) ∧ w'.cell? ⟨p, 1, none⟩ = some (.string ⟨op.2.1.toArray⟩) ∧ w'.cell? ⟨p, 2, none⟩ = some (.string ⟨op.2.2.1.toArray⟩) ∧ w'.cell? ⟨p, 3, none⟩ = some (.slice da dl dc))) := fun Wx h => by
        refine (rg_downR h.out).mono ?_
        rintro e w' ⟨rfl, hr⟩
        exact ⟨rfl, hr, reg_cells hr⟩
      have C4 : Hid (∀ Wx, Hid (Reg g q p [.slice ra0 rn0 rc0, .slice ra1 rn1 rc1, .slice ra2 rn2 rc2, .slice ra3 rn3 rc3, .slice ra4 rn4 rc4, .int .i64 s'.room, .slice ra6 rn6 rc6, .int .i64 s'.power, .int .i64 (s'.n : Int)] [.int .i64 (meant op.1), .string ⟨op.2.1.toArray⟩, .string ⟨op.2.2.1.toArray⟩, .slice da dl dc] (.agg #[.slice ra0 rn0 rc0, .slice ra1 rn1 rc1, .slice ra2 rn2 rc2, .slice ra3 rn3 rc3, .slice ra4 rn4 rc4, .int .i64 s'.room, .slice ra6 rn6 rc6, .int .i64 s'.power, .int .i64 (s'.n : Int)]) s' s' w1 Wx) → Calls Try.prog 16 #[.pointer (some ⟨g, 0, none⟩)] Wx fun e w' => e = .returned (.int .i64 (s'.used : Int)) ∧ Hid (Reg g q p [.slice ra0 rn0 rc0, .slice ra1 rn1 rc1, .slice ra2 rn2 rc2, .slice ra3 rn3 rc3, .slice ra4 rn4 rc4, .int .i64 s'.room, .slice ra6 rn6 rc6, .int .i64 s'.power, .int .i64 (s'.n : Int)] [.int .i64 (meant op.1), .string ⟨op.2.1.toArray⟩, .string ⟨op.2.2.1.toArray⟩, .slice da dl dc] (.agg #[.slice ra0 rn0 rc0, .slice ra1 rn1 rc1, .slice ra2 rn2 rc2, .slice ra3 rn3 rc3, .slice ra4 rn4 rc4, .int .i64 s'.room, .slice ra6 rn6 rc6, .int .i64 s'.power, .int .i64 (s'.n : Int)]) s' s' w1 w') ∧ (w'.cell? ⟨q, 0, none⟩ = some (.slice ra0 rn0 rc0) ∧ w'.cell? ⟨q, 1, none⟩ = some (.slice ra1 rn1 rc1) ∧ w'.cell? ⟨q, 2, none⟩ = some (.slice ra2 rn2 rc2) ∧ w'.cell? ⟨q, 3, none⟩ = some (.slice ra3 rn3 rc3) ∧ w'.cell? ⟨q, 4, none⟩ = some (.slice ra4 rn4 rc4) ∧ w'.cell? ⟨q, 5, none⟩ = some (.int .i64 s'.room) ∧ w'.cell? ⟨q, 6, none⟩ = some (.slice ra6 rn6 rc6) ∧ w'.cell? ⟨q, 7, none⟩ = some (.int .i64 s'.power) ∧ w'.cell? ⟨q, 8, none⟩ = some (.int .i64 (s'.n : Int))) ∧ (w'.cell? ⟨p, 0, none⟩ = some (.int .i64 (meant op.1)) ∧ w'.cell? ⟨p, 1, none⟩ = some (.string ⟨op.2.1.toArray⟩) ∧ w'.cell? ⟨p, 2, none⟩ = some (.string ⟨op.2.2.1.toArray⟩) ∧ w'.cell? ⟨p, 3, none⟩ = some (.slice da dl dc))) := fun Wx h => by
        refine (rg_used h.out (bd_mono BDk.out (by omega))).mono ?_
        rintro e w' ⟨rfl, hr⟩
        exact ⟨rfl, hr, reg_cells hr⟩
      have C5 : Hid (∀ Wx, Hid (Reg g q p [.slice ra0 rn0 rc0, .slice ra1 rn1 rc1, .slice ra2 rn2 rc2, .slice ra3 rn3 rc3, .slice ra4 rn4 rc4, .int .i64 s'.room, .slice ra6 rn6 rc6, .int .i64 s'.power, .int .i64 (s'.n : Int)] [.int .i64 (meant op.1), .string ⟨op.2.1.toArray⟩, .string ⟨op.2.2.1.toArray⟩, .slice da dl dc] (.agg #[.slice ra0 rn0 rc0, .slice ra1 rn1 rc1, .slice ra2 rn2 rc2, .slice ra3 rn3 rc3, .slice ra4 rn4 rc4, .int .i64 s'.room, .slice ra6 rn6 rc6, .int .i64 s'.power, .int .i64 (s'.n : Int)]) s' s' w1 Wx) → Calls Try.prog 17 #[.agg #[.slice ra0 rn0 rc0, .slice ra1 rn1 rc1, .slice ra2 rn2 rc2, .slice ra3 rn3 rc3, .slice ra4 rn4 rc4, .int .i64 s'.room, .slice ra6 rn6 rc6, .int .i64 s'.power, .int .i64 (s'.n : Int)]] Wx fun e w' => e = .returned (.int .i64 (s'.used : Int)) ∧ Hid (Reg g q p [.slice ra0 rn0 rc0, .slice ra1 rn1 rc1, .slice ra2 rn2 rc2, .slice ra3 rn3 rc3, .slice ra4 rn4 rc4, .int .i64 s'.room, .slice ra6 rn6 rc6, .int .i64 s'.power, .int .i64 (s'.n : Int)] [.int .i64 (meant op.1), .string ⟨op.2.1.toArray⟩, .string ⟨op.2.2.1.toArray⟩, .slice da dl dc] (.agg #[.slice ra0 rn0 rc0, .slice ra1 rn1 rc1, .slice ra2 rn2 rc2, .slice ra3 rn3 rc3, .slice ra4 rn4 rc4, .int .i64 s'.room, .slice ra6 rn6 rc6, .int .i64 s'.power, .int .i64 (s'.n : Int)]) s' s' w1 w') ∧ (w'.cell? ⟨q, 0, none⟩ = some (.slice ra0 rn0 rc0) ∧ w'.cell? ⟨q, 1, none⟩ = some (.slice ra1 rn1 rc1) ∧ w'.cell? ⟨q, 2, none⟩ = some (.slice ra2 rn2 rc2) ∧ w'.cell? ⟨q, 3, none⟩ = some (.slice ra3 rn3 rc3) ∧ w'.cell? ⟨q, 4, none⟩ = some (.slice ra4 rn4 rc4) ∧ w'.cell? ⟨q, 5, none⟩ = some (.int .i64 s'.room) ∧ w'.cell? ⟨q, 6, none⟩ = some (.slice ra6 rn6 rc6) ∧ w'.cell? ⟨q, 7, none⟩ = some (.int .i64 s'.power) ∧ w'.cell? ⟨q, 8, none⟩ = some (.int .i64 (s'.n : Int))) ∧ (w'.cell? ⟨p, 0, none⟩ = some (.int .i64 (meant op.1)) ∧ w'.cell? ⟨p, 1, none⟩ = some (.string ⟨op.2.1.toArray⟩) ∧ w'.cell? ⟨p, 2, none⟩ = some (.string ⟨op.2.2.1.toArray⟩) ∧ w'.cell? ⟨p, 3, none⟩ = some (.slice da dl dc))) := fun Wx h => by
        refine (rg_usedR h.out WFk.out (by have := BDk.out.2.2.1; omega) (used_bdM BDk.out)).mono ?_
        rintro e w' ⟨rfl, hr⟩
        exact ⟨rfl, hr, reg_cells hr⟩
      have C6 : Hid (∀ Wx, Hid (Reg g q p [.slice ra0 rn0 rc0, .slice ra1 rn1 rc1, .slice ra2 rn2 rc2, .slice ra3 rn3 rc3, .slice ra4 rn4 rc4, .int .i64 s'.room, .slice ra6 rn6 rc6, .int .i64 s'.power, .int .i64 (s'.n : Int)] [.int .i64 (meant op.1), .string ⟨op.2.1.toArray⟩, .string ⟨op.2.2.1.toArray⟩, .slice da dl dc] (.agg #[.slice ra0 rn0 rc0, .slice ra1 rn1 rc1, .slice ra2 rn2 rc2, .slice ra3 rn3 rc3, .slice ra4 rn4 rc4, .int .i64 s'.room, .slice ra6 rn6 rc6, .int .i64 s'.power, .int .i64 (s'.n : Int)]) s' s' w1 Wx) → Calls Try.prog 19 #[.pointer (some ⟨g, 0, none⟩)] Wx fun e w' => ∃ u, e = .returned (u) ∧ Hid (Holds w' u s'.list ∧ Below Wx.heap.size Wx w') ∧ Hid (Reg g q p [.slice ra0 rn0 rc0, .slice ra1 rn1 rc1, .slice ra2 rn2 rc2, .slice ra3 rn3 rc3, .slice ra4 rn4 rc4, .int .i64 s'.room, .slice ra6 rn6 rc6, .int .i64 s'.power, .int .i64 (s'.n : Int)] [.int .i64 (meant op.1), .string ⟨op.2.1.toArray⟩, .string ⟨op.2.2.1.toArray⟩, .slice da dl dc] (.agg #[.slice ra0 rn0 rc0, .slice ra1 rn1 rc1, .slice ra2 rn2 rc2, .slice ra3 rn3 rc3, .slice ra4 rn4 rc4, .int .i64 s'.room, .slice ra6 rn6 rc6, .int .i64 s'.power, .int .i64 (s'.n : Int)]) s' s' w1 w') ∧ (w'.cell? ⟨q, 0, none⟩ = some (.slice ra0 rn0 rc0) ∧ w'.cell? ⟨q, 1, none⟩ = some (.slice ra1 rn1 rc1) ∧ w'.cell? ⟨q, 2, none⟩ = some (.slice ra2 rn2 rc2) ∧ w'.cell? ⟨q, 3, none⟩ = some (.slice ra3 rn3 rc3) ∧ w'.cell? ⟨q, 4, none⟩ = some (.slice ra4 rn4 rc4) ∧ w'.cell? ⟨q, 5, none⟩ = some (.int .i64 s'.room) ∧ w'.cell? ⟨q, 6, none⟩ = some (.slice ra6 rn6 rc6) ∧ w'.cell? ⟨q, 7, none⟩ = some (.int .i64 s'.power) ∧ w'.cell? ⟨q, 8, none⟩ = some (.int .i64 (s'.n : Int))) ∧ (w'.cell? ⟨p, 0, none⟩ = some (.int .i64 (meant op.1)) ∧ w'.cell? ⟨p, 1, none⟩ = some (.string ⟨op.2.1.toArray⟩) ∧ w'.cell? ⟨p, 2, none⟩ = some (.string ⟨op.2.2.1.toArray⟩) ∧ w'.cell? ⟨p, 3, none⟩ = some (.slice da dl dc))) := fun Wx h => by
        refine (rg_list h.out (bd_mono BDk.out (by omega))).mono ?_
        rintro e w' ⟨u, rfl, hu, hr⟩
        exact ⟨u, rfl, hu, hr, reg_cells hr⟩
      have C7 : Hid (∀ Wx, Hid (Reg g q p [.slice ra0 rn0 rc0, .slice ra1 rn1 rc1, .slice ra2 rn2 rc2, .slice ra3 rn3 rc3, .slice ra4 rn4 rc4, .int .i64 s'.room, .slice ra6 rn6 rc6, .int .i64 s'.power, .int .i64 (s'.n : Int)] [.int .i64 (meant op.1), .string ⟨op.2.1.toArray⟩, .string ⟨op.2.2.1.toArray⟩, .slice da dl dc] (.agg #[.slice ra0 rn0 rc0, .slice ra1 rn1 rc1, .slice ra2 rn2 rc2, .slice ra3 rn3 rc3, .slice ra4 rn4 rc4, .int .i64 s'.room, .slice ra6 rn6 rc6, .int .i64 s'.power, .int .i64 (s'.n : Int)]) s' s' w1 Wx) → Calls Try.prog 20 #[.agg #[.slice ra0 rn0 rc0, .slice ra1 rn1 rc1, .slice ra2 rn2 rc2, .slice ra3 rn3 rc3, .slice ra4 rn4 rc4, .int .i64 s'.room, .slice ra6 rn6 rc6, .int .i64 s'.power, .int .i64 (s'.n : Int)]] Wx fun e w' => ∃ u, e = .returned (u) ∧ Hid (Holds w' u s'.list ∧ Below Wx.heap.size Wx w') ∧ Hid (Reg g q p [.slice ra0 rn0 rc0, .slice ra1 rn1 rc1, .slice ra2 rn2 rc2, .slice ra3 rn3 rc3, .slice ra4 rn4 rc4, .int .i64 s'.room, .slice ra6 rn6 rc6, .int .i64 s'.power, .int .i64 (s'.n : Int)] [.int .i64 (meant op.1), .string ⟨op.2.1.toArray⟩, .string ⟨op.2.2.1.toArray⟩, .slice da dl dc] (.agg #[.slice ra0 rn0 rc0, .slice ra1 rn1 rc1, .slice ra2 rn2 rc2, .slice ra3 rn3 rc3, .slice ra4 rn4 rc4, .int .i64 s'.room, .slice ra6 rn6 rc6, .int .i64 s'.power, .int .i64 (s'.n : Int)]) s' s' w1 w') ∧ (w'.cell? ⟨q, 0, none⟩ = some (.slice ra0 rn0 rc0) ∧ w'.cell? ⟨q, 1, none⟩ = some (.slice ra1 rn1 rc1) ∧ w'.cell? ⟨q, 2, none⟩ = some (.slice ra2 rn2 rc2) ∧ w'.cell? ⟨q, 3, none⟩ = some (.slice ra3 rn3 rc3) ∧ w'.cell? ⟨q, 4, none⟩ = some (.slice ra4 rn4 rc4) ∧ w'.cell? ⟨q, 5, none⟩ = some (.int .i64 s'.room) ∧ w'.cell? ⟨q, 6, none⟩ = some (.slice ra6 rn6 rc6) ∧ w'.cell? ⟨q, 7, none⟩ = some (.int .i64 s'.power) ∧ w'.cell? ⟨q, 8, none⟩ = some (.int .i64 (s'.n : Int))) ∧ (w'.cell? ⟨p, 0, none⟩ = some (.int .i64 (meant op.1)) ∧ w'.cell? ⟨p, 1, none⟩ = some (.string ⟨op.2.1.toArray⟩) ∧ w'.cell? ⟨p, 2, none⟩ = some (.string ⟨op.2.2.1.toArray⟩) ∧ w'.cell? ⟨p, 3, none⟩ = some (.slice da dl dc))) := fun Wx h => by
        refine (rg_listR h.out (by have := BDk.out.2.2.1; omega)).mono ?_
        rintro e w' ⟨u, rfl, hu, hr⟩
        exact ⟨u, rfl, hu, hr, reg_cells hr⟩
      have CE : Hid (∀ Wx ua ub, Hid (Reg g q p [.slice ra0 rn0 rc0, .slice ra1 rn1 rc1, .slice ra2 rn2 rc2, .slice ra3 rn3 rc3, .slice ra4 rn4 rc4, .int .i64 s'.room, .slice ra6 rn6 rc6, .int .i64 s'.power, .int .i64 (s'.n : Int)] [.int .i64 (meant op.1), .string ⟨op.2.1.toArray⟩, .string ⟨op.2.2.1.toArray⟩, .slice da dl dc] (.agg #[.slice ra0 rn0 rc0, .slice ra1 rn1 rc1, .slice ra2 rn2 rc2, .slice ra3 rn3 rc3, .slice ra4 rn4 rc4, .int .i64 s'.room, .slice ra6 rn6 rc6, .int .i64 s'.power, .int .i64 (s'.n : Int)]) s' s' w1 Wx) → Holds Wx ua s'.list → Holds Wx ub s'.list → Calls Try.prog 18 #[ua, ub] Wx fun e w' => e = .returned (.bool true) ∧ Hid (Reg g q p [.slice ra0 rn0 rc0, .slice ra1 rn1 rc1, .slice ra2 rn2 rc2, .slice ra3 rn3 rc3, .slice ra4 rn4 rc4, .int .i64 s'.room, .slice ra6 rn6 rc6, .int .i64 s'.power, .int .i64 (s'.n : Int)] [.int .i64 (meant op.1), .string ⟨op.2.1.toArray⟩, .string ⟨op.2.2.1.toArray⟩, .slice da dl dc] (.agg #[.slice ra0 rn0 rc0, .slice ra1 rn1 rc1, .slice ra2 rn2 rc2, .slice ra3 rn3 rc3, .slice ra4 rn4 rc4, .int .i64 s'.room, .slice ra6 rn6 rc6, .int .i64 s'.power, .int .i64 (s'.n : Int)]) s' s' w1 w') ∧ (w'.cell? ⟨q, 0, none⟩ = some (.slice ra0 rn0 rc0) ∧ w'.cell? ⟨q, 1, none⟩ = some (.slice ra1 rn1 rc1) ∧ w'.cell? ⟨q, 2, none⟩ = some (.slice ra2 rn2 rc2) ∧ w'.cell? ⟨q, 3, none⟩ = some (.slice ra3 rn3 rc3) ∧ w'.cell? ⟨q, 4, none⟩ = some (.slice ra4 rn4 rc4) ∧ w'.cell? ⟨q, 5, none⟩ = some (.int .i64 s'.room) ∧ w'.cell? ⟨q, 6, none⟩ = some (.slice ra6 rn6 rc6) ∧ w'.cell? ⟨q, 7, none⟩ = some (.int .i64 s'.power) ∧ w'.cell? ⟨q, 8, none⟩ = some (.int .i64 (s'.n : Int))) ∧ (w'.cell? ⟨p, 0, none⟩ = some (.int .i64 (meant op.1)) ∧ w'.cell? ⟨p, 1, none⟩ = some (.string ⟨op.2.1.toArray⟩) ∧ w'.cell? ⟨p, 2, none⟩ = some (.string ⟨op.2.2.1.toArray⟩) ∧ w'.cell? ⟨p, 3, none⟩ = some (.slice da dl dc))) := fun Wx ua ub h ha hb => by
        refine (rg_same h.out ua ub s'.list ha hb (by have := list_lenB BDk.out; omega)).mono ?_
        rintro e w' ⟨rfl, hr⟩
        exact ⟨rfl, hr, reg_cells hr⟩
      obtain ⟨⟨k0, k1, k2, k3, k4, k5, k6, k7, k8⟩, ⟨l0, l1, l2, l3⟩⟩ := reg_cells RX.out
      generalize (s.step (dop op)).2 = er at CD ⊢
      generalize s'.down = dn at C2 C3
      generalize s'.used = un at C4 C5
      go_region_held3 (fun w' => w'.cell? ⟨q, 0, none⟩ = some (.slice ra0 rn0 rc0) ∧ w'.cell? ⟨q, 1, none⟩ = some (.slice ra1 rn1 rc1) ∧ w'.cell? ⟨q, 2, none⟩ = some (.slice ra2 rn2 rc2) ∧ w'.cell? ⟨q, 3, none⟩ = some (.slice ra3 rn3 rc3) ∧ w'.cell? ⟨q, 4, none⟩ = some (.slice ra4 rn4 rc4) ∧ w'.cell? ⟨q, 5, none⟩ = some (.int .i64 s'.room) ∧ w'.cell? ⟨q, 6, none⟩ = some (.slice ra6 rn6 rc6) ∧ w'.cell? ⟨q, 7, none⟩ = some (.int .i64 s'.power) ∧ w'.cell? ⟨q, 8, none⟩ = some (.int .i64 (s'.n : Int)) ∧ w'.cell? ⟨p, 0, none⟩ = some (.int .i64 (meant op.1)) ∧ w'.cell? ⟨p, 1, none⟩ = some (.string ⟨op.2.1.toArray⟩) ∧ w'.cell? ⟨p, 2, none⟩ = some (.string ⟨op.2.2.1.toArray⟩) ∧ w'.cell? ⟨p, 3, none⟩ = some (.slice da dl dc)) (go_keep)
        (first
          | (go_at_call 12; refine (CD.out _ ?_).mono ?_; (first | exact RX | exact hide' (reg_below RX.out (Below.refl _ _).drew)); rintro e wB ⟨rfl, HB1, ⟨⟨k0, k1, k2, k3, k4, k5, k6, k7, k8⟩, ⟨l0, l1, l2, l3⟩⟩⟩)
          | (go_at_call 13; refine (C1.out _ ?_).mono ?_; exact HB1; rintro e wB0 ⟨rfl, HC0, ⟨⟨k0, k1, k2, k3, k4, k5, k6, k7, k8⟩, ⟨l0, l1, l2, l3⟩⟩⟩)
          | (go_at_call 14; refine (C2.out _ ?_).mono ?_; exact HC0; rintro e wB1 ⟨rfl, HC1, ⟨⟨k0, k1, k2, k3, k4, k5, k6, k7, k8⟩, ⟨l0, l1, l2, l3⟩⟩⟩)
          | (go_at_call 15; refine (C3.out _ ?_).mono ?_; exact HC1; rintro e wB2 ⟨rfl, HC2, ⟨⟨k0, k1, k2, k3, k4, k5, k6, k7, k8⟩, ⟨l0, l1, l2, l3⟩⟩⟩)
          | (go_at_call 16; refine (C4.out _ ?_).mono ?_; exact HC2; rintro e wB3 ⟨rfl, HC3, ⟨⟨k0, k1, k2, k3, k4, k5, k6, k7, k8⟩, ⟨l0, l1, l2, l3⟩⟩⟩)
          | (go_at_call 17; refine (C5.out _ ?_).mono ?_; exact HC3; rintro e wB4 ⟨rfl, HC4, ⟨⟨k0, k1, k2, k3, k4, k5, k6, k7, k8⟩, ⟨l0, l1, l2, l3⟩⟩⟩)
          | (go_at_call 19; refine (C6.out _ ?_).mono ?_; exact HC4; rintro e wL ⟨u1, rfl, HU1, HL1, ⟨⟨k0, k1, k2, k3, k4, k5, k6, k7, k8⟩, ⟨l0, l1, l2, l3⟩⟩⟩)
          | (go_at_call 20; refine (C7.out _ ?_).mono ?_; exact HL1; rintro e wM ⟨u2, rfl, HU2, HL2, ⟨⟨k0, k1, k2, k3, k4, k5, k6, k7, k8⟩, ⟨l0, l1, l2, l3⟩⟩⟩)
          | (go_at_call 18; refine (CE.out _ _ _ HL2 (holds_mono HU1.out.1 HU2.out.2) HU2.out.1).mono ?_; rintro e wS ⟨rfl, RS, ⟨⟨k0, k1, k2, k3, k4, k5, k6, k7, k8⟩, ⟨l0, l1, l2, l3⟩⟩⟩))
      all_goals
        clear k0 k1 k2 k3 k4 k5 k6 k7 k8 l0 l1 l2 l3 CD C1 C2 C3 C4 C5 C6 C7 CE HU1 HU2 HL1 HL2 HB1 HC0 HC1 HC2 HC3 HC4 RX
        obtain ⟨⟨k0, k1, k2, k3, k4, k5, k6, k7, k8⟩, ⟨l0, l1, l2, l3⟩⟩ := reg_cells RS.out
        obtain ⟨oS, hTS, -⟩ := id RS.out
        have CR1 := hide' (readC hTS.liv.dsk ⟨op.2.1.toArray⟩ (by rw [size_l]; have := LN.out.1; omega) (bd_mono BDk.out (by omega)))
        have LR := hide' (read_lenB BDk.out (⟨op.2.1.toArray⟩ : ByteArray).data.toList)
        clear hTS
        obtain ⟨rd, hrd⟩ : ∃ rd, rd = s'.read (⟨op.2.1.toArray⟩ : ByteArray).data.toList := ⟨_, rfl⟩
        have HRD := hide' hrd
        rw [← hrd] at CR1 LR
        clear hrd
        go_wp2_with fail
        refine CR1.out.mono ?_
        rintro e wT ⟨u3, rfl, ho3⟩
        have RT := hide' (reg_below RS.out ho3.2)
        have H3 := hide' (holdsB_own ho3)
        clear k0 k1 k2 k3 k4 k5 k6 k7 k8 l0 l1 l2 l3 CR1 ho3 RS
        obtain ⟨⟨k0, k1, k2, k3, k4, k5, k6, k7, k8⟩, ⟨l0, l1, l2, l3⟩⟩ := reg_cells RT.out
        obtain ⟨oT, hTT, -⟩ := id RT.out
        have CR2 := hide' (readRC (two_refS hTT) WFk.out ⟨op.2.1.toArray⟩ (by rw [size_l]; have := LN.out.1; omega) (by have := BDk.out.2.2.1; omega) (fun i => by have := BDk.out.2.2.2.2.2 i; omega))
        rw [← HRD.out] at CR2
        clear hTT
        go_wp2_with fail
        refine CR2.out.mono ?_
        rintro e wU ⟨u4v, rfl, h4, hb4⟩
        have RU := hide' (reg_below RT.out hb4)
        have CE2 := hide' (sameBe u3 u4v rd.1 wU (holdsB_mono H3.out hb4) h4 LR.out)
        clear k0 k1 k2 k3 k4 k5 k6 k7 k8 l0 l1 l2 l3 CR2 h4 hb4 RT H3
        generalize rd.2 = er2
        go_wp2_with fail
        refine CE2.out.mono ?_
        rintro e wV ⟨rfl, hb5⟩
        have RV := hide' (reg_below RU.out hb5)
        clear CE2 hb5 RU
        go_wp2_with fail
        go_roundw
        case rel =>
          obtain ⟨oV, hTV, -⟩ := RV.out
          exact ⟨j + 1, by omega, by go_num, by rw [← ES.out]; exact ⟨oV, ⟨ra0, rn0, rc0⟩, ⟨ra1, rn1, rc1⟩, ⟨ra2, rn2, rc2⟩, ⟨ra3, rn3, rc3⟩, ⟨ra4, rn4, rc4⟩, ⟨ra6, rn6, rc6⟩, hTV⟩⟩
        case measure => simp [intOf]; omega
    · obtain ⟨o, _, _, _, _, _, _, hT⟩ := HL.out
      have NB := hide' (BW.out.trans (hT.liv.bel.mono BW.out.size))
      clear hT
      go_wp2_with fail
      go_ret
      exact ⟨rfl, NB.out⟩
end Go.Proofs.Ytjemaacdhajinaa
namespace Go.Proofs.Ytjemaacdhajinaa.diskSteps
open Go.ChangeShapes Go.WideShapes Go.ChangeAt Go.RowKit
open Go.ChangeMaps (open_string shut_string)

theorem own : ownKnob Try.prog.godebug = none := by kernel_rfl
set_option maxRecDepth 100000 in
theorem contract (H : Type) (enc : TypeId × Value → H) (W : World) (base : Nat) (args : Array Value) (ds gs : List (DataW H)) (before : List MemPlace)
    (hval : ∀ (j : Nat) t v, Try.f3.params[j]? = some t → args[j]? = some v → Value.okWide Try.prog W .any base t v)
    (hW : DataW.Whole enc Try.prog Try.f3.params.toList Rows.diskStepsSpec.vars false W args.toList ds gs before) (hk0 : Rows.uptoSmall H (ds ++ gs) = true) :
    Calls Try.prog 3 args W fun e W' => ∃ v, e = .returned v ∧ Rows.diskStepsSpec.post enc Try.prog Try.f3 false true false false W args v W' := by
  have hW' := hW
  obtain ⟨p, q, hA0, hV, rfl, hfz, hnd⟩ := hW
  have hA : DataW.TrodAll enc Try.prog W 0 (fun _ => true) true Try.f3.params.toList args.toList ds p := hA0
  rw [Try.params3] at hA hval
  obtain ⟨v0, vs0, d0, ds0, p0, q0, hargs, rfl, rfl, h0, r0⟩ := trodAll_cons hA
  obtain ⟨v1, vs1, d1, ds1, p1, q1, rfl, rfl, rfl, h1, r1⟩ := trodAll_cons r0
  obtain ⟨rfl, rfl, rfl⟩ := trodAll_nil r1
  obtain rfl : args = #[v0, v1] := by cases args; simp_all
  obtain ⟨rfl, rfl⟩ := trodVars_none hV
  have hk := of_decide_eq_true hk0
  simp only [List.append_nil, Rows.uptoBulkAll] at hk
  have lt0 : ∀ x ∈ p0, x.block < W.heap.size := by obtain ⟨m, hm⟩ := h0; exact DataW.trod_lt m _ _ _ hm
  obtain ⟨fv0, fs0, rm0, zv0, zs0, pw0, rfl, H0, G0, K0, w0, x0, z0⟩ := open_start (hval 0 25 v0 rfl rfl) h0
  have lt1 : ∀ x ∈ p1, x.block < W.heap.size := by obtain ⟨m, hm⟩ := h1; exact DataW.trod_lt m _ _ _ hm
  obtain ⟨os1, H1, K1, w1⟩ := open_script (hval 1 26 v1 rfl rfl) h1
  clear hA0
  refine (stepsLC rm0 pw0 H0 G0 H1 (by omega) (by omega) (by omega) z0).mono fun e W' ⟨he, bel⟩ => ?_
  subst he
  exact ⟨_, rfl, _, _, _, [], _, [], hW', trodAll_mk1 (shut_bool Try.underlying4 _), (trodAll_cons_mk (Below.trod laidOut (by kernel_rfl) (of_decide_eq_true (by kernel_rfl)) h0 bel lt0) (trodAll_cons_mk (Below.trod laidOut (by kernel_rfl) (of_decide_eq_true (by kernel_rfl)) h1 bel lt1) trodAll_mk0)), rfl, bel.frame _, fun h => by cases h⟩

/-- a world whose listed variables hold what their text lays -/
def laying (w : World) : World :=
  { w with heap := w.heap }
theorem laid_met (os : Os) : laidMet Try.prog Rows.diskStepsUptoRow.laid ((laying (World.holding Try.prog os ⟨#[], #[], []⟩)).forCall (fun _ _ => 0) ⟨#[], #[.agg #[.slice none 0 0, .int .i64 0, .slice none 0 0, .int .i64 0], .slice none 0 0], []⟩).memory :=
  laidMet_of_run' 8 (by kernel_rfl) (by kernel_rfl)
theorem reads (os : Os) {H : Type} (enc : TypeId × Value → H) : ∃ places, DataW.whole enc Try.prog ((laying (World.holding Try.prog os ⟨#[], #[], []⟩)).forCall (fun _ _ => 0) ⟨#[], #[.agg #[.slice none 0 0, .int .i64 0, .slice none 0 0, .int .i64 0], .slice none 0 0], []⟩).memory Try.f3.params.toList Rows.diskStepsSpec.vars false #[Value.agg #[.slice none 0 0, .int .i64 0, .slice none 0 0, .int .i64 0], Value.slice none 0 0].toList 8 = some ([.agg [.nil, .lit (.int .i64 0), .nil, .lit (.int .i64 0)], .nil], [], places) :=
  ⟨[], by kernel_rfl⟩

set_option maxRecDepth 100000 in
theorem lifted (os : Os) (started : os.Started) (H : Type) (enc : TypeId × Value → H) (F : Stop.Interp) :
    ReturnsInHanded {} Try.checked os 3 .any ((Rows.OpenSpec.upto Rows.diskStepsSpec).preRow enc Try.prog Try.f3 Rows.diskStepsUptoRow.domain false Rows.diskStepsUptoRow.laid) (((Rows.OpenSpec.upto Rows.diskStepsSpec).at F).post enc Try.prog Try.f3 false true false false) := by
  obtain ⟨places, hx⟩ := reads os enc
  refine returnsInHanded_of_row (C := Try.checked) (s := Rows.OpenSpec.upto Rows.diskStepsSpec) own started (by kernel_rfl) Try.func3
    (witness_row_at (enc := enc) (C := Try.checked) false (laying (World.holding Try.prog os ⟨#[], #[], []⟩)) #[.agg #[.slice none 0 0, .int .i64 0, .slice none 0 0, .int .i64 0], .slice none 0 0] rfl (by kernel_rfl) (by kernel_rfl) (by kernel_rfl)
      (OpenSpec.preRow_of_cond 8 hx (by kernel_rfl) (fun k hk => by cases hk; kernel_rfl) (by kernel_rfl) (laid_met os))) ?_
  intro W base args ds gs before hval hW _ hcond _ _ _ _
  exact contract H enc W base args ds gs before hval hW (hcond _ rfl)

theorem said : Rows.DiskStepsUptoSaid :=
  OpenClaim.holds_of_cond 3 Try.f3 rfl rfl rfl rfl rfl rfl rfl ⟨rfl, rfl, rfl, rfl, rfl⟩ rfl rfl rfl rfl rfl (by kernel_rfl) Try.func3 (by kernel_rfl)
    (of_decide_eq_true (by kernel_rfl)) (by unfold Func.isWrapper; first | (rw [if_pos (by decide +kernel)]; kernel_rfl) | (rw [if_neg (by decide +kernel)]; exact ⟨rfl, rfl⟩))
    (fun os started H enc _ F => by rw [OpenClaim.pre_eq_preRow]; exact lifted os started H enc F)
end Go.Proofs.Ytjemaacdhajinaa.diskSteps
namespace Go.Proofs.Ytjemaacdhajinaa
theorem diskSteps_holds : Rows.DiskStepsUptoSaid := diskSteps.said
#print axioms diskSteps_holds
end Go.Proofs.Ytjemaacdhajinaa
