/- What is handed to a disk and what it answers shares no memory with it: after every script of steps, with the copies that were handed in and the answers written over, the disk holds what the document's disk holds, for every start and script that are read within the bounds. -/
import Derived.Test.YtaklfiipkjfjdaaBdF
import Derived.Test.YtaklfiipkjfjdaaBdG
import Derived.Test.YtaklfiipkjfjdaaBdM
import Derived.Test.YtaklfiipkjfjdaaDlF
import Derived.Test.YtaklfiipkjfjdaaCpB
import Derived.Test.YtaklfiipkjfjdaaBdB
import Derived.Deep.RegionHeldLaw
import Derived.Test.YtaklfiipkjfjdaaDrT
import Derived.Test.YtaklfiipkjfjdaaBdI
import Derived.Deep.RegionHeld3
import Derived.Test.YtaklfiipkjfjdaaOpnI
import Derived.Test.YtaklfiipkjfjdaaOpnO
import Derived.Lib.SmallJoins
import Derived.OpenShut
import Derived.ShutString
import Derived.ChangeOld
import Derived.Below
import Derived.SizedLaws
import Derived.Deep.DeepHandedRow
import Derived.Lib.LaidTab
namespace Go.Proofs.Ytaklfiipkjfjdaa
open Go.RowKit
theorem refS_sub {M W : World} {v : Value} {s : Dk} (h : RefS M v s) (hs : Sub M W) : RefS W v s := by
  obtain ⟨x0, x1, x2, x3, x4, x6, e, h⟩ := h
  exact ⟨x0, x1, x2, x3, x4, x6, e, refV_sub h hs⟩
/-- the disk's blocks, and the block q -/
def NoB (o : Ow) (q k : Nat) : Prop := o.has k ∨ k = q
/-- a block that is not the disk's -/
structure Kp (o : Ow) (w1 : World) (p : Nat) (cs : List Value) (W : World) : Prop where
  out : o p = none
  lo : w1.heap.size ≤ p
  blk : Blk p W cs
section
variable {o o' : Ow} {w1 W W' : World} {p g q : Nat} {cs vs us : List Value} {s s' t t' : Dk} {v v' : Value}
theorem kp_below (h : Kp o w1 p cs W) (hb : Below W.heap.size W W') : Kp o w1 p cs W' := ⟨h.out, h.lo, cells_below h.blk hb⟩
theorem kp_grow (h : Kp o w1 p cs W) (hg : Grow o W o' W') : Kp o' w1 p cs W' := by
  have hn : ¬ o.has p := fun e => e h.out
  have hk := hg.off.block p h.blk.2 hn
  refine ⟨?_, h.lo, ⟨fun j hj => ⟨?_, ?_⟩, Nat.lt_of_lt_of_le h.blk.2 hg.off.size⟩⟩
  · cases e : o' p with
    | none => rfl
    | some r =>
      rcases hg.new p (has_of e) with e1 | e1
      · exact absurd e1 hn
      · exact absurd h.blk.2 (by omega)
  · rw [World.cell?_of_block (w := W) (a := ⟨p, j, none⟩) hk]; exact (h.blk.1 j hj).1
  · rw [World.frozen?_of_block (w := W) (a := ⟨p, j, none⟩) hk]; exact (h.blk.1 j hj).2
/-- the program's disk is s, the document's value v is t; q's block holds vs -/
structure Two (o : Ow) (g q : Nat) (vs : List Value) (v : Value) (s t : Dk) (w1 W : World) : Prop where
  liv : Liv o g s w1 W
  kp : Kp o w1 q vs W
  ref : RefS (mask (NoB o q) W) v t
theorem two_lt (h : Two o g q vs v s t w1 W) : ∀ k, NoB o q k → k < W.heap.size := fun k e => e.elim (dsk_lt h.liv.dsk k) (fun e => by rw [e]; exact h.kp.blk.2)
theorem two_refS (h : Two o g q vs v s t w1 W) : RefS W v t := refS_sub h.ref (mask_sub _ _)
theorem two_below (h : Two o g q vs v s t w1 W) (hb : Below W.heap.size W W') : Two o g q vs v s t w1 W' :=
  ⟨liv_below h.liv hb, kp_below h.kp hb, refS_sub h.ref (off_mask (S := NoB o q) (S' := NoB o q) (off_of hb) (fun _ hk => .inl hk))⟩
theorem two_grow (h : Two o g q vs v s t w1 W) (hl : Liv o' g s' w1 W') (hg : Grow o W o' W') : Two o' g q vs v s' t w1 W' :=
  ⟨hl, kp_grow h.kp hg, refS_sub h.ref (off_mask (S := NoB o q) (S' := NoB o' q) (hg.off.mono (fun _ e => .inl e)) (fun k e => e.elim (fun e => (hg.new k e).elim (fun e => .inl (.inl e)) .inr) (fun e => .inl (.inr e))))⟩
theorem two_ref (h : Two o g q vs v s t w1 W) (hb : Below W.heap.size W W') (hr : RefS (mask (NoB o q) W') v' t') : Two o g q vs v' s t' w1 W' := ⟨liv_below h.liv hb, kp_below h.kp hb, hr⟩
theorem two_put (h : Two o g q vs v s t w1 W) (hu : us.length = vs.length) : Two o g q us v s t w1 (putFrom q 0 W us) := by
  refine ⟨⟨dsk_off h.liv.dsk (off_put (S := fun k => k = q) rfl us 0 W) (fun k e => by rw [e]; exact h.kp.out), h.liv.own, below_put h.kp.lo us 0 W h.liv.bel⟩, ⟨h.kp.out, h.kp.lo, ?_⟩, refS_sub h.ref (off_mask (S := NoB o q) (S' := NoB o q) (off_put (.inr rfl) us 0 W) (fun _ e => .inl e))⟩
  have := cells_putFrom us 0 W vs h.kp.blk (by omega)
  rw [List.drop_eq_nil_of_le (by omega)] at this
  simpa using this
/-- the beginning: the document's value, and its block laid -/
theorem two_start (hl : Liv o g s w1 W) (hr : RefS (mask o.has W) v t) (hb : Below W.heap.size W W') (hk : Blk W.heap.size W' vs) : Two o g W.heap.size vs v s t w1 W' :=
  ⟨liv_below hl hb, ⟨by
    cases e : o W.heap.size with
    | none => rfl
    | some r => exact absurd (dsk_lt hl.dsk _ (has_of e)) (by omega), hl.bel.size, hk⟩, refS_sub hr (off_mask (S := o.has) (S' := NoB o W.heap.size) (off_of hb) (fun k e => e.elim .inl (fun e => .inr (by omega))))⟩
/-- a block laid behind what there is -/
theorem kp_new (hl : Liv o g s w1 W) (hk : Blk W.heap.size W' cs) : Kp o w1 W.heap.size cs W' :=
  ⟨by
    cases e : o W.heap.size with
    | none => rfl
    | some r => exact absurd (dsk_lt hl.dsk _ (has_of e)) (by omega), hl.bel.size, hk⟩
end
/-- what came in lies outside of the disk -/
theorem in_sub {o : Ow} {w w1 W : World} (h1 : Below w.heap.size w w1) (hb : Below w1.heap.size w1 W) (ho : ∀ k, o.has k → w1.heap.size ≤ k) : Sub w (mask o.has W) :=
  ⟨by rw [mask_size]; exact Nat.le_trans h1.size hb.size, fun a v h => by
    have hl := cell_lt h
    have hs := h1.size
    rw [mask_cell W (show ¬ o.has a.block from fun e => by have := ho _ e; omega), hb.cell (p := a) (by omega), h1.cell hl]
    exact h⟩
/-- both disks, and one op's block -/
def Reg (g q p : Nat) (vs cs : List Value) (v : Value) (s t : Dk) (w1 W : World) : Prop := ∃ o, Two o g q vs v s t w1 W ∧ Kp o w1 p cs W
theorem reg_below {g q p : Nat} {vs cs : List Value} {v : Value} {s t : Dk} {w1 W W' : World} (h : Reg g q p vs cs v s t w1 W) (hb : Below W.heap.size W W') : Reg g q p vs cs v s t w1 W' := by
  obtain ⟨o, h1, h2⟩ := h
  exact ⟨o, two_below h1 hb, kp_below h2 hb⟩
end Go.Proofs.Ytaklfiipkjfjdaa
namespace Go.Proofs.Ytaklfiipkjfjdaa
open Go.RowKit
theorem no_mask (W : World) : Sub W (mask (fun _ => False) W) := ⟨by rw [mask_size]; exact Nat.le_refl _, fun a v h => by rw [mask_cell (S := fun _ => False) W (a := a) (fun e => e)]; exact h⟩
theorem agg9_inj {x0 x1 x2 x3 x4 x5 x6 x7 x8 y0 y1 y2 y3 y4 y5 y6 y7 y8 : Value} (h : Value.agg #[x0, x1, x2, x3, x4, x5, x6, x7, x8] = Value.agg #[y0, y1, y2, y3, y4, y5, y6, y7, y8]) : x0 = y0 ∧ x1 = y1 ∧ x2 = y2 ∧ x3 = y3 ∧ x4 = y4 ∧ x5 = y5 ∧ x6 = y6 ∧ x7 = y7 ∧ x8 = y8 := by
  simpa using h
section
variable {g q p : Nat} {vs cs : List Value} {v : Value} {s t : Dk} {w1 W : World}
theorem rg_do (h : Reg g q p vs cs v s t w1 W) (op : OpT) (da : Option Addr) (dl dc : Nat) (hs : op.2.1.length ≤ 140737488351232) (ht : op.2.2.1.length ≤ 140737488351232) (hB : Bd 90000000 s) (hd : HoldsB W (.slice da dl dc) op.2.2.2) (hdl : op.2.2.2.length ≤ 1000000000) :
    Calls Try.prog 13 #[.pointer (some ⟨g, 0, none⟩), .agg #[.int .i64 (meant op.1), .string ⟨op.2.1.toArray⟩, .string ⟨op.2.2.1.toArray⟩, .slice da dl dc]] W fun e W' => e = .returned (.int .i64 (s.step (dop op)).2) ∧ Reg g q p vs cs v (s.step (dop op)).1 t w1 W' := by
  obtain ⟨o, h1, h2⟩ := h
  refine (doMC h1.liv op da dl dc hs ht hB hd hdl).mono ?_
  rintro e W' ⟨rfl, o', l, hg⟩
  exact ⟨rfl, o', two_grow h1 l hg, kp_grow h2 hg⟩
theorem rg_down (h : Reg g q p vs cs v s t w1 W) : Calls Try.prog 25 #[.pointer (some ⟨g, 0, none⟩)] W fun e W' => e = .returned (.bool s.down) ∧ Reg g q p vs cs v s t w1 W' := by
  have h0 := h
  obtain ⟨o, h1, h2⟩ := h
  refine (downC h1.liv.dsk).mono ?_
  rintro e W' ⟨rfl, n, rfl⟩
  exact ⟨rfl, reg_below h0 (below_drewN _ _)⟩
theorem rg_downR (h : Reg g q p vs cs v s t w1 W) : Calls Try.prog 36 #[v] W fun e W' => e = .returned (.bool t.down) ∧ Reg g q p vs cs v s t w1 W' := by
  have h0 := h
  obtain ⟨o, h1, h2⟩ := h
  refine (downRC (two_refS h1)).mono ?_
  rintro e W' ⟨rfl, hb⟩
  exact ⟨rfl, reg_below h0 hb⟩
theorem rg_used (h : Reg g q p vs cs v s t w1 W) (hB : Bd 1000000000 s) : Calls Try.prog 33 #[.pointer (some ⟨g, 0, none⟩)] W fun e W' => e = .returned (.int .i64 (s.used : Int)) ∧ Reg g q p vs cs v s t w1 W' := by
  have h0 := h
  obtain ⟨o, h1, h2⟩ := h
  refine (usedC h1.liv.dsk hB).mono ?_
  rintro e W' ⟨rfl, hb⟩
  exact ⟨rfl, reg_below h0 hb⟩
theorem rg_usedR (h : Reg g q p vs cs v s t w1 W) (hw : Wf t) (hl : t.now.length ≤ 1000000000) (hu : t.used ≤ 1000000000000000000) : Calls Try.prog 40 #[v] W fun e W' => e = .returned (.int .i64 (t.used : Int)) ∧ Reg g q p vs cs v s t w1 W' := by
  have h0 := h
  obtain ⟨o, h1, h2⟩ := h
  refine (usedRC (two_refS h1) hw hl hu).mono ?_
  rintro e W' ⟨rfl, hb⟩
  exact ⟨rfl, reg_below h0 hb⟩
theorem rg_list (h : Reg g q p vs cs v s t w1 W) (hB : Bd 1000000000 s) : Calls Try.prog 16 #[.pointer (some ⟨g, 0, none⟩)] W fun e W' => ∃ u, e = .returned u ∧ (Holds W' u s.list ∧ Below W.heap.size W W') ∧ Reg g q p vs cs v s t w1 W' := by
  have h0 := h
  obtain ⟨o, h1, h2⟩ := h
  refine (listC h1.liv.dsk hB).mono ?_
  rintro e W' ⟨u, rfl, ho⟩
  exact ⟨u, rfl, ⟨holds_own ho, ho.2⟩, reg_below h0 ho.2⟩
theorem rg_listR (h : Reg g q p vs cs v s t w1 W) (hl : t.now.length ≤ 1000000000) : Calls Try.prog 21 #[v] W fun e W' => ∃ u, e = .returned u ∧ (Holds W' u t.list ∧ Below W.heap.size W W') ∧ Reg g q p vs cs v s t w1 W' := by
  have h0 := h
  obtain ⟨o, h1, h2⟩ := h
  refine (listRC (two_refS h1) hl).mono ?_
  rintro e W' ⟨u, rfl, ho, hb⟩
  exact ⟨u, rfl, ⟨ho, hb⟩, reg_below h0 hb⟩
theorem rg_same (h : Reg g q p vs cs v s t w1 W) (ua ub : Value) (L : List (List UInt8)) (ha : Holds W ua L) (hb : Holds W ub L) (hl : L.length ≤ 1000000000000000) : Calls Try.prog 20 #[ua, ub] W fun e W' => e = .returned (.bool true) ∧ Reg g q p vs cs v s t w1 W' := by
  refine (sameTe ua ub L W ha hb hl).mono ?_
  rintro e W' ⟨rfl, hb⟩
  exact ⟨rfl, reg_below h hb⟩
end
theorem reg_cells {g q p : Nat} {v0 v1 v2 v3 v4 v5 v6 v7 v8 u0 u1 u2 u3 v : Value} {s t : Dk} {w1 W : World} (h : Reg g q p [v0, v1, v2, v3, v4, v5, v6, v7, v8] [u0, u1, u2, u3] v s t w1 W) :
    (W.cell? ⟨q, 0, none⟩ = some v0 ∧ W.cell? ⟨q, 1, none⟩ = some v1 ∧ W.cell? ⟨q, 2, none⟩ = some v2 ∧ W.cell? ⟨q, 3, none⟩ = some v3 ∧ W.cell? ⟨q, 4, none⟩ = some v4 ∧ W.cell? ⟨q, 5, none⟩ = some v5 ∧ W.cell? ⟨q, 6, none⟩ = some v6 ∧ W.cell? ⟨q, 7, none⟩ = some v7 ∧ W.cell? ⟨q, 8, none⟩ = some v8) ∧ (W.cell? ⟨p, 0, none⟩ = some u0 ∧ W.cell? ⟨p, 1, none⟩ = some u1 ∧ W.cell? ⟨p, 2, none⟩ = some u2 ∧ W.cell? ⟨p, 3, none⟩ = some u3) := by
  obtain ⟨o, h1, h2⟩ := h
  exact ⟨cells_9 h1.kp.blk, (cells_4 h2.blk).1⟩
theorem act_fails (s : Dk) (o : DOp) (k : Nat) : (s.act o k).1.fails = s.fails := by
  unfold Dk.act Dk.named
  repeat' split
  all_goals rfl
theorem step_fails (s : Dk) (o : DOp) : (s.step o).1.fails = s.fails := by
  unfold Dk.step
  repeat' split
  all_goals first | rfl | exact act_fails _ _ _
theorem run_fails : ∀ (os : List OpT) (s : Dk), (runD s os).fails = s.fails := by
  intro os
  induction os with
  | nil => intro s; rfl
  | cons o r ih =>
    intro s
    show (runD (s.step (dop o)).1 r).fails = s.fails
    rw [ih, step_fails]
theorem kp_put {o : Ow} {w1 W : World} {p q : Nat} {cs : List Value} (h : Kp o w1 p cs W) (hne : p ≠ q) (us : List Value) : Kp o w1 p cs (putFrom q 0 W us) := by
  have go : ∀ (us : List Value) (k : Nat) (W : World), Blk p W cs → Blk p (putFrom q k W us) cs := by
    intro us
    induction us with
    | nil => intro k W h; exact h
    | cons u r ih => intro k W h; exact ih (k + 1) _ (cells_other h hne u)
  exact ⟨h.out, h.lo, go us 0 W h.blk⟩
theorem step_dop (s : Dk) (op : OpT) : s.step ⟨meant op.1, (⟨op.2.1.toArray⟩ : ByteArray).data.toList, (⟨op.2.2.1.toArray⟩ : ByteArray).data.toList, op.2.2.2⟩ = s.step (dop op) := by simp [dop]
theorem list_lenB {s : Dk} {m : Nat} (h : Bd m s) : s.list.length ≤ m := by
  unfold Dk.list
  split
  · exact Nat.zero_le _
  · rw [List.length_map]; exact h.2.2.1
theorem used_bdM {s : Dk} (h : Bd 3000000 s) : s.used ≤ 1000000000000000000 := by
  have h1 := h.2.2.1
  have h2 := h.2.2.2.2.2
  have key : ∀ l : NL, (l.map (fun p => (s.data.getD p.2 []).length)).sum ≤ l.length * 3000000 := by
    intro l
    induction l with
    | nil => simp
    | cons x r ih => simp only [List.map_cons, List.sum_cons, List.length_cons]; have := h2 x.2; omega
  have := key s.now
  unfold Dk.used
  omega
theorem read_lenB {s : Dk} (h : Bd 3000000 s) (nm : Nm) : (s.read nm).1.length ≤ 1000000000000000 := by
  unfold Dk.read
  split
  · simp
  · split
    · simp
    · split
      · simp
      · have := h.2.2.2.2.2; rename_i k _; have := this k; simp only; omega
/-- both disks are s -/
def Sid (g q : Nat) (s : Dk) (w1 W : World) : Prop := ∃ o, ∃ x0 x1 x2 x3 x4 x6 : Sl, Two o g q [.slice x0.a x0.n x0.c, .slice x1.a x1.n x1.c, .slice x2.a x2.n x2.c, .slice x3.a x3.n x3.c, .slice x4.a x4.n x4.c, .int .i64 s.room, .slice x6.a x6.n x6.c, .int .i64 s.power, .int .i64 (s.n : Int)] (.agg #[.slice x0.a x0.n x0.c, .slice x1.a x1.n x1.c, .slice x2.a x2.n x2.c, .slice x3.a x3.n x3.c, .slice x4.a x4.n x4.c, .int .i64 s.room, .slice x6.a x6.n x6.c, .int .i64 s.power, .int .i64 (s.n : Int)]) s s w1 W
end Go.Proofs.Ytaklfiipkjfjdaa
namespace Go.Proofs.Ytaklfiipkjfjdaa
open Go.RowKit
def Std (g q : Nat) (vs : List Value) (v : Value) (s : Dk) (w1 W : World) : Prop := ∃ o, Two o g q vs v s s w1 W
section
variable {g q : Nat} {vs : List Value} {v : Value} {s : Dk} {w1 W W' : World}
theorem sd_below (h : Std g q vs v s w1 W) (hb : Below W.heap.size W W') : Std g q vs v s w1 W' := by
  obtain ⟨o, h⟩ := h
  exact ⟨o, two_below h hb⟩
theorem sd_bel (h : Std g q vs v s w1 W) : Below w1.heap.size w1 W := by
  obtain ⟨o, h⟩ := h
  exact h.liv.bel
theorem sd_bd (h : Std g q vs v s w1 W) (hB : Bd 3000000 s) (k : Int) (keep : List Int) : (s.left k keep).length ≤ 6000000 ∧ ∀ f ∈ s.left k keep, f.1.length ≤ 64 ∧ f.2.length ≤ 3000000 := by
  obtain ⟨o, h⟩ := h
  exact left_bd h.liv.dsk hB k keep
theorem sd_left (h : Std g q vs v s w1 W) (k : Int) (kv : Value) (keep : List Int) (hk : HoldsI W kv keep) (hkr : -9223372036854775808 ≤ k ∧ k ≤ 9223372036854775807) (hkb : ∀ z ∈ keep, -9223372036854775808 ≤ z ∧ z ≤ 9223372036854775807) (hB : Bd 3000000 s) :
    Calls Try.prog 17 #[.pointer (some ⟨g, 0, none⟩), .agg #[.int .i64 k, kv]] W fun e w' => ∃ u, e = .returned u ∧ HoldsFi w' u (s.left k keep) ∧ Std g q vs v s w1 w' := by
  have h0 := h
  obtain ⟨o, h⟩ := h
  refine (leftC h.liv.dsk k kv keep hk hkr hkb (bd_mono hB (by omega))).mono ?_
  rintro e w' ⟨u, rfl, hu, hb⟩
  exact ⟨u, rfl, holdsFi_sub (mask_sub _ _) hu, sd_below h0 hb⟩
theorem sd_leftR (h : Std g q vs v s w1 W) (k : Int) (kv : Value) (keep : List Int) (hk : HoldsI W kv keep) (hkl : keep.length ≤ 1000000000) (hkb : ∀ z ∈ keep, -9223372036854775808 ≤ z ∧ z ≤ 9223372036854775807) (hB : Bd 3000000 s) :
    Calls Try.prog 19 #[v, .agg #[.int .i64 k, kv]] W fun e w' => ∃ u, e = .returned u ∧ (HoldsFi w' u (s.left k keep) ∧ Below W.heap.size W w') ∧ Std g q vs v s w1 w' := by
  have h0 := h
  obtain ⟨o, h⟩ := h
  have hl := (left_bd h.liv.dsk hB k keep).1
  unfold Dk.left at hl
  rw [List.length_map] at hl
  refine (leftRC (two_refS h) (dsk_wf h.liv.dsk).1 (bd_mono hB (by omega)) k kv keep hk hkl hkb (by omega)).mono ?_
  rintro e w' ⟨u, rfl, hu, hb⟩
  exact ⟨u, rfl, ⟨hu, hb⟩, sd_below h0 hb⟩
theorem sd_sameF (h : Std g q vs v s w1 W) (hB : Bd 3000000 s) (k : Int) (keep : List Int) (a b : Value) (ha : HoldsFi W a (s.left k keep)) (hb : HoldsFi W b (s.left k keep)) :
    Calls Try.prog 18 #[a, b] W fun e w' => e = .returned (.bool true) ∧ Std g q vs v s w1 w' := by
  have hl := sd_bd h hB k keep
  refine (sameFi a b _ W ha hb (by omega) (fun f hf => by have := (hl.2 f hf).2; omega)).mono ?_
  rintro e w' ⟨rfl, hb⟩
  exact ⟨rfl, sd_below h hb⟩
theorem sd_list (h : Std g q vs v s w1 W) (hB : Bd 3000000 s) : Calls Try.prog 16 #[.pointer (some ⟨g, 0, none⟩)] W fun e w' => ∃ u, e = .returned u ∧ Holds w' u s.list ∧ Std g q vs v s w1 w' := by
  have h0 := h
  obtain ⟨o, h⟩ := h
  refine (listC h.liv.dsk (bd_mono hB (by omega))).mono ?_
  rintro e w' ⟨u, rfl, ho⟩
  exact ⟨u, rfl, holds_own ho, sd_below h0 ho.2⟩
theorem sd_listR (h : Std g q vs v s w1 W) (hB : Bd 3000000 s) : Calls Try.prog 21 #[v] W fun e w' => ∃ u, e = .returned u ∧ (Holds w' u s.list ∧ Below W.heap.size W w') ∧ Std g q vs v s w1 w' := by
  have h0 := h
  obtain ⟨o, h⟩ := h
  refine (listRC (two_refS h) (by have := hB.2.2.1; omega)).mono ?_
  rintro e w' ⟨u, rfl, hu, hb⟩
  exact ⟨u, rfl, ⟨hu, hb⟩, sd_below h0 hb⟩
theorem sd_sameT (h : Std g q vs v s w1 W) (hB : Bd 3000000 s) (a b : Value) (ha : Holds W a s.list) (hb : Holds W b s.list) : Calls Try.prog 20 #[a, b] W fun e w' => e = .returned (.bool true) ∧ Std g q vs v s w1 w' := by
  refine (sameTe a b s.list W ha hb (by have := list_lenB hB; omega)).mono ?_
  rintro e w' ⟨rfl, hb⟩
  exact ⟨rfl, sd_below h hb⟩
end
theorem sd_cells {g q : Nat} {v0 v1 v2 v3 v4 v5 v6 v7 v8 v : Value} {s : Dk} {w1 W : World} (h : Std g q [v0, v1, v2, v3, v4, v5, v6, v7, v8] v s w1 W) :
    W.cell? ⟨q, 0, none⟩ = some v0 ∧ W.cell? ⟨q, 1, none⟩ = some v1 ∧ W.cell? ⟨q, 2, none⟩ = some v2 ∧ W.cell? ⟨q, 3, none⟩ = some v3 ∧ W.cell? ⟨q, 4, none⟩ = some v4 ∧ W.cell? ⟨q, 5, none⟩ = some v5 ∧ W.cell? ⟨q, 6, none⟩ = some v6 ∧ W.cell? ⟨q, 7, none⟩ = some v7 ∧ W.cell? ⟨q, 8, none⟩ = some v8 := by
  obtain ⟨o, h⟩ := h
  exact cells_9 h.kp.blk
end Go.Proofs.Ytaklfiipkjfjdaa
namespace Go.Proofs.Ytaklfiipkjfjdaa
open Go.RowKit Go.Maps
theorem row_typesX {w : World} {b1 b2 k1 k2 n1 n2 : Nat} {t1 t2 : TypeId} {v1 v2 : Value} {c1 c2 : List Value} (h1 : w.ownsRow b1 t1 k1 v1 n1 c1) (h2 : w.ownsRow b2 t2 k2 v2 n2 c2) (ht : t1 ≠ t2) : ∀ k, v1.ownBlock = some k → ¬ v2.ownBlock = some k := by
  intro k e1 e2
  obtain ⟨_, ⟨q, _⟩ | ⟨g, cap, cur, q, _, hg, _⟩⟩ := h1
  · rw [q] at e1; simp [Value.ownBlock] at e1
  · obtain ⟨_, ⟨q2, _⟩ | ⟨g2, cap2, cur2, q2, _, hg2, _⟩⟩ := h2
    · rw [q2] at e2; simp [Value.ownBlock] at e2
    · rw [q] at e1; rw [q2] at e2
      simp only [Value.ownBlock, Option.some.injEq] at e1 e2
      subst e1 e2
      rw [hg] at hg2
      simp only [Option.some.injEq, Obj.cells.injEq] at hg2
      exact ht hg2.2.1
theorem row_grownX {w w' : World} {base k n : Nat} {t : TypeId} {v : Value} {cs : List Value} {row : Option Nat} (h : w.ownsRow base t k v n cs) (hg : w.grownBy w' row) (hn : ∀ k, v.ownBlock = some k → ¬ row = some k) : w'.ownsRow base t k v n cs := by
  have hlt := h.lt
  obtain ⟨hl, h1 | ⟨g, cap, cur, rfl, hb, hh, hr⟩⟩ := h
  · exact ⟨hl, .inl h1⟩
  · exact ⟨hl, .inr ⟨g, cap, cur, rfl, hb, by rw [hg.block g (hlt g rfl).2 (fun e => hn g rfl e.symm)]; exact hh, hr⟩⟩
theorem u8_ne_file : (5 : TypeId) ≠ 43 := by decide
/-- v holds just the files fs, in rows of its own that are new since n0 -/
def FilO (n0 : Nat) (v : Value) (fs : FL) (w : World) : Prop := ∃ ps : List (Nm × Value), w.ownsRow n0 43 2 v ps.length (cellsFi ps) ∧ ps.length = fs.length ∧
  ∀ (i : Nat) (p : Nm × Value) (f : List UInt8 × List UInt8), ps[i]? = some p → fs[i]? = some f → p.1 = f.1 ∧ w.ownsRow n0 5 1 p.2 f.2.length (f.2.map B)
theorem filo_nil (n0 : Nat) (w : World) : FilO n0 (.slice none 0 0) [] w := ⟨[], World.ownsRow_nil _ _ _ _, rfl, fun i p f e => by simp at e⟩
theorem filo_empty (w : World) : FilO w.heap.size (.slice (some ⟨w.heap.size, 0, none⟩) 0 0) [] (w.alloc (.cells #[] 43)) :=
  ⟨[], World.ownsRow_lit w #[] 0 (Nat.le_refl _) (by decide) rfl, rfl, fun i p f e => by simp at e⟩
theorem filo_below {n0 : Nat} {v : Value} {fs : FL} {w w' : World} (h : FilO n0 v fs w) (hb : Below w.heap.size w w') : FilO n0 v fs w' := by
  obtain ⟨ps, h1, h2, h3⟩ := h
  refine ⟨ps, row_below h1 hb, h2, fun i p f e1 e2 => ?_⟩
  obtain ⟨q1, q2⟩ := h3 i p f e1 e2
  exact ⟨q1, row_below q2 hb⟩
theorem filo_base {n0 n1 : Nat} {v : Value} {fs : FL} {w : World} (h : FilO n0 v fs w) (hb : n1 ≤ n0) : FilO n1 v fs w := by
  obtain ⟨ps, h1, h2, h3⟩ := h
  refine ⟨ps, row_base h1 hb, h2, fun i p f e1 e2 => ?_⟩
  obtain ⟨q1, q2⟩ := h3 i p f e1 e2
  exact ⟨q1, row_base q2 hb⟩
theorem filo_app {n0 : Nat} {v : Value} {fs : FL} {w1 w' : World} {g cap : Nat} {nm : Nm} {dv : Value} {d : List UInt8} (hd : w1.ownsRow n0 5 1 dv d.length (d.map B))
    (ps : List (Nm × Value)) (hps : w1.ownsRow n0 43 2 v ps.length (cellsFi ps) ∧ ps.length = fs.length ∧ ∀ (i : Nat) (p : Nm × Value) (f : List UInt8 × List UInt8), ps[i]? = some p → fs[i]? = some f → p.1 = f.1 ∧ w1.ownsRow n0 5 1 p.2 f.2.length (f.2.map B))
    (hr : w'.ownsRow n0 43 2 (.slice (some ⟨g, 0, none⟩) (ps.length + 1) cap) (ps.length + 1) (cellsFi ps ++ [S nm, dv])) (hg : w1.grownBy w' v.ownBlock) : FilO n0 (.slice (some ⟨g, 0, none⟩) (ps.length + 1) cap) (fs ++ [(nm, d)]) w' := by
  obtain ⟨h1, h2, h3⟩ := hps
  refine ⟨ps ++ [(nm, dv)], ?_, by simp [h2], fun i p f e1 e2 => ?_⟩
  · rw [List.length_append, cellsFi_app]
    exact hr
  · rcases Nat.lt_or_ge i ps.length with hi | hi
    · rw [List.getElem?_append_left hi] at e1
      rw [List.getElem?_append_left (by omega)] at e2
      obtain ⟨q1, q2⟩ := h3 i p f e1 e2
      exact ⟨q1, row_grownX q2 hg (row_typesX q2 h1 u8_ne_file)⟩
    · rw [List.getElem?_append_right hi] at e1
      rw [List.getElem?_append_right (by omega)] at e2
      have ez : i - ps.length = 0 := by
        rcases Nat.eq_zero_or_pos (i - ps.length) with h0 | h0
        · exact h0
        · rw [List.getElem?_eq_none (by simp; omega)] at e1; cases e1
      have ez2 : i - fs.length = 0 := by omega
      rw [ez] at e1
      rw [ez2] at e2
      simp only [List.getElem?_cons_zero, Option.some.injEq] at e1 e2
      subst e1 e2
      exact ⟨rfl, row_grownX hd hg (row_typesX hd h1 u8_ne_file)⟩
theorem rowB_mask {w : World} {v : Value} {bs : List UInt8} {n : Nat} (h : w.ownsRow n 5 1 v bs.length (bs.map B)) : HoldsB (mask (fun k => k < n) w) v bs := by
  obtain ⟨hl, ⟨rfl, hn⟩ | ⟨g, cap, cur, rfl, hb, hh, hr⟩⟩ := id h
  · obtain rfl : bs = [] := List.eq_nil_of_length_eq_zero hn
    exact ⟨none, 0, rfl, fun _ => rfl, Nat.le_refl _, fun h => absurd rfl h⟩
  · refine ⟨some ⟨g, 0, none⟩, cap, rfl, fun e => (by cases e), hr.1, fun _ => ⟨g, 0, rfl, by rw [mask_size]; exact (h.lt g rfl).2, fun j hj => ?_⟩⟩
    rw [mask_cell w (a := ⟨g, 0 + j, none⟩) (show ¬ g < n by omega), Nat.zero_add, h.cellAt j (by omega)]
    simp [hj]
theorem filo_holds {n0 : Nat} {v : Value} {fs : FL} {w : World} (h : FilO n0 v fs w) : HoldsFi (mask (fun k => k < n0) w) v fs := by
  obtain ⟨ps, hr, h2, h3⟩ := h
  rcases hr.2 with ⟨rfl, hn⟩ | ⟨x, cap, cur, rfl, hx, hh, hrr⟩
  · obtain rfl : fs = [] := List.eq_nil_of_length_eq_zero (by omega)
    exact ⟨none, 0, rfl, fun _ => rfl, Nat.le_refl _, fun h => absurd rfl h⟩
  · refine ⟨some ⟨x, 0, none⟩, cap, by rw [h2], fun e => (by cases e), by have := hrr.1; omega, fun _ => ⟨x, 0, rfl, ?_, fun j hj => ?_⟩⟩
    · rw [mask_size]; exact (hr.lt x rfl).2
    · have hj' : j < ps.length := by omega
      obtain ⟨q1, q2⟩ := h3 j (ps[j]'hj') (fs[j]'hj) (by simp [hj']) (by simp [hj])
      obtain ⟨a1, a2⟩ := cellsFi_at ps j hj'
      have hm : ¬ (x < n0) := by omega
      have c1 : w.cell? ⟨x, 0 + j * 2, none⟩ = some (S (ps[j]'hj').1) := by rw [Nat.zero_add, hr.cellAt (j * 2) (by omega)]; exact a1
      have c2 : w.cell? ⟨x, 0 + j * 2 + 1, none⟩ = some (ps[j]'hj').2 := by rw [Nat.zero_add, hr.cellAt (j * 2 + 1) (by omega)]; exact a2
      refine ⟨by rw [mask_cell w (a := ⟨x, 0 + j * 2, none⟩) hm, c1, q1], (ps[j]'hj').2, by rw [mask_cell w (a := ⟨x, 0 + j * 2 + 1, none⟩) hm]; exact c2, ?_⟩
      exact rowB_mask q2
/-! rows of which the length and the place alone are told: they may be written -/
def RowE (P : Nat → Prop) (t : TypeId) (k : Nat) (v : Value) (n : Nat) (w : World) : Prop := (∃ xs, w.ownsRow 0 t k v n xs) ∧ ∀ b, v.ownBlock = some b → P b
theorem rowE_of {P : Nat → Prop} {base k n : Nat} {t : TypeId} {v : Value} {w : World} {xs : List Value} (h : w.ownsRow base t k v n xs) (hP : ∀ b, base ≤ b → b < w.heap.size → P b) : RowE P t k v n w :=
  ⟨⟨xs, row_base h (Nat.zero_le _)⟩, fun b e => by have := h.lt b e; exact hP b this.1 this.2⟩
theorem rowE_form {P : Nat → Prop} {k n : Nat} {t : TypeId} {v : Value} {w : World} (h : RowE P t k v n w) : ∃ ao cap, v = .slice ao n cap ∧ (0 < n → ∃ g, ao = some ⟨g, 0, none⟩) := by
  obtain ⟨⟨xs, _, ⟨rfl, rfl⟩ | ⟨g, cap, cur, rfl, _⟩⟩, -⟩ := h
  · exact ⟨none, 0, rfl, fun h => absurd h (Nat.lt_irrefl _)⟩
  · exact ⟨_, cap, rfl, fun _ => ⟨g, rfl⟩⟩
theorem rowE_cell {P : Nat → Prop} {k g n cap j : Nat} {t : TypeId} {w : World} (h : RowE P t k (.slice (some ⟨g, 0, none⟩) n cap) n w) (hj : j < n * k) : (∃ v, w.cell? ⟨g, j, none⟩ = some v) ∧ w.frozen? ⟨g, j, none⟩ = false ∧ P g ∧ g < w.heap.size := by
  obtain ⟨⟨xs, hx⟩, hP⟩ := h
  have hl := hx.lt g rfl
  refine ⟨⟨xs[j]'(by rw [hx.1]; exact hj), ?_⟩, ?_, hP g rfl, hl.2⟩
  · rw [hx.cellAt j hj, List.getElem?_eq_getElem (by rw [hx.1]; exact hj)]
  · obtain ⟨_, ⟨q, _⟩ | ⟨g2, cap2, cur, q, _, hg, _⟩⟩ := hx
    · cases q
    · simp only [Value.slice.injEq, Option.some.injEq, Addr.mk.injEq] at q
      obtain ⟨⟨rfl, -, -⟩, -, -⟩ := q
      unfold World.frozen?
      simp only [hg]
      simp
theorem rowE_poke {P : Nat → Prop} {k n : Nat} {t : TypeId} {v : Value} {w : World} (h : RowE P t k v n w) (a : Addr) (u : Value) : RowE P t k v n (w.setCell a u) := by
  obtain ⟨⟨xs, hl, h1 | ⟨g, cap, cur, rfl, hb, hg, hc, hm, hs, ht⟩⟩, hP⟩ := h
  · exact ⟨⟨xs, hl, .inl h1⟩, hP⟩
  · by_cases e : g = a.block
    · subst e
      have hset : ∃ cur', (w.setCell a u).heap[a.block]? = some (.cells cur' t (0, 0)) ∧ cur'.size = cur.size := by
        refine ⟨if a.spot.isSome then cur else cur.setIfInBounds a.off u, ?_, by split <;> simp⟩
        unfold World.setCell
        simp only [Array.getElem?_modify, if_true, hg, Option.map_some]
      obtain ⟨cur', c1, c2⟩ := hset
      exact ⟨⟨cur'.toList.take (n * k), by rw [List.length_take, Array.length_toList, c2, hs]; exact Nat.min_eq_left (Nat.mul_le_mul_right _ hc), .inr ⟨a.block, cap, cur', rfl, hb, c1, hc, hm, by rw [c2]; exact hs, rfl⟩⟩, hP⟩
    · exact ⟨⟨xs, hl, .inr ⟨g, cap, cur, rfl, hb, by rw [Below.heap_setCell w a u g (fun h => e h)]; exact hg, hc, hm, hs, ht⟩⟩, hP⟩
theorem rowE_block {P : Nat → Prop} {k n : Nat} {t : TypeId} {v : Value} {w w' : World} (h : RowE P t k v n w) (hb : ∀ b, P b → b < w.heap.size → w'.heap[b]? = w.heap[b]?) : RowE P t k v n w' := by
  obtain ⟨⟨xs, hx⟩, hP⟩ := h
  have hlt := hx.lt
  obtain ⟨hl, h1 | ⟨g, cap, cur, rfl, hb0, hg, hr⟩⟩ := hx
  · exact ⟨⟨xs, hl, .inl h1⟩, hP⟩
  · exact ⟨⟨xs, hl, .inr ⟨g, cap, cur, rfl, hb0, by rw [hb g (hP g rfl) (hlt g rfl).2]; exact hg, hr⟩⟩, hP⟩
/-- files that may be written -/
def FilE (P : Nat → Prop) (v : Value) (n : Nat) (w : World) : Prop := ∃ ps : List (Nm × Value), w.ownsRow 0 43 2 v n (cellsFi ps) ∧ ps.length = n ∧ (∀ b, v.ownBlock = some b → P b) ∧ ∀ p ∈ ps, ∃ m, m ≤ 140737488355328 ∧ RowE P 5 1 p.2 m w
theorem filE_of {P : Nat → Prop} {n0 : Nat} {v : Value} {fs : FL} {w : World} (h : FilO n0 v fs w) (hd : ∀ f ∈ fs, f.2.length ≤ 140737488355328) (hP : ∀ b, n0 ≤ b → b < w.heap.size → P b) : FilE P v fs.length w := by
  obtain ⟨ps, h1, h2, h3⟩ := h
  refine ⟨ps, by rw [← h2]; exact row_base h1 (Nat.zero_le _), h2, fun b e => by have := h1.lt b e; exact hP b this.1 this.2, fun p hp => ?_⟩
  obtain ⟨i, hi, rfl⟩ := List.mem_iff_getElem.1 hp
  have hi' : i < fs.length := by omega
  exact ⟨_, hd _ (List.getElem_mem hi'), rowE_of (h3 i _ (fs[i]'hi') (List.getElem?_eq_getElem hi) (List.getElem?_eq_getElem hi')).2 hP⟩
theorem filE_form {P : Nat → Prop} {n : Nat} {v : Value} {w : World} (h : FilE P v n w) : ∃ ao cap, v = .slice ao n cap ∧ (0 < n → ∃ g, ao = some ⟨g, 0, none⟩) := by
  obtain ⟨ps, h1, h2, h3, _⟩ := h
  exact rowE_form (P := P) ⟨⟨_, h1⟩, h3⟩
theorem filE_block {P : Nat → Prop} {n : Nat} {v : Value} {w w' : World} (h : FilE P v n w) (hb : ∀ b, P b → b < w.heap.size → w'.heap[b]? = w.heap[b]?) : FilE P v n w' := by
  obtain ⟨ps, h1, h2, h3, h4⟩ := h
  refine ⟨ps, ?_, h2, h3, fun p hp => ?_⟩
  · have hlt := h1.lt
    obtain ⟨hl, e | ⟨g, cap, cur, rfl, hb0, hg, hr⟩⟩ := h1
    · exact ⟨hl, .inl e⟩
    · exact ⟨hl, .inr ⟨g, cap, cur, rfl, hb0, by rw [hb g (h3 g rfl) (hlt g rfl).2]; exact hg, hr⟩⟩
  · obtain ⟨m, hm, hr⟩ := h4 p hp
    exact ⟨m, hm, rowE_block hr hb⟩
theorem filE_ne {P : Nat → Prop} {n m b g cap : Nat} {w : World} {bv : Value} (h : FilE P (.slice (some ⟨g, 0, none⟩) n cap) n w) (hb : RowE P 5 1 bv m w) (he : bv.ownBlock = some b) : b ≠ g := by
  obtain ⟨ps, h1, _⟩ := h
  obtain ⟨⟨ys, hy⟩, _⟩ := hb
  exact fun e => row_typesX hy h1 u8_ne_file b he (by rw [e]; rfl)
theorem filE_poke {P : Nat → Prop} {v : Value} {n : Nat} {w : World} (h : FilE P v n w) {b j m k : Nat} {t : TypeId} {bv : Value} (hb : RowE P t k bv m w) (ht : t ≠ 43) (he : bv.ownBlock = some b) (u : Value) : FilE P v n (w.setCell ⟨b, j, none⟩ u) := by
  obtain ⟨ps, h1, h2, h5, h3⟩ := h
  obtain ⟨⟨ys, hy⟩, _⟩ := hb
  refine ⟨ps, ?_, h2, h5, fun p hp => ?_⟩
  · have hne := row_typesX hy h1 ht b he
    obtain ⟨hl, e | ⟨g, cap, cur, rfl, hb, hg, hr⟩⟩ := h1
    · exact ⟨hl, .inl e⟩
    · exact ⟨hl, .inr ⟨g, cap, cur, rfl, hb, by rw [Below.heap_setCell w ⟨b, j, none⟩ u g (fun h => hne (by subst h; rfl))]; exact hg, hr⟩⟩
  · obtain ⟨m, hm, hr⟩ := h3 p hp
    exact ⟨m, hm, rowE_poke hr _ _⟩
theorem cellsFi_set : ∀ (ps : List (Nm × Value)) (i : Nat) (h : i < ps.length) (nm : Nm), (cellsFi ps).set (i * 2) (S nm) = cellsFi (ps.set i (nm, (ps[i]).2)) := by
  intro ps
  induction ps with
  | nil => intro i h; cases h
  | cons p r ih =>
    intro i h nm
    cases i with
    | zero => rfl
    | succ i =>
      have := ih i (by simpa using h) nm
      have e : (i + 1) * 2 = i * 2 + 2 := by omega
      rw [e]
      simp only [cellsFi, List.set_cons_succ, List.getElem_cons_succ]
      rw [this]
/-- the parts of the file at i -/
theorem filE_at {P : Nat → Prop} {g n cap : Nat} {w : World} (h : FilE P (.slice (some ⟨g, 0, none⟩) n cap) n w) {i : Nat} (hi : i < n) : ∃ (x : ByteArray) (ba : Option Addr) (m bc : Nat), m ≤ 140737488355328 ∧ w.cell? ⟨g, i * 2, none⟩ = some (.string x) ∧ w.cell? ⟨g, i * 2 + 1, none⟩ = some (.slice ba m bc) ∧ w.frozen? ⟨g, i * 2, none⟩ = false ∧ RowE P 5 1 (.slice ba m bc) m w ∧ P g := by
  obtain ⟨ps, h1, h2, h5, h3⟩ := h
  have hi' : i < ps.length := by omega
  obtain ⟨a1, a2⟩ := cellsFi_at ps i hi'
  obtain ⟨m, hm, hr⟩ := h3 _ (List.getElem_mem hi')
  obtain ⟨ba, bc, e, -⟩ := rowE_form hr
  have hfz := (rowE_cell (P := P) (j := i * 2) ⟨⟨_, h1⟩, h5⟩ (by omega)).2.1
  rw [e] at hr a2
  exact ⟨⟨(ps[i]'hi').1.toArray⟩, ba, m, bc, hm, by rw [h1.cellAt (i * 2) (by omega)]; exact a1, by rw [h1.cellAt (i * 2 + 1) (by omega)]; exact a2, hfz, hr, h5 g rfl⟩
theorem filE_name {P : Nat → Prop} {g n cap : Nat} {w : World} (h : FilE P (.slice (some ⟨g, 0, none⟩) n cap) n w) {i : Nat} (hi : i < n) (nm : Nm) : FilE P (.slice (some ⟨g, 0, none⟩) n cap) n (w.setCell ⟨g, i * 2, none⟩ (S nm)) := by
  obtain ⟨ps, h1, h2, h5, h3⟩ := h
  have hi' : i < ps.length := by omega
  refine ⟨ps.set i (nm, (ps[i]'hi').2), ?_, by rw [List.length_set]; exact h2, h5, fun p hp => ?_⟩
  · obtain ⟨hl, ⟨q, _⟩ | ⟨g2, cap2, cur, q, hb, hg, hc, hm, hs, ht⟩⟩ := h1
    · cases q
    · simp only [Value.slice.injEq, Option.some.injEq, Addr.mk.injEq, true_and, and_true] at q
      obtain ⟨rfl, rfl⟩ := q
      refine ⟨by rw [← cellsFi_set ps i hi' nm, List.length_set]; exact hl, .inr ⟨g, cap, cur.setIfInBounds (i * 2) (S nm), rfl, hb, ?_, hc, hm, by simpa using hs, ?_⟩⟩
      · unfold World.setCell
        simp only [Array.getElem?_modify, if_true, hg, Option.map_some]
        simp
      · rw [← cellsFi_set ps i hi' nm, Array.toList_setIfInBounds, ← ht, List.take_set]
  · rcases List.mem_or_eq_of_mem_set hp with hp | rfl
    · obtain ⟨m, hm, hr⟩ := h3 p hp
      exact ⟨m, hm, rowE_poke hr _ _⟩
    · obtain ⟨m, hm, hr⟩ := h3 _ (List.getElem_mem hi')
      exact ⟨m, hm, rowE_poke hr _ _⟩
end Go.Proofs.Ytaklfiipkjfjdaa
namespace Go.Proofs.Ytaklfiipkjfjdaa
open Go.RowKit
set_option maxRecDepth 20000 in
set_option maxHeartbeats 8000000 in
theorem copyFiO (v : Value) (fs : FL) (w : World) (hv : HoldsFi w v fs) (hl : fs.length ≤ 1000000000) (hd : ∀ f ∈ fs, f.2.length ≤ 140737488355328) :
    Calls Try.prog 5 #[v] w fun e w' => ∃ u, e = .returned u ∧ FilO w.heap.size u fs w' ∧ Below w.heap.size w w' := by
  obtain ⟨ao, ca, rfl, _, _, hca⟩ := hv
  by_cases hz : fs = []
  · subst hz
    clear hca hl hd
    go_enter Try.func5, Try.ntmps5
    go_wp2
    go_rounds 1
    go_ret
    exact ⟨_, rfl, filo_empty w, below_alloc' w _⟩
  · obtain ⟨b1, o1, rfl, hlt1, c1⟩ := hca hz
    have C1 := hide' c1
    have HD := hide' hd
    obtain ⟨n, hn⟩ : ∃ n, n = fs.length := ⟨_, rfl⟩
    have HN := hide' hn
    rw [← hn] at hl ⊢
    clear hca c1 hz hn hd
    go_enter Try.func5, Try.ntmps5
    go_wp2
    go_loopw [3, 4] (fun u i wr => ∃ (k : Nat) (xa : Option Addr) (xc : Nat), k ≤ n ∧ i = .int .i64 k ∧ u = .slice xa k xc ∧ Hid (FilO w.heap.size (.slice xa k xc) (fs.take k) wr) ∧ Hid (Below w.heap.size w wr)) (fun _ i _ => n - (intOf i).toNat)
    case atStart => exact ⟨0, _, _, by omega, rfl, rfl, filo_empty w, below_alloc' w _⟩
    case round =>
      obtain ⟨k, xa, xc, hk, rfl, rfl, HF, HB⟩ := hrel
      by_cases hlt : k < n
      · have hk' : k < fs.length := by rw [← HN.out]; exact hlt
        obtain ⟨x1, u1, y1, g1⟩ := C1.out k hk'
        have hbd := HD.out _ (List.getElem_mem hk')
        obtain ⟨ua, uc, hu1, _⟩ := id g1
        subst hu1
        have E : Hid (fs.take (k + 1) = fs.take k ++ [((fs[k]'hk').1, (fs[k]'hk').2)]) := by unfold Hid; rw [List.take_succ_eq_append_getElem hk']
        obtain ⟨ps, p1, p2, p3⟩ := HF.out
        have e9 : ps.length = k := by rw [p2, List.length_take]; omega
        have P1 := hide' p1
        have P23 := hide' (And.intro p2 p3)
        have E9 := hide' e9
        have XY : Hid (S (fs[k]'hk').1 = .string ⟨((fs[k]'hk').1).toArray⟩) := rfl
        have K1 : Hid (∀ Wx, Below w.heap.size w Wx → Wx.cell? ⟨b1, o1 + k * 2, none⟩ = some (.string ⟨((fs[k]'hk').1).toArray⟩) ∧ Wx.cell? ⟨b1, o1 + k * 2 + 1, none⟩ = some (.slice ua (fs[k]'hk').2.length uc)) := fun Wx hb =>
          ⟨(hb.cell (p := ⟨b1, o1 + k * 2, none⟩) hlt1).trans x1, (hb.cell (p := ⟨b1, o1 + k * 2 + 1, none⟩) hlt1).trans y1⟩
        have CC : Hid (∀ Wx, Below wr.heap.size wr Wx → Calls Try.prog 11 #[.slice ua (fs[k]'hk').2.length uc] Wx fun e w' => ∃ da dl dc, e = .returned (.slice da dl dc) ∧ Hid (Below wr.heap.size wr w' ∧ Own wr (.slice da dl dc) (fs[k]'hk').2 w') ∧ w'.cell? ⟨b1, o1 + k * 2, none⟩ = some (.string ⟨((fs[k]'hk').1).toArray⟩) ∧ w'.cell? ⟨b1, o1 + k * 2 + 1, none⟩ = some (.slice ua (fs[k]'hk').2.length uc)) := fun Wx hb => by
          have hbw := HB.out.trans (hb.mono HB.out.size)
          refine (copyB _ _ Wx (holdsB_mono g1 hbw) hbd).mono ?_
          rintro e w' ⟨u, rfl, ho⟩
          obtain ⟨da, dc, hu, _⟩ := holdsB_own ho
          have hb2 := hb.trans (ho.2.mono hb.size)
          obtain ⟨k1, k2⟩ := K1.out w' (HB.out.trans (hb2.mono HB.out.size))
          refine ⟨da, _, dc, by rw [hu], ⟨hb2, ?_⟩, k1, k2⟩
          rw [← hu]
          exact own_base ho hb
        obtain ⟨i1, i2⟩ := K1.out wr HB.out
        generalize (fs[k]'hk').2.length = L at CC y1 K1 i2
        generalize (fs[k]'hk').1 = nmj at E x1 K1 CC i1 XY
        generalize (fs[k]'hk').2 = dj at E CC
        generalize (⟨nmj.toArray⟩ : ByteArray) = y at x1 K1 CC i1 XY
        rename_i r1
        clear g1 hbd r1 x1 y1 p1 p2 p3 e9
        have APP : Hid (∀ (wl : World) (dv : Value), Below wr.heap.size wr wl → (wl.alloc (.cells #[.string y, dv] 43)).ownsRow w.heap.size 43 2 (.slice xa k xc) k (cellsFi ps)) := fun wl dv hb => by
          have h0 := row_below (row_below P1.out hb) (below_alloc' wl (.cells #[.string y, dv] 43))
          rw [E9.out] at h0
          exact h0
        have HS3 : Hid (∀ wl : World, Below wr.heap.size wr wl → w.heap.size ≤ wl.heap.size) := fun wl hb => Nat.le_trans HB.out.size hb.size
        have FIN : Hid (∀ (wl w6 : World) (dv : Value) (gb gc : Nat), Below wr.heap.size wr wl → Own wr dv dj wl → w6.ownsRow w.heap.size 43 2 (.slice (some ⟨gb, 0, none⟩) (k + 1) gc) (k + 1) (cellsFi ps ++ [.string y, dv]) → (wl.alloc (.cells #[.string y, dv] 43)).grownBy w6 (Value.slice xa k xc).ownBlock → ((Value.slice xa k xc).ownBlock = some gb ∨ gb = wl.heap.size + 1) → FilO w.heap.size (.slice (some ⟨gb, 0, none⟩) (k + 1) gc) (fs.take (k + 1)) w6 ∧ Below w.heap.size w w6) := by
          intro wl w6 dv gb gc hb hd hr hg hat
          have ba := below_alloc' wl (.cells #[.string y, dv] 43)
          have hbx := hb.trans (ba.mono hb.size)
          have za : (wl.alloc (.cells #[.string y, dv] 43)).heap.size = wl.heap.size + 1 := by simp
          have row1 := row_below P1.out hbx
          have hvb : ∀ k', (Value.slice xa k xc).ownBlock = some k' → k' < wr.heap.size := fun k' e => (P1.out.lt k' e).2
          have hd2 : (wl.alloc (.cells #[.string y, dv] 43)).ownsRow w.heap.size 5 1 dv dj.length (dj.map B) := row_base (row_below hd.1 ba) HB.out.size
          have fr := filo_app (nm := nmj) (d := dj) hd2 ps ⟨row1, P23.out.1, fun i p f e1 e2 => by obtain ⟨x1, x2⟩ := P23.out.2 i p f e1 e2; exact ⟨x1, row_below x2 hbx⟩⟩ (g := gb) (cap := gc) (by rw [E9.out, XY.out]; exact hr) hg
          rw [E9.out, ← E.out] at fr
          refine ⟨fr, ?_⟩
          have h0 := HB.out.trans (hbx.mono HB.out.size)
          exact Below.grown h0 hg (by have := HB.out.size; have := hbx.size; omega) (fun k' e => (P1.out.lt k' e).1)
        go_wp2_with fail
        go_region_held_law (fun w' => w'.cell? ⟨b1, o1 + k * 2, none⟩ = some (.string y) ∧ w'.cell? ⟨b1, o1 + k * 2 + 1, none⟩ = some (.slice ua L uc)) (go_keep)
          (first
            | (go_at_call 11; refine (CC.out _ ?_).mono ?_; (first | exact (Below.refl _ _).drew | exact Below.refl _ _); rintro e w5 ⟨da, dl, dc, rfl, B5, l5, m5⟩)
            | (refine step_appFi (by rfl) (.tmp 12) (.tmp 25) (by rfl) w.heap.size (.slice xa k xc) k ps (by rfl) (APP.out w5 _ B5.out.1) (by rfl) rfl (by omega) (HS3.out w5 B5.out.1) ?_; intro gb gc w6 r6 g6 a6; have FR := hide' (FIN.out w5 w6 _ gb gc B5.out.1 B5.out.2 r6 g6 a6); have z6 : w6.cell? ⟨b1, o1 + k * 2, none⟩ = some (.string y) ∧ w6.cell? ⟨b1, o1 + k * 2 + 1, none⟩ = some (.slice ua L uc) := K1.out w6 FR.out.2; obtain ⟨z6a, z6b⟩ := z6; clear r6 g6 a6))
        all_goals
          go_wp2_with fail
          go_roundw
          case rel => exact ⟨k + 1, _, _, by omega, by go_num, rfl, FR.out.1, FR.out.2⟩
          case measure => simp [intOf]; omega
      · have E : Hid (fs.take k = fs) := List.take_of_length_le (by rw [← HN.out]; omega)
        go_wp2_with fail
        go_ret
        refine ⟨_, rfl, ?_, HB.out⟩
        have := HF.out
        rw [E.out] at this
        exact this
end Go.Proofs.Ytaklfiipkjfjdaa
namespace Go.Proofs.Ytaklfiipkjfjdaa
open Go.RowKit Go.Maps
set_option maxRecDepth 20000 in
set_option maxHeartbeats 8000000 in
theorem leftO {o : Ow} {g : Nat} {s : Dk} {W : World} (h : Dsk o g s W) (k : Int) (kv : Value) (keep : List Int) (hk : HoldsI W kv keep) (hkr : -9223372036854775808 ≤ k ∧ k ≤ 9223372036854775807) (hkb : ∀ z ∈ keep, -9223372036854775808 ≤ z ∧ z ≤ 9223372036854775807) (hB : Bd 90000000 s) :
    Calls Try.prog 17 #[.pointer (some ⟨g, 0, none⟩), .agg #[.int .i64 k, kv]] W fun e W' => ∃ v, e = .returned v ∧ FilO W.heap.size v (s.left k keep) W' ∧ Below W.heap.size W W' := by
  obtain ⟨m0, m1, m2, pv, fb, cs, v⟩ := h
  obtain ⟨vs, hr, hch, hpw⟩ := v.pend
  obtain ⟨pa, pc, hpv⟩ := row_sl hr
  subst hpv
  obtain ⟨ka, kc, hkv, _⟩ := id hk
  subst hkv
  have hcl : cs.length ≤ 90000000 := by have h1 := v.sc.1; have h2 := hB.2.2.2.2.1; rw [h1, scan_len] at h2; omega
  have hsl : s.safe.length ≤ 900000000 := by have := hB.2.2.2.1; omega
  -- how many changes are done
  obtain ⟨q, hq1, hq2⟩ : ∃ q : Nat, ((q : Nat) : Int) = max 0 (min k ((cs.length : Nat) : Int)) ∧ q = min k.toNat cs.length := ⟨min k.toNat cs.length, by omega, rfl⟩
  have hqn : q ≤ cs.length := by omega
  have SL := takeC hr q hqn
  have hng : W.heap.size ≠ g := by have := v.blk.2; omega
  -- the fate's block
  have b0 := below_alloc' W (.cells #[.int .i64 k, .slice ka keep.length kc] 58)
  have z0 : (W.alloc (.cells #[.int .i64 k, .slice ka keep.length kc] 58)).heap.size = W.heap.size + 1 := by simp
  have F0 : Blk W.heap.size (W.alloc (.cells #[.int .i64 k, .slice ka keep.length kc] 58)) [.int .i64 k, .slice ka keep.length kc] := by simpa using cells_lit W #[.int .i64 k, .slice ka keep.length kc] 58
  have V0 := dkV_below v b0
  have CM := hide' (mcloneC V0.safe)
  have V := hide' v
  have B0 := hide' b0
  have HF0 := hide' F0
  have HK := hide' hk
  have HKB := hide' hkb
  have HB := hide' hB
  have HSP : Hid (s.left k keep = (appAll (cs.take q) s.safe).map (fun p => (p.1, (s.data.getD p.2 []).take (leftLen s keep p.2)))) := by
    unfold Hid Dk.left
    rw [left_names v.sc k, hq2]
  have hwn : WfN s (appAll (cs.take q) s.safe) := by
    have := leftNames_wf v.wf k
    rw [left_names v.sc k, ← hq2] at this
    exact this
  have HWN := hide' hwn
  obtain ⟨n, hn⟩ : ∃ n, n = cs.length := ⟨_, rfl⟩
  have HN := hide' hn
  have HR := hide' hr
  have HCH := hide' hch
  have HPW := hide' hpw
  have c6 := (cells_eight V0.blk).1.2.2.2.2.2.2.1
  have c7 := (cells_eight V0.blk).1.2.2.2.2.2.2.2
  rw [← hn] at c7 hq1 hqn SL hcl
  obtain ⟨N, hNk⟩ : ∃ N, N = keep.length := ⟨_, rfl⟩
  have HNK := hide' hNk
  rw [← hNk] at HF0 HK CM B0 c6 c7 ⊢
  clear v V0 hr hch hpw hk hkb hB hwn F0 b0 z0 hn hNk hq2
  go_enter Try.func17, Try.ntmps17
  go_wp2_with fail
  refine CM.out.mono ?_
  rintro e w1 ⟨rfl, hT1, hb1⟩
  have V1 := hide' (dkV_below (dkV_below V.out B0.out) hb1)
  have F1 := hide' (cells_below HF0.out hb1)
  have T1 := hide' hT1
  have BW1 := hide' (B0.out.trans (hb1.mono B0.out.size))
  obtain ⟨M, hM⟩ : ∃ M, M = (W.alloc (.cells #[.int .i64 k, .slice ka N kc] 58)).heap.size := ⟨_, rfl⟩
  have HM := hide' hM
  rw [← hM] at T1 ⊢
  have hMW : W.heap.size < M := by rw [hM]; simp
  clear hT1 hb1 hM c6 c7
  have c7 := (cells_eight V1.out.blk).1.2.2.2.2.2.2.2
  have e0 := (F1.out.1 0 (by simp)).1
  have e1 := (F1.out.1 1 (by simp)).1
  simp only [List.getElem_cons_zero, List.getElem_cons_succ] at e0 e1
  rw [← HN.out] at c7
  have CU : Hid (∀ x, Calls Try.prog 44 #[.int .i64 k, .int .i64 (n : Int)] (w1.drewN x) fun e w' => e = .returned (.int .i64 (q : Int)) ∧ w' = w1.drewN x) := fun x => by have := upToC k (n : Int) (w1.drewN x); rw [← hq1] at this; exact this
  clear hq1
  go_wp2_with fail
  go_quiet (first | (go_at_call 44; refine Calls.quiet_of_same (CU.out _)))
  have V2 := hide' (dkV_drew V1.out nq)
  have F2 := hide' (cells_below F1.out (below_drewN w1 nq))
  have T2 : Hid (Tbl (w1.drewN nq) M fb s.safe) := T1.out
  have BW2 := hide' (BW1.out.trans ((below_drewN w1 nq).mono BW1.out.size))
  have hM2 : M < (w1.drewN nq).heap.size := T2.out.lt
  have HR2 : Hid ((w1.drewN nq).ownsRow 0 91 1 (.slice pa cs.length pc) cs.length vs ∧ ∀ i (h : i < cs.length), ∃ v, vs[i]? = some v ∧ ChgV o fb (w1.drewN nq) v cs[i]) := by
    have sm := same_below (o := o) (R := fun _ => True) BW2.out V.out.lt
    exact ⟨row_same HR.out sm HPW.out trivial, fun i hi => by obtain ⟨v, e1, e2⟩ := HCH.out i hi; exact ⟨v, e1, chg_same e2 sm trivial⟩⟩
  clear c7 e0 e1 V1 F1 T1 BW1 CU SL HR HCH
  generalize w1.drewN nq = w2 at V2 F2 T2 BW2 HR2 hM2 ⊢
  have hoM : o M = none := none_of_lt V.out.lt (by omega)
  -- where the changes lie, whatever was done to the new table
  have CELL : Hid (∀ wr j (hj : j < cs.length), w2.grownBy wr (some M) → ∃ pb cv, pa = some ⟨pb, 0, none⟩ ∧ wr.cell? ⟨pb, j, none⟩ = some cv ∧ ChgV o fb wr cv cs[j]) := fun wr j hj h => by
    have hs : Same o (fun _ => True) w2 wr := same_new h V2.out.lt (.inr hoM)
    obtain ⟨cv, e1, e2⟩ := HR2.out.2 j hj
    have hr2 := row_same HR2.out.1 hs HPW.out trivial
    rcases hr2.2 with ⟨_, e⟩ | ⟨x, cap, cur, hv, _⟩
    · omega
    · cases hv
      refine ⟨x, cv, rfl, ?_, chg_same e2 hs trivial⟩
      rw [hr2.cellAt j (by omega)]
      exact e1
  have hcap : ∀ b, o b = some .cap → b ≠ M := fun b e e2 => by rw [e2, hoM] at e; cases e
  go_wp2_with fail
  go_loopw [7, 30] (fun _ i wr => ∃ j : Nat, j ≤ q ∧ i = .int .i64 j ∧ Hid (Tbl wr M fb (appAll (cs.take j) s.safe)) ∧ Hid (w2.grownBy wr (some M))) (fun _ i _ => q - (intOf i).toNat)
  case atStart => exact ⟨0, by omega, rfl, T2, ⟨rfl, rfl, rfl, Nat.le_refl _, fun _ _ _ => rfl⟩⟩
  case round =>
    obtain ⟨j, hj, rfl, HT, HG⟩ := hrel
    by_cases hlt' : j < q
    · have hlt : j < cs.length := by have := HN.out; omega
      obtain ⟨pb, cv, hpa, hcell, hcv⟩ := CELL.out wr j hlt HG.out
      have hbd := app_bound cs s.safe j hsl (by have := HN.out; omega)
      subst hpa
      rcases chg_cases hcv with ⟨x, k1, bf, bn, hc, hl, rfl, h1, h2, o1, o2⟩ | ⟨x, bn, hc, hl, rfl, h2, o2⟩ | ⟨x, y, k1, ba, bf, bb, hc, l1, l2, rfl, h1, h2, h3, o1, o2, o3⟩
      · have CC := hide' (putC HT.out hbd hl h1 h2)
        have CJ := hide' hc
        clear hcv h1 h2 o1 o2 hl hc
        go_wp2_with (go_at_call 49; refine CC.out.mono ?_; rintro e w4 ⟨rfl, t2, g2⟩; have T4 := hide' t2; have G4 := hide' (HG.out.andThen g2 (fun x hx => .inr hx)); clear t2 g2)
        go_roundw
        case rel => exact ⟨j + 1, by omega, by go_num, by unfold Hid; rw [take_succ_app cs s.safe j hlt, CJ.out]; exact T4.out, G4⟩
        case measure => simp [intOf]; omega
      · have CC := hide' (delC HT.out hl h2)
        have CJ := hide' hc
        clear hcv h2 o2 hl hc
        go_wp2_with (go_at_call 53; refine CC.out.mono ?_; rintro e w4 ⟨rfl, t2, g2⟩; have T4 := hide' t2; have G4 := hide' (HG.out.andThen g2 (fun x hx => .inr hx)); clear t2 g2)
        go_roundw
        case rel => exact ⟨j + 1, by omega, by go_num, by unfold Hid; rw [take_succ_app cs s.safe j hlt, CJ.out]; exact T4.out, G4⟩
        case measure => simp [intOf]; omega
      · have CC := hide' (mvC HT.out hbd l1 l2 h1 h2 h3 (hcap bf o2) (hcap bb o3))
        have CJ := hide' hc
        clear hcv h1 h2 h3 o1 o2 o3 l1 l2 hc
        go_wp2_with (go_at_call 52; refine CC.out.mono ?_; rintro e w4 ⟨rfl, t2, g2⟩; have T4 := hide' t2; have G4 := hide' (HG.out.andThen g2 (fun x hx => .inr hx)); clear t2 g2)
        go_roundw
        case rel => exact ⟨j + 1, by omega, by go_num, by unfold Hid; rw [take_succ_app cs s.safe j hlt, CJ.out]; exact T4.out, G4⟩
        case measure => simp [intOf]; omega
    · have ej : j = q := by omega
      rw [ej] at HT
      clear ej
      have V3 := hide' (dkV_off V2.out (off_grown (S := fun k => k = M) HG.out (fun k e => (Option.some.inj e).symm)) (fun k e => by rw [e]; exact hoM))
      have F3 : Hid (Blk W.heap.size wr [.int .i64 k, .slice ka N kc]) := by
        have e := HG.out.block W.heap.size F2.out.2 (fun e => by have := Option.some.inj e; omega)
        exact ⟨fun i hi => ⟨by rw [World.cell?_of_block (w := w2) (a := ⟨W.heap.size, i, none⟩) e]; exact (F2.out.1 i hi).1, by rw [World.frozen?_of_block (w := w2) (a := ⟨W.heap.size, i, none⟩) e]; exact (F2.out.1 i hi).2⟩, Nat.lt_of_lt_of_le F2.out.2 HG.out.size⟩
      have BW3 : Hid (Below W.heap.size W wr) := BW2.out.trans ⟨HG.out.os, HG.out.tape, HG.out.output, HG.out.size, fun i hi => HG.out.block i (by have := BW2.out.size; omega) (fun e => by have := Option.some.inj e; omega)⟩
      have CR := hide' (risingC HT.out HWN.out.1 (by have h1 := app_bound cs s.safe q hsl (by have := HN.out; omega); exact h1))
      have hll := app_bound cs s.safe q hsl (by have := HN.out; omega)
      generalize appAll (cs.take q) s.safe = l at HT HWN HSP CR hll
      go_wp2_with fail
      refine CR.out.mono ?_
      rintro e w3 ⟨lv, rfl, ho⟩
      have HO : Hid (OwnS wr lv (l.map (fun p => p.1)) w3) := ho
      have V4 := hide' (dkV_below V3.out ho.2)
      have F4 := hide' (cells_below F3.out ho.2)
      have T4 := hide' (tbl_below HT.out ho.2)
      have BW4 := hide' (BW3.out.trans (ho.2.mono BW3.out.size))
      have HK4 := hide' (holdsI_mono HK.out (BW3.out.trans (ho.2.mono BW3.out.size)))
      have hWs : W.heap.size < w3.heap.size := F4.out.2
      clear ho V3 F3 HT BW3 CR HG
      by_cases hz : l = []
      · obtain ⟨la, lc, hlv⟩ := row_sl HO.out.1
        have e0 : (l.map (fun p => p.1)).length = 0 := by rw [hz]; rfl
        rw [e0] at hlv
        subst hlv
        have E : Hid (s.left k keep = []) := by unfold Hid; rw [HSP.out, hz]; rfl
        clear hz e0 hll
        go_wp2_with fail
        go_rounds 1
        go_ret
        rw [E.out]
        exact ⟨_, rfl, filo_nil _ _, BW4.out⟩
      · have hpos : 0 < (l.map (fun p => p.1)).length := by rw [List.length_map]; exact List.length_pos_iff.2 hz
        obtain ⟨lb, lc, hlv, hcells⟩ := ownS_slice HO.out hpos
        rw [List.length_map] at hlv
        obtain ⟨L, hL⟩ : ∃ L, L = l.length := ⟨_, rfl⟩
        have HL := hide' hL
        rw [← hL] at hlv hll
        subst hlv
        have HC := hide' hcells
        clear hz hpos hL hcells
        go_wp2_with fail
        go_loopw [8, 10, 41] (fun u _ i wx => ∃ (j : Nat) (xa : Option Addr) (xc : Nat), j ≤ L ∧ i = .int .i64 j ∧ u = .slice xa j xc ∧ Hid (FilO w3.heap.size (.slice xa j xc) (filesOf s keep (l.take j)) wx) ∧ Hid (Below w3.heap.size w3 wx)) (fun _ _ i _ => L - (intOf i).toNat)
        case atStart => exact ⟨0, none, 0, by omega, rfl, rfl, filo_nil _ _, Below.refl _ _⟩
        case round =>
          obtain ⟨j, xa, xc, hj2, rfl, rfl, HFI, HBL⟩ := hrel
          by_cases hlt : j < L
          · have hjl : j < l.length := by rw [← HL.out]; exact hlt
            have wj := HWN.out.2 (l[j]'hjl) (List.getElem_mem hjl)
            have aj : atN l (l[j]'hjl).1 = some (l[j]'hjl).2 := at_mem HWN.out.1 (List.getElem_mem hjl)
            have FS := hide' (files_step s keep l j hjl)
            have y1 : wr.cell? ⟨lb, j, none⟩ = some (.string ⟨((l[j]'hjl).1).toArray⟩) := by
              have hc := (HC.out j (by rw [List.length_map]; exact hjl)).1
              rw [List.getElem_map] at hc
              rw [HBL.out.cell (p := ⟨lb, j, none⟩) (by have := cell_lt hc; exact this)]
              exact hc
            have ysz : (⟨((l[j]'hjl).1).toArray⟩ : ByteArray).size ≤ 140737488351232 := by rw [size_l]; have := good_len wj.2; omega
            have ydt : (⟨((l[j]'hjl).1).toArray⟩ : ByteArray).data.toList = (l[j]'hjl).1 := by simp
            have LK : Hid (∀ Wx, Below wr.heap.size wr Wx → (Instr.lookup 67 (.map (some M)) (.string ⟨((l[j]'hjl).1).toArray⟩) false).run Try.prog Wx = .ok (.pointer (some ⟨fb (l[j]'hjl).2, 0, none⟩)) Wx) := fun Wx hb => look_one (tbl_below T4.out (HBL.out.trans (hb.mono HBL.out.size))) ysz (by rw [ydt]; exact aj)
            have KP : Hid (∀ Wx, Below wr.heap.size wr Wx → Wx.cell? ⟨W.heap.size, 1, none⟩ = some (.slice ka N kc)) := fun Wx hb => by
              have := (cells_below F4.out (HBL.out.trans (hb.mono HBL.out.size))).1 1 (by simp)
              simpa using this.1
            have CL : Hid (∀ Wx, Below wr.heap.size wr Wx → Calls Try.prog 45 #[.pointer (some ⟨fb (l[j]'hjl).2, 0, none⟩), .slice ka N kc] Wx fun e w' => ∃ ua ul uc, e = .returned (.slice ua ul uc) ∧ Hid (Below wr.heap.size wr w' ∧ Own wr (.slice ua ul uc) ((s.data.getD (l[j]'hjl).2 []).take (leftLen s keep (l[j]'hjl).2)) w') ∧ w'.cell? ⟨W.heap.size, 1, none⟩ = some (.slice ka N kc) ∧ (Instr.lookup 67 (.map (some M)) (.string ⟨((l[j]'hjl).1).toArray⟩) false).run Try.prog w' = .ok (.pointer (some ⟨fb (l[j]'hjl).2, 0, none⟩)) w') := by
              intro Wx hb
              have hb3 := HBL.out.trans (hb.mono HBL.out.size)
              have fa := (dkV_below V4.out hb3).files _ wj.1
              have hk2 := holdsI_mono HK4.out hb3
              refine (fleftC fa (V4.out.wf.firm _) (.slice ka N kc) keep (by rw [HNK.out] at hk2 ⊢; exact hk2) HKB.out (by have := HB.out.2.2.2.2.2 (l[j]'hjl).2; omega) (by have h1 := wj.1; have h2 := HB.out.2.1; omega)).mono ?_
              rintro e w' ⟨u, rfl, ho⟩
              obtain ⟨ua, uc, hu, _⟩ := holdsB_own ho
              have hbw := hb.trans (ho.2.mono hb.size)
              refine ⟨ua, _, uc, by rw [hu], ⟨hbw, ?_⟩, KP.out w' hbw, LK.out w' hbw⟩
              rw [← hu]
              exact own_base ho hb
            have CK : Hid (∀ Wx, Below wr.heap.size wr Wx → Calls Try.prog 29 #[.string ⟨((l[j]'hjl).1).toArray⟩] Wx fun e w' => e = .returned (.string ⟨((l[j]'hjl).1).toArray⟩) ∧ Hid (Below wr.heap.size wr w' ∧ Below Wx.heap.size Wx w') ∧ w'.cell? ⟨W.heap.size, 1, none⟩ = some (.slice ka N kc) ∧ (Instr.lookup 67 (.map (some M)) (.string ⟨((l[j]'hjl).1).toArray⟩) false).run Try.prog w' = .ok (.pointer (some ⟨fb (l[j]'hjl).2, 0, none⟩)) w') := fun Wx hb => (clone _ Wx ysz).mono (by
              rintro e w' ⟨rfl, hb2⟩
              have hbw := hb.trans (hb2.mono hb.size)
              exact ⟨rfl, ⟨hbw, hb2⟩, KP.out w' hbw, LK.out w' hbw⟩)
            have l0 := LK.out wr.drew ((Below.refl _ _).drew)
            have k0 := KP.out wr (Below.refl _ _)
            obtain ⟨ps, p1, p2, p3⟩ := HFI.out
            have e9 : ps.length = j := by rw [p2]; unfold filesOf; rw [List.length_map, List.length_take]; omega
            have P1 := hide' p1
            have P23 := hide' (And.intro p2 p3)
            have E9 := hide' e9
            have XY : Hid (S (l[j]'hjl).1 = .string ⟨((l[j]'hjl).1).toArray⟩) := rfl
            generalize (l[j]'hjl).1 = nmj at FS y1 ysz ydt LK CL CK l0 XY
            generalize (⟨nmj.toArray⟩ : ByteArray) = y at y1 ysz ydt LK CL CK l0 XY
            generalize (l[j]'hjl).2 = noj at FS LK CL CK l0
            generalize (s.data.getD noj []).take (leftLen s keep noj) = dj at FS CL
            clear p1 p2 p3 e9 wj aj LK KP ydt
            have APP : Hid (∀ (wl : World) (dv : Value), Below wr.heap.size wr wl → (wl.alloc (.cells #[.string y, dv] 43)).ownsRow w3.heap.size 43 2 (.slice xa j xc) j (cellsFi ps)) := fun wl dv hb => by
              have h0 := row_below (row_below P1.out hb) (below_alloc' wl (.cells #[.string y, dv] 43))
              rw [E9.out] at h0
              exact h0
            have KQ : Hid (∀ Wx, Below w3.heap.size w3 Wx → Wx.cell? ⟨W.heap.size, 1, none⟩ = some (.slice ka N kc)) := fun Wx hb => by
              have := (cells_below F4.out hb).1 1 (by simp)
              simpa using this.1
            have HS3 : Hid (∀ wl : World, Below wr.heap.size wr wl → w3.heap.size ≤ wl.heap.size) := fun wl hb => Nat.le_trans HBL.out.size hb.size
            have FIN : Hid (∀ (wl w6 : World) (dv : Value) (gb gc : Nat), Below wr.heap.size wr wl → Own wr dv dj wl → w6.ownsRow w3.heap.size 43 2 (.slice (some ⟨gb, 0, none⟩) (j + 1) gc) (j + 1) (cellsFi ps ++ [.string y, dv]) → (wl.alloc (.cells #[.string y, dv] 43)).grownBy w6 (Value.slice xa j xc).ownBlock → ((Value.slice xa j xc).ownBlock = some gb ∨ gb = wl.heap.size + 1) → FilO w3.heap.size (.slice (some ⟨gb, 0, none⟩) (j + 1) gc) (filesOf s keep (l.take (j + 1))) w6 ∧ Below w3.heap.size w3 w6) := by
              intro wl w6 dv gb gc hb hd hr hg hat
              have ba := below_alloc' wl (.cells #[.string y, dv] 43)
              have hbx := hb.trans (ba.mono hb.size)
              have za : (wl.alloc (.cells #[.string y, dv] 43)).heap.size = wl.heap.size + 1 := by simp
              have row1 := row_below P1.out hbx
              have hvb : ∀ k, (Value.slice xa j xc).ownBlock = some k → k < wr.heap.size := fun k e => (P1.out.lt k e).2
              have hd2 : (wl.alloc (.cells #[.string y, dv] 43)).ownsRow w3.heap.size 5 1 dv dj.length (dj.map B) := row_base (row_below hd.1 ba) HBL.out.size
              have fr := filo_app (nm := nmj) (d := dj) hd2 ps ⟨row1, P23.out.1, fun i p f e1 e2 => by obtain ⟨x1, x2⟩ := P23.out.2 i p f e1 e2; exact ⟨x1, row_below x2 hbx⟩⟩ (g := gb) (cap := gc) (by rw [E9.out, XY.out]; exact hr) hg
              rw [E9.out, ← FS.out] at fr
              refine ⟨fr, ?_⟩
              have h0 := HBL.out.trans (hbx.mono HBL.out.size)
              exact Below.grown h0 hg (by have := HBL.out.size; have := hbx.size; omega) (fun k e => (P1.out.lt k e).1)
            go_wp2_with fail
            go_region_held_law (fun w' => w'.cell? ⟨W.heap.size, 1, none⟩ = some (.slice ka N kc)) (go_keep)
              (first
                | (go_at_call 29; refine (CK.out _ ?_).mono ?_; (first | exact (Below.refl _ _).drew | exact Below.refl _ _ | exact B5.out.1); rintro e w4 ⟨rfl, B4, x4, l4⟩)
                | (go_at_call 45; refine (CL.out _ ?_).mono ?_; (first | exact (Below.refl _ _).drew | exact Below.refl _ _ | exact B4.out.1); rintro e w5 ⟨ua, ul, uc, rfl, B5, x5, l5⟩)
                | (refine step_appFi (by rfl) (.tmp 45) (.tmp 55) (by rfl) w3.heap.size (.slice xa j xc) j ps (by rfl) (APP.out w5 _ B5.out.1) (by rfl) rfl (by omega) (HS3.out w5 B5.out.1) ?_; intro gb gc w6 r6 g6 a6; have FR := hide' (FIN.out w5 w6 _ gb gc B5.out.1 B5.out.2 r6 g6 a6); have z6 : w6.cell? ⟨W.heap.size, 1, none⟩ = some (.slice ka N kc) := KQ.out w6 FR.out.2; clear r6 g6 a6))
            all_goals
              go_wp2_with fail
              go_roundw
              case rel => exact ⟨j + 1, some ⟨gb, 0, none⟩, gc, by omega, by go_num, rfl, FR.out.1, FR.out.2⟩
              case measure => simp [intOf]; omega
          · have ej : l.take j = l := List.take_of_length_le (by rw [← HL.out]; omega)
            have EJ := hide' ej
            clear ej
            go_wp2_with fail
            go_ret
            refine ⟨_, rfl, ?_, BW4.out.trans (HBL.out.mono (by omega))⟩
            have h1 := HFI.out
            rw [EJ.out] at h1
            rw [HSP.out]
            exact filo_base h1 (by omega)
end Go.Proofs.Ytaklfiipkjfjdaa
namespace Go.Proofs.Ytaklfiipkjfjdaa
open Go.RowKit
theorem in_subS {S : Nat → Prop} {w w1 W : World} (h1 : Below w.heap.size w w1) (hb : Below w1.heap.size w1 W) (ho : ∀ k, S k → w1.heap.size ≤ k) : Sub w (mask S W) :=
  ⟨by rw [mask_size]; exact Nat.le_trans h1.size hb.size, fun a v h => by
    have hl := cell_lt h
    have hs := h1.size
    rw [mask_cell W (show ¬ S a.block from fun e => by have := ho _ e; omega), hb.cell (p := a) (by omega), h1.cell hl]
    exact h⟩
/-- both disks; the blocks X lie in neither -/
structure TwM (X : Nat → Prop) (o : Ow) (g q : Nat) (vs : List Value) (v : Value) (s t : Dk) (w1 W : World) : Prop where
  liv : Liv o g s w1 W
  kp : Kp o w1 q vs W
  ref : RefS (mask (fun k => NoB o q k ∨ X k) W) v t
  off : ∀ k, X k → o k = none ∧ k ≠ q ∧ w1.heap.size ≤ k ∧ k < W.heap.size
section
variable {X : Nat → Prop} {o o' : Ow} {w1 W W' : World} {p g q : Nat} {cs vs us : List Value} {s s' t t' : Dk} {v v' : Value}
theorem twm_two (h : TwM X o g q vs v s t w1 W) : Two o g q vs v s t w1 W := ⟨h.liv, h.kp, refS_sub h.ref (mask_mono (fun _ e => .inl e))⟩
theorem kp_poke (h : Kp o w1 p cs W) {b : Nat} (hb : b ≠ p) (j : Nat) (u : Value) : Kp o w1 p cs (W.setCell ⟨b, j, none⟩ u) := ⟨h.out, h.lo, cells_other h.blk (fun e => hb e.symm) u⟩
theorem twm_poke (h : TwM X o g q vs v s t w1 W) {b : Nat} (hb : X b) (j : Nat) (u : Value) : TwM X o g q vs v s t w1 (W.setCell ⟨b, j, none⟩ u) := by
  have hx := h.off b hb
  refine ⟨⟨dsk_off h.liv.dsk (off_poke (S := fun k => k = b) ⟨b, j, none⟩ rfl u) (fun k e => by rw [e]; exact hx.1), h.liv.own, h.liv.bel.setCell hx.2.2.1 u⟩, kp_poke h.kp hx.2.1 j u, refS_sub h.ref (off_mask (S := fun k => NoB o q k ∨ X k) (S' := fun k => NoB o q k ∨ X k) (off_poke ⟨b, j, none⟩ (.inr hb) u) (fun _ e => .inl e)), fun k e => ?_⟩
  have := h.off k e
  exact ⟨this.1, this.2.1, this.2.2.1, by simpa [World.setCell] using this.2.2.2⟩
/-- new blocks behind what there is -/
theorem two_new (h : Two o g q vs v s t w1 W) (hb : Below W.heap.size W W') : TwM (fun k => W.heap.size ≤ k ∧ k < W'.heap.size) o g q vs v s t w1 W' := by
  have h2 := two_below h hb
  refine ⟨h2.liv, h2.kp, refS_sub h.ref (off_mask (S := NoB o q) (S' := fun k => NoB o q k ∨ (W.heap.size ≤ k ∧ k < W'.heap.size)) (off_of hb) (fun k e => e.elim .inl (fun e => .inr e.1))), fun k e => ⟨?_, ?_, ?_, e.2⟩⟩
  · cases e2 : o k with
    | none => rfl
    | some r => have := dsk_lt h.liv.dsk k (has_of e2); have := e.1; omega
  · have := h.kp.blk.2; have := e.1; omega
  · have := h.liv.bel.size; have := e.1; omega
theorem twm_grow (h : TwM X o g q vs v s t w1 W) (hl : Liv o' g s' w1 W') (hg : Grow o W o' W') : TwM X o' g q vs v s' t w1 W' := by
  refine ⟨hl, kp_grow h.kp hg, refS_sub h.ref (off_mask (S := fun k => NoB o q k ∨ X k) (S' := fun k => NoB o' q k ∨ X k) (hg.off.mono (fun _ e => .inl (.inl e))) (fun k e => ?_)), fun k e => ?_⟩
  · rcases e with (e | e) | e
    · exact (hg.new k e).elim (fun e => .inl (.inl (.inl e))) .inr
    · exact .inl (.inl (.inr e))
    · exact .inl (.inr e)
  · have hx := h.off k e
    refine ⟨?_, hx.2.1, hx.2.2.1, Nat.lt_of_lt_of_le hx.2.2.2 hg.off.size⟩
    cases e2 : o' k with
    | none => rfl
    | some r =>
      rcases hg.new k (has_of e2) with h1 | h1
      · exact absurd hx.1 h1
      · have := hx.2.2.2; omega
theorem twm_keep (h : TwM X o g q vs v s t w1 W) (hg : Grow o W o' W') {b : Nat} (hb : X b) : W'.heap[b]? = W.heap[b]? := by
  have hx := h.off b hb
  exact hg.off.block b hx.2.2.2 (fun e => e hx.1)
/-- the beginning: the copies lie between w1 and w3, the document's value behind w4 -/
theorem twm_start {w3 w4 w5 : World} (hl : Liv o g s w1 w4) (ho : ∀ k, o.has k → w3.heap.size ≤ k) (h34 : w3.heap.size ≤ w4.heap.size) (h45 : Below w4.heap.size w4 w5) (hr : RefS (mask (fun k => w1.heap.size ≤ k ∧ k < w4.heap.size) w5) v t) (hb : Below w5.heap.size w5 W) (hk : Blk w5.heap.size W vs) :
    TwM (fun k => w1.heap.size ≤ k ∧ k < w3.heap.size) o g w5.heap.size vs v s t w1 W := by
  have hl5 := liv_below hl h45
  refine ⟨liv_below hl5 hb, kp_new hl5 hk, refS_sub hr (off_mask (S := fun k => w1.heap.size ≤ k ∧ k < w4.heap.size) (S' := fun k => NoB o w5.heap.size k ∨ (w1.heap.size ≤ k ∧ k < w3.heap.size)) (off_of hb) (fun k e => ?_)), fun k e => ⟨?_, ?_, e.1, ?_⟩⟩
  · rcases e with (e | e) | e
    · exact .inl ⟨hl.own k e, dsk_lt hl.dsk k e⟩
    · exact .inr (by omega)
    · exact .inl ⟨e.1, by have := e.2; omega⟩
  · cases e2 : o k with
    | none => rfl
    | some r => have := ho k (has_of e2); have := e.2; omega
  · have := h45.size; have := e.2; omega
  · have := h45.size; have := hb.size; have := e.2; omega
end
/-- while the copies of what came in are written -/
structure PhA (X : Nat → Prop) (o : Ow) (g q : Nat) (vs : List Value) (v : Value) (s : Dk) (w1 : World) (fv : Value) (nf : Nat) (zv : Value) (nz : Nat) (W : World) : Prop where
  tw : TwM X o g q vs v s s w1 W
  fil : FilE X fv nf W
  zs : RowE X 3 1 zv nz W
/-- one of the files is written -/
structure PhB (X : Nat → Prop) (o : Ow) (g q : Nat) (vs : List Value) (v : Value) (s : Dk) (w1 : World) (fg fc nf : Nat) (zv : Value) (nz i : Nat) (ba : Option Addr) (m bc : Nat) (W : World) : Prop where
  a : PhA X o g q vs v s w1 (.slice (some ⟨fg, 0, none⟩) nf fc) nf zv nz W
  cell : W.cell? ⟨fg, i * 2 + 1, none⟩ = some (.slice ba m bc)
  row : RowE X 5 1 (.slice ba m bc) m W
theorem phB_poke {X : Nat → Prop} {o : Ow} {g q : Nat} {vs : List Value} {v : Value} {s : Dk} {w1 : World} {fg fc nf nz i b m bc : Nat} {zv : Value} {W : World} (h : PhB X o g q vs v s w1 fg fc nf zv nz i (some ⟨b, 0, none⟩) m bc W) (j : Nat) (u : Value) : PhB X o g q vs v s w1 fg fc nf zv nz i (some ⟨b, 0, none⟩) m bc (W.setCell ⟨b, j, none⟩ u) := by
  have hb : X b := h.row.2 b rfl
  have hne := filE_ne h.a.fil h.row rfl
  exact ⟨⟨twm_poke h.a.tw hb j u, filE_poke h.a.fil h.row u8_ne_file rfl u, rowE_poke h.a.zs _ _⟩, by rw [World.cell?_setCell_other _ _ _ _ (fun e => hne (congrArg Addr.block e))]; exact h.cell, rowE_poke h.row _ _⟩
theorem phA_name {X : Nat → Prop} {o : Ow} {g q : Nat} {vs : List Value} {v : Value} {s : Dk} {w1 : World} {fg fc nf nz i : Nat} {zv : Value} {W : World} (h : PhA X o g q vs v s w1 (.slice (some ⟨fg, 0, none⟩) nf fc) nf zv nz W) (hi : i < nf) (nm : Nm) : PhA X o g q vs v s w1 (.slice (some ⟨fg, 0, none⟩) nf fc) nf zv nz (W.setCell ⟨fg, i * 2, none⟩ (S nm)) := by
  obtain ⟨_, _, _, _, _, _, _, _, _, hP⟩ := filE_at h.fil hi
  exact ⟨twm_poke h.tw hP _ _, filE_name h.fil hi nm, rowE_poke h.zs _ _⟩
theorem int_ne_file : (3 : TypeId) ≠ 43 := by decide
theorem phA_int {X : Nat → Prop} {o : Ow} {g q : Nat} {vs : List Value} {v : Value} {s : Dk} {w1 : World} {fv : Value} {nf nz b zc : Nat} {W : World} (h : PhA X o g q vs v s w1 fv nf (.slice (some ⟨b, 0, none⟩) nz zc) nz W) (j : Nat) (u : Value) : PhA X o g q vs v s w1 fv nf (.slice (some ⟨b, 0, none⟩) nz zc) nz (W.setCell ⟨b, j, none⟩ u) :=
  ⟨twm_poke h.tw (h.zs.2 b rfl) j u, filE_poke h.fil h.zs int_ne_file rfl u, rowE_poke h.zs _ _⟩
/-- what is written lies behind W0 -/
structure PhC (W0 : World) (t : TypeId) (u : Value) (m : Nat) (W : World) : Prop where
  bel : Below W0.heap.size W0 W
  row : RowE (fun k => W0.heap.size ≤ k) t 1 u m W
theorem phC_poke {W0 : World} {t : TypeId} {b m c : Nat} {W : World} (h : PhC W0 t (.slice (some ⟨b, 0, none⟩) m c) m W) (j : Nat) (u : Value) : PhC W0 t (.slice (some ⟨b, 0, none⟩) m c) m (W.setCell ⟨b, j, none⟩ u) :=
  ⟨h.bel.setCell (h.row.2 b rfl) u, rowE_poke h.row _ _⟩
theorem phC_cell {W0 : World} {t : TypeId} {b m c j : Nat} {W : World} (h : PhC W0 t (.slice (some ⟨b, 0, none⟩) m c) m W) (hj : j < m) : (∃ v, W.cell? ⟨b, j, none⟩ = some v) ∧ W.frozen? ⟨b, j, none⟩ = false := by
  have := rowE_cell h.row (j := j) (by omega)
  exact ⟨this.1, this.2.1⟩
/-- the files that are left are written -/
structure PhD (W0 : World) (fg fc nf : Nat) (W : World) : Prop where
  bel : Below W0.heap.size W0 W
  fil : FilE (fun k => W0.heap.size ≤ k) (.slice (some ⟨fg, 0, none⟩) nf fc) nf W
structure PhE (W0 : World) (fg fc nf i : Nat) (ba : Option Addr) (m bc : Nat) (W : World) : Prop where
  d : PhD W0 fg fc nf W
  cell : W.cell? ⟨fg, i * 2 + 1, none⟩ = some (.slice ba m bc)
  row : RowE (fun k => W0.heap.size ≤ k) 5 1 (.slice ba m bc) m W
theorem phE_poke {W0 : World} {fg fc nf i b m bc : Nat} {W : World} (h : PhE W0 fg fc nf i (some ⟨b, 0, none⟩) m bc W) (j : Nat) (u : Value) : PhE W0 fg fc nf i (some ⟨b, 0, none⟩) m bc (W.setCell ⟨b, j, none⟩ u) := by
  have hne := filE_ne h.d.fil h.row rfl
  exact ⟨⟨h.d.bel.setCell (h.row.2 b rfl) u, filE_poke h.d.fil h.row u8_ne_file rfl u⟩, by rw [World.cell?_setCell_other _ _ _ _ (fun e => hne (congrArg Addr.block e))]; exact h.cell, rowE_poke h.row _ _⟩
/-- an op's copy is written -/
structure PhO (X : Nat → Prop) (o : Ow) (g q p : Nat) (vs cs : List Value) (v : Value) (s t : Dk) (w1 : World) (u : Value) (m : Nat) (W : World) : Prop where
  tw : TwM X o g q vs v s t w1 W
  kp : Kp o w1 p cs W
  np : ¬ X p
  row : RowE X 5 1 u m W
theorem phO_poke {X : Nat → Prop} {o : Ow} {g q p : Nat} {vs cs : List Value} {v : Value} {s t : Dk} {w1 : World} {b m c : Nat} {W : World} (h : PhO X o g q p vs cs v s t w1 (.slice (some ⟨b, 0, none⟩) m c) m W) (j : Nat) (u : Value) : PhO X o g q p vs cs v s t w1 (.slice (some ⟨b, 0, none⟩) m c) m (W.setCell ⟨b, j, none⟩ u) := by
  have hb : X b := h.row.2 b rfl
  exact ⟨twm_poke h.tw hb j u, kp_poke h.kp (fun e => h.np (by rw [← e]; exact hb)) j u, h.np, rowE_poke h.row _ _⟩
theorem phO_grow {X : Nat → Prop} {o o' : Ow} {g q p : Nat} {vs cs : List Value} {v : Value} {s s' t : Dk} {w1 : World} {u : Value} {m : Nat} {W W' : World} (h : PhO X o g q p vs cs v s t w1 u m W) (hl : Liv o' g s' w1 W') (hg : Grow o W o' W') : PhO X o' g q p vs cs v s' t w1 u m W' :=
  ⟨twm_grow h.tw hl hg, kp_grow h.kp hg, h.np, rowE_block h.row (fun _ hb _ => twm_keep h.tw hg hb)⟩
end Go.Proofs.Ytaklfiipkjfjdaa
namespace Go.Proofs.Ytaklfiipkjfjdaa
open Go.RowKit
set_option maxRecDepth 20000 in
set_option maxHeartbeats 32000000 in
theorem memoryLC {w : World} {fv zv ov : Value} {fs : FL} {fails : List Int} {os : List OpT} (room power mk : Int) (hf : HoldsFi w fv fs) (hz : HoldsI w zv fails) (ho : HoldsO w ov os) (b1 : bulkF fs ≤ 1048576) (b2 : fails.length ≤ 1048576) (b3 : bulkO os ≤ 1048576)
    (zb : ∀ z ∈ fails, -9223372036854775808 ≤ z ∧ z ≤ 9223372036854775807) :
    Calls Try.prog 3 #[.agg #[fv, .int .i64 room, zv, .int .i64 power], ov, .int .u8 mk] w fun e w' => e = .returned (.bool true) ∧ Below w.heap.size w w' := by
  obtain ⟨fa, fc, hfv, _⟩ := id hf
  obtain ⟨za, zc, hzv, _⟩ := id hz
  obtain ⟨oa, oc, hov, _⟩ := ho_slice ho
  have HF := hide' hf
  have HZ := hide' hz
  have HO := hide' ho
  have B1 := hide' b1
  have B2 := hide' b2
  have B3 := hide' b3
  have ZB := hide' zb
  have BS : Hid (Blk w.heap.size (w.alloc (.cells #[fv, .int .i64 room, zv, .int .i64 power] 25)) [fv, .int .i64 room, zv, .int .i64 power] ∧ Below w.heap.size w (w.alloc (.cells #[fv, .int .i64 room, zv, .int .i64 power] 25))) := ⟨by simpa using cells_lit w #[fv, .int .i64 room, zv, .int .i64 power] 25, below_alloc' _ _⟩
  subst hfv hzv hov
  rename_i y1 y2 y3
  clear y1 y2 y3 hf hz ho b1 b2 b3 zb
  obtain ⟨nf, hnf⟩ : ∃ n, n = fs.length := ⟨_, rfl⟩
  obtain ⟨nz, hnz⟩ : ∃ n, n = fails.length := ⟨_, rfl⟩
  obtain ⟨no, hno⟩ : ∃ n, n = os.length := ⟨_, rfl⟩
  rw [← hnf, ← hnz] at BS
  rw [← hnf] at HF
  rw [← hnz] at HZ
  rw [← hno] at HO
  rw [← hnf, ← hnz, ← hno]
  clear hnf hnz hno
  go_enter Try.func3, Try.ntmps3
  go_wp2_with fail
  generalize (w.alloc (.cells #[.slice fa nf fc, .int .i64 room, .slice za nz zc, .int .i64 power] 25)) = W3 at BS ⊢
  refine (aliveC W3).mono ?_
  rintro e w1 ⟨rfl, hb1⟩
  have BS1 : Hid (Blk w.heap.size w1 [.slice fa nf fc, .int .i64 room, .slice za nz zc, .int .i64 power] ∧ Below w.heap.size w w1) := ⟨cells_below BS.out.1 hb1, BS.out.2.trans (hb1.mono BS.out.2.size)⟩
  clear hb1 BS
  obtain ⟨⟨x0, x1, x2, x3⟩, _⟩ := cells_4 BS1.out.1
  have CF := hide' (copyFiO (.slice fa nf fc) fs w1 (holdsFi_mono HF.out BS1.out.2) (by have := bulkF_len fs; have := B1.out; omega) (fun f h => by have := bulkF_mem fs f h; have := B1.out; omega))
  go_wp2_with fail
  refine CF.out.mono ?_
  rintro e w2 ⟨fu, rfl, hfo, hb2⟩
  have BS2 : Hid (Blk w.heap.size w2 [.slice fa nf fc, .int .i64 room, .slice za nz zc, .int .i64 power] ∧ Below w.heap.size w w2) := ⟨cells_below BS1.out.1 hb2, BS1.out.2.trans (hb2.mono BS1.out.2.size)⟩
  have B12 := hide' hb2
  have FO2 := hide' hfo
  clear x0 x1 x2 x3 CF hb2 hfo
  obtain ⟨⟨x0, x1, x2, x3⟩, _⟩ := cells_4 BS2.out.1
  have CI := hide' (copyIntsC (.slice za nz zc) fails w2 (holdsI_mono HZ.out BS2.out.2) (by have := B2.out; omega))
  go_wp2_with fail
  refine CI.out.mono ?_
  rintro e w3 ⟨zu, rfl, hzo⟩
  have BS3 : Hid (Blk w.heap.size w3 [.slice fa nf fc, .int .i64 room, .slice za nz zc, .int .i64 power] ∧ Below w.heap.size w w3) := ⟨cells_below BS2.out.1 hzo.2, BS2.out.2.trans (hzo.2.mono BS2.out.2.size)⟩
  have B13 := hide' (B12.out.trans (hzo.2.mono B12.out.size))
  have FO3 := hide' (filo_below FO2.out hzo.2)
  have ZO3 := hide' hzo
  clear x0 x1 x2 x3 CI hzo BS2 FO2
  obtain ⟨⟨x0, x1, x2, x3⟩, _⟩ := cells_4 BS3.out.1
  have CN0 := hide' (newC fu fs room zu fails power w3 (holdsFi_sub (mask_sub _ _) (filo_holds FO3.out)) (holdsI_own ZO3.out) (fun f h => by have := bulkF_mem fs f h; have := B1.out; omega) (by have := bulkF_len fs; have := B1.out; omega) (by have := B2.out; omega) ZB.out)
  go_wp2_with fail
  refine CN0.out.mono ?_
  intro e w4 np
  clear x0 x1 x2 x3 CN0
  obtain ⟨nb, hor⟩ := np
  have B34 := hide' nb
  have BS4 : Hid (Blk w.heap.size w4 [.slice fa nf fc, .int .i64 room, .slice za nz zc, .int .i64 power] ∧ Below w.heap.size w w4) := ⟨cells_below BS3.out.1 nb, BS3.out.2.trans (nb.mono BS3.out.2.size)⟩
  obtain ⟨⟨x0, x1, x2, x3⟩, _⟩ := cells_4 BS4.out.1
  obtain ⟨ne, rfl⟩ | ⟨hne0, g, o, rfl, hD, hO⟩ := hor
  · have CN := hide' (newRC (Sx := fun _ => False) (w := w4) (fun _ e => e.elim) (.slice fa nf fc) fs room (.slice za nz zc) fails power (holdsFi_mono HF.out BS4.out.2) (holdsI_sub (no_mask w4) (holdsI_mono HZ.out BS4.out.2)) (fun f h => by have := bulkF_mem fs f h; have := B1.out; omega) (by have := bulkF_len fs; have := B1.out; omega))
    have ne' : ((newE fs room) != 0) = true := by simpa using ne
    clear nb
    generalize newE fs room = er at ne ne' CN ⊢
    go_wp2_with fail
    refine CN.out.mono ?_
    rintro e w5 ⟨v0, v1, v2, v3, v4, v5, v6, v7, v8, rfl, hb3, -, hzz⟩
    have hzz := hzz ne
    simp only [List.cons.injEq, and_true] at hzz
    obtain ⟨rfl, rfl, rfl, rfl, rfl, rfl, rfl, rfl, rfl⟩ := hzz
    have NB := hide' (BS4.out.2.trans (hb3.mono BS4.out.2.size))
    clear hb3 x0 x1 x2 x3 CN
    go_wp2_with fail
    go_ret
    exact ⟨rfl, NB.out.trans ((below_alloc' _ _).mono NB.out.size)⟩
  have L0 : Hid (Liv o g (newS fs room fails power) w1 w4) := ⟨hD, fun k e => Nat.le_trans B13.out.size (hO k e), B13.out.trans (nb.mono B13.out.size)⟩
  have HOW := hide' hO
  have NE := hide' hne0
  have BW : Hid (Below w.heap.size w w1) := BS1.out.2
  have CN := hide' (newRC (Sx := fun k => w1.heap.size ≤ k ∧ k < w4.heap.size) (w := w4) (fun k e => e.2) (.slice fa nf fc) fs room (.slice za nz zc) fails power (holdsFi_mono HF.out BS4.out.2) (holdsI_sub (in_subS BS1.out.2 L0.out.bel (fun k e => e.1)) HZ.out) (fun f h => by have := bulkF_mem fs f h; have := B1.out; omega) (by have := bulkF_len fs; have := B1.out; omega))
  rw [hne0] at CN
  clear hD hO nb hne0 BS1 BS3 BS4
  go_wp2_with fail
  refine CN.out.mono ?_
  rintro e w5 ⟨v0, v1, v2, v3, v4, v5, v6, v7, v8, rfl, hb3, hr, -⟩
  obtain ⟨⟨a0, n0, c0⟩, ⟨a1, n1, c1⟩, ⟨a2, n2, c2⟩, ⟨a3, n3, c3⟩, ⟨a4, n4, c4⟩, ⟨a6, n6, c6⟩, ev, hv⟩ := id (hr (by first | rfl | trivial))
  have hr := hr (by first | rfl | trivial)
  unfold stV at ev
  dsimp only at ev
  obtain ⟨rfl, rfl, rfl, rfl, rfl, rfl, rfl, rfl, rfl⟩ := agg9_inj ev
  have TW : Hid (TwM (fun k => w1.heap.size ≤ k ∧ k < w3.heap.size) o g w5.heap.size [.slice a0 n0 c0, .slice a1 n1 c1, .slice a2 n2 c2, .slice a3 n3 c3, .slice a4 n4 c4, .int .i64 (newS fs room fails power).room, .slice a6 n6 c6, .int .i64 (newS fs room fails power).power, .int .i64 ((newS fs room fails power).n : Int)] (.agg #[.slice a0 n0 c0, .slice a1 n1 c1, .slice a2 n2 c2, .slice a3 n3 c3, .slice a4 n4 c4, .int .i64 (newS fs room fails power).room, .slice a6 n6 c6, .int .i64 (newS fs room fails power).power, .int .i64 ((newS fs room fails power).n : Int)]) (newS fs room fails power) (newS fs room fails power) w1 (w5.alloc (.cells #[.slice a0 n0 c0, .slice a1 n1 c1, .slice a2 n2 c2, .slice a3 n3 c3, .slice a4 n4 c4, .int .i64 (newS fs room fails power).room, .slice a6 n6 c6, .int .i64 (newS fs room fails power).power, .int .i64 ((newS fs room fails power).n : Int)] 38))) := twm_start L0.out HOW.out B34.out.size hb3 hr (below_alloc' _ _) (by simpa using cells_lit w5 #[.slice a0 n0 c0, .slice a1 n1 c1, .slice a2 n2 c2, .slice a3 n3 c3, .slice a4 n4 c4, .int .i64 (newS fs room fails power).room, .slice a6 n6 c6, .int .i64 (newS fs room fails power).power, .int .i64 ((newS fs room fails power).n : Int)] 38)
  have B36 : Hid (Below w3.heap.size w3 (w5.alloc (.cells #[.slice a0 n0 c0, .slice a1 n1 c1, .slice a2 n2 c2, .slice a3 n3 c3, .slice a4 n4 c4, .int .i64 (newS fs room fails power).room, .slice a6 n6 c6, .int .i64 (newS fs room fails power).power, .int .i64 ((newS fs room fails power).n : Int)] 38))) := B34.out.trans ((hb3.trans ((below_alloc' _ _).mono hb3.size)).mono B34.out.size)
  clear hv ev hr hb3 CN x0 x1 x2 x3 L0
  obtain ⟨S0, hS0⟩ : ∃ S, S = newS fs room fails power := ⟨_, rfl⟩
  have ES0 := hide' hS0
  rw [← hS0] at TW B36 ⊢
  clear hS0
  have hFE := filE_block (filE_of (P := fun k => w1.heap.size ≤ k ∧ k < w3.heap.size) FO3.out (fun f h => by have := bulkF_mem fs f h; have := B1.out; omega) (fun b h1 h2 => ⟨h1, h2⟩)) (fun b _ hb => B36.out.block b hb)
  have hZE := rowE_block (rowE_of (P := fun k => w1.heap.size ≤ k ∧ k < w3.heap.size) ZO3.out.1 (fun b h1 h2 => ⟨Nat.le_trans B12.out.size h1, h2⟩)) (fun b _ hb => B36.out.block b hb)
  obtain ⟨ga, gc, hfu, hgpos⟩ := filE_form hFE
  obtain ⟨ya, yc, hzu, hypos⟩ := rowE_form hZE
  obtain ⟨nu, hnu⟩ : ∃ n, n = fs.length := ⟨_, rfl⟩
  obtain ⟨nv, hnv⟩ : ∃ n, n = fails.length := ⟨_, rfl⟩
  have lnu : nu ≤ 1048576 := by have := bulkF_len fs; have := B1.out; omega
  have lnv : nv ≤ 1048576 := by have := B2.out; omega
  rw [← hnu] at hfu hFE hgpos
  rw [← hnv] at hzu hZE hypos
  subst hfu hzu
  obtain ⟨X, hX⟩ : ∃ X : Nat → Prop, X = fun k => w1.heap.size ≤ k ∧ k < w3.heap.size := ⟨_, rfl⟩
  rw [← hX] at TW hFE hZE
  have P0 : Hid (PhA X o g w5.heap.size [.slice a0 n0 c0, .slice a1 n1 c1, .slice a2 n2 c2, .slice a3 n3 c3, .slice a4 n4 c4, .int .i64 S0.room, .slice a6 n6 c6, .int .i64 S0.power, .int .i64 (S0.n : Int)] (.agg #[.slice a0 n0 c0, .slice a1 n1 c1, .slice a2 n2 c2, .slice a3 n3 c3, .slice a4 n4 c4, .int .i64 S0.room, .slice a6 n6 c6, .int .i64 S0.power, .int .i64 (S0.n : Int)]) S0 w1 (.slice ga nu gc) nu (.slice ya nv yc) nv (w5.alloc (.cells #[.slice a0 n0 c0, .slice a1 n1 c1, .slice a2 n2 c2, .slice a3 n3 c3, .slice a4 n4 c4, .int .i64 S0.room, .slice a6 n6 c6, .int .i64 S0.power, .int .i64 (S0.n : Int)] 38))) := ⟨TW.out, hFE, hZE⟩
  clear hFE hZE TW hX hnu hnv B12 B13 B34 B36 FO3 ZO3 HOW
  go_wp2_with fail
  generalize (w5.alloc (.cells #[.slice a0 n0 c0, .slice a1 n1 c1, .slice a2 n2 c2, .slice a3 n3 c3, .slice a4 n4 c4, .int .i64 S0.room, .slice a6 n6 c6, .int .i64 S0.power, .int .i64 (S0.n : Int)] 38)) = w6 at P0 ⊢
  obtain ⟨q, hq⟩ : ∃ q, q = w5.heap.size := ⟨_, rfl⟩
  rw [← hq] at P0 ⊢
  clear hq
  go_loopw [13] (fun i wr => ∃ j : Nat, j ≤ nu ∧ i = .int .i64 j ∧ Hid (PhA X o g q [.slice a0 n0 c0, .slice a1 n1 c1, .slice a2 n2 c2, .slice a3 n3 c3, .slice a4 n4 c4, .int .i64 S0.room, .slice a6 n6 c6, .int .i64 S0.power, .int .i64 (S0.n : Int)] (.agg #[.slice a0 n0 c0, .slice a1 n1 c1, .slice a2 n2 c2, .slice a3 n3 c3, .slice a4 n4 c4, .int .i64 S0.room, .slice a6 n6 c6, .int .i64 S0.power, .int .i64 (S0.n : Int)]) S0 w1 (.slice ga nu gc) nu (.slice ya nv yc) nv wr)) (fun i _ => nu - (intOf i).toNat)
  case atStart => exact ⟨0, by omega, rfl, P0⟩
  case round =>
    obtain ⟨j, hj, rfl, HP⟩ := hrel
    clear P0
    by_cases hlt : j < nu
    · obtain ⟨gb, hgb⟩ := hgpos (by omega)
      subst hgb
      obtain ⟨nm, ba, m, bc, hm, k0, k1, kf, hrow, -⟩ := filE_at HP.out.fil hlt
      have PB : Hid (PhB X o g q [.slice a0 n0 c0, .slice a1 n1 c1, .slice a2 n2 c2, .slice a3 n3 c3, .slice a4 n4 c4, .int .i64 S0.room, .slice a6 n6 c6, .int .i64 S0.power, .int .i64 (S0.n : Int)] (.agg #[.slice a0 n0 c0, .slice a1 n1 c1, .slice a2 n2 c2, .slice a3 n3 c3, .slice a4 n4 c4, .int .i64 S0.room, .slice a6 n6 c6, .int .i64 S0.power, .int .i64 (S0.n : Int)]) S0 w1 gb gc nu (.slice ya nv yc) nv j ba m bc wr) := ⟨HP.out, k1, hrow⟩
      clear k0 k1 kf hrow HP nm
      go_wp2_with fail
      go_loopw [14] (fun i wr => ∃ l : Nat, l ≤ m ∧ i = .int .i64 l ∧ Hid (PhB X o g q [.slice a0 n0 c0, .slice a1 n1 c1, .slice a2 n2 c2, .slice a3 n3 c3, .slice a4 n4 c4, .int .i64 S0.room, .slice a6 n6 c6, .int .i64 S0.power, .int .i64 (S0.n : Int)] (.agg #[.slice a0 n0 c0, .slice a1 n1 c1, .slice a2 n2 c2, .slice a3 n3 c3, .slice a4 n4 c4, .int .i64 S0.room, .slice a6 n6 c6, .int .i64 S0.power, .int .i64 (S0.n : Int)]) S0 w1 gb gc nu (.slice ya nv yc) nv j ba m bc wr)) (fun i _ => m - (intOf i).toNat)
      case atStart => exact ⟨0, by omega, rfl, PB⟩
      case round =>
        obtain ⟨l, hl, rfl, HB⟩ := hrel
        clear PB
        have k1 := HB.out.cell
        by_cases hlt2 : l < m
        · obtain ⟨ba', bc', eb, hbpos⟩ := rowE_form HB.out.row
          simp only [Value.slice.injEq, true_and] at eb
          obtain ⟨e1, e2⟩ := eb
          obtain ⟨b, hb⟩ := hbpos (by omega)
          subst e2
          rw [hb] at e1
          subst e1
          obtain ⟨⟨cv, c1⟩, c2, -, -⟩ := rowE_cell HB.out.row (j := l) (by omega)
          have NX := hide' (phB_poke HB.out l (.int .u8 mk))
          clear HB hb hbpos
          go_wp2_with fail
          go_roundw
          case rel => exact ⟨l + 1, by omega, by go_num, NX⟩
          case measure => simp [intOf]; omega
        · obtain ⟨nm2, ba2, m2, bc2, -, k0, -, kf, -, -⟩ := filE_at HB.out.a.fil hlt
          have NX := hide' (phA_name HB.out.a hlt [109, 97, 114, 107])
          clear HB
          go_wp2_with fail
          go_roundw
          case rel => exact ⟨j + 1, by omega, by go_num, NX⟩
          case measure => simp [intOf]; omega
    · go_wp2_with fail
      go_loopw [15] (fun i wr => ∃ l : Nat, l ≤ nv ∧ i = .int .i64 l ∧ Hid (PhA X o g q [.slice a0 n0 c0, .slice a1 n1 c1, .slice a2 n2 c2, .slice a3 n3 c3, .slice a4 n4 c4, .int .i64 S0.room, .slice a6 n6 c6, .int .i64 S0.power, .int .i64 (S0.n : Int)] (.agg #[.slice a0 n0 c0, .slice a1 n1 c1, .slice a2 n2 c2, .slice a3 n3 c3, .slice a4 n4 c4, .int .i64 S0.room, .slice a6 n6 c6, .int .i64 S0.power, .int .i64 (S0.n : Int)]) S0 w1 (.slice ga nu gc) nu (.slice ya nv yc) nv wr)) (fun i _ => nv - (intOf i).toNat)
      case atStart => exact ⟨0, by omega, rfl, HP⟩
      case round =>
        obtain ⟨l, hl, rfl, HQ⟩ := hrel
        clear HP
        by_cases hlt2 : l < nv
        · obtain ⟨b, hb⟩ := hypos (by omega)
          subst hb
          obtain ⟨⟨cv, c1⟩, c2, -, -⟩ := rowE_cell HQ.out.zs (j := l) (by omega)
          have NX := hide' (phA_int HQ.out l (.int .i64 1))
          clear HQ
          go_wp2_with fail
          go_roundw
          case rel => exact ⟨l + 1, by omega, by go_num, NX⟩
          case measure => simp [intOf]; omega
        · have TW := hide' (twm_two HQ.out.tw)
          clear HQ hgpos hypos
          go_wp2_with fail
          clear hlt hlt2
          have C0 := hide' (cutC (.slice oa no oc) os wr (holdsO_mono HO.out (BW.out.trans (TW.out.liv.bel.mono BW.out.size))) (by have := bulk_len os; have := B3.out; omega))
          refine C0.out.mono ?_
          rintro e w5 ⟨u, rfl, hu, rfl⟩
          have hcut := hu w HO.out
          obtain ⟨ua, uc, huv, hpos⟩ := ho_slice hcut
          have CUT := hide' hcut
          have BT : Hid (bulkO (os.take 300) ≤ 1048576) := Nat.le_trans (bulk_take os 300) B3.out
          clear C0 hu hcut
          generalize os.take 300 = ot at CUT huv hpos BT
          subst huv
          obtain ⟨nt, hnt⟩ : ∃ n, n = ot.length := ⟨_, rfl⟩
          have NT := hide' hnt
          rw [← hnt] at hpos ⊢
          have lnt : nt ≤ 1048576 := by have := bulk_len ot; have := BT.out; omega
          have BDS : Hid (∀ j, Bd 3000000 (runD S0 (ot.take j))) := fun j => by
            rw [ES0.out]
            exact bd_mono (bd_run (ot.take j) (bd_new fs room fails power 1048576 (by have := bulkF_len fs; have := B1.out; omega) (fun f h => by have := bulkF_mem fs f h; have := B1.out; omega))) (by have := bulk_take ot j; have := BT.out; omega)
          have RUN : Hid (∀ j (h : j < ot.length), runD S0 (ot.take (j + 1)) = ((runD S0 (ot.take j)).step (dop ot[j])).1) := fun j h => run_snoc _ ot j h
          have FLS : Hid (∀ j, (runD S0 (ot.take j)).fails.length ≤ 1048576) := fun j => by
            rw [run_fails, ES0.out]; exact B2.out
          have SD : Hid (Sid g q S0 w1 w5) := ⟨o, ⟨a0, n0, c0⟩, ⟨a1, n1, c1⟩, ⟨a2, n2, c2⟩, ⟨a3, n3, c3⟩, ⟨a4, n4, c4⟩, ⟨a6, n6, c6⟩, TW.out⟩
          clear hnt TW
          go_wp2_with fail
          go_loopw [16] (fun i wr => ∃ j : Nat, j ≤ nt ∧ i = .int .i64 j ∧ Hid (Sid g q (runD S0 (ot.take j)) w1 wr)) (fun i _ => nt - (intOf i).toNat)
          case atStart => exact ⟨0, by omega, rfl, SD⟩
          case round =>
            obtain ⟨j, hj, rfl, HL⟩ := hrel
            by_cases hlt : j < nt
            · have hj' : j < ot.length := by rw [← NT.out]; exact hlt
              obtain ⟨b, off, rfl⟩ := hpos (by omega)
              obtain ⟨o, ⟨a0, n0, c0⟩, ⟨a1, n1, c1⟩, ⟨a2, n2, c2⟩, ⟨a3, n3, c3⟩, ⟨a4, n4, c4⟩, ⟨a6, n6, c6⟩, hT⟩ := HL.out
              dsimp only at hT
              have hbw : Below w.heap.size w wr := BW.out.trans (hT.liv.bel.mono BW.out.size)
              obtain ⟨da, dl, dc, ⟨q0, q1, q2, q3⟩, hdat⟩ := op_at CUT.out j hj'
              replace q0 := (hbw.cell (cell_lt q0)).trans q0
              replace q1 := (hbw.cell (cell_lt q1)).trans q1
              replace q2 := (hbw.cell (cell_lt q2)).trans q2
              replace q3 := (hbw.cell (cell_lt q3)).trans q3
              have hbo := bulk_mem ot _ (List.getElem_mem hj')
              have hbt := BT.out
              have BDj := hide' (BDS.out j)
              have BDk := hide' (BDS.out (j + 1))
              have FLj := hide' (FLS.out j)
              have WFj := hide' (dsk_wf hT.liv.dsk).1
              have HD := hide' hdat
              have LN : Hid ((ot[j]'hj').2.1.length ≤ 1048576 ∧ (ot[j]'hj').2.2.1.length ≤ 1048576 ∧ (ot[j]'hj').2.2.2.length ≤ 1048576) := ⟨by omega, by omega, by omega⟩
              have RN := hide' (RUN.out j hj')
              have TW := hide' hT
              have CS := hide' (opC (ot[j]'hj').1 ⟨(ot[j]'hj').2.1.toArray⟩ ⟨(ot[j]'hj').2.2.1.toArray⟩ da dl dc wr)
              obtain ⟨s', es'⟩ : ∃ s', s' = runD S0 (ot.take (j + 1)) := ⟨_, rfl⟩
              have ES := hide' es'
              rw [← es'] at BDk RN
              clear hdat hbo hbt hT hbw HL es'
              generalize ot[j]'hj' = op at q0 q1 q2 q3 HD LN RN CS
              generalize runD S0 (ot.take j) = s at TW BDj FLj WFj RN
              go_wp2_with fail
              refine CS.out.mono ?_
              rintro e w6 ⟨rfl, hb6⟩
              have TW6 := hide' (two_below TW.out hb6)
              have RG7 : Hid (Reg g q w6.heap.size [.slice a0 n0 c0, .slice a1 n1 c1, .slice a2 n2 c2, .slice a3 n3 c3, .slice a4 n4 c4, .int .i64 s.room, .slice a6 n6 c6, .int .i64 s.power, .int .i64 (s.n : Int)] [.int .i64 (meant op.1), .string ⟨op.2.1.toArray⟩, .string ⟨op.2.2.1.toArray⟩, .slice da dl dc] (.agg #[.slice a0 n0 c0, .slice a1 n1 c1, .slice a2 n2 c2, .slice a3 n3 c3, .slice a4 n4 c4, .int .i64 s.room, .slice a6 n6 c6, .int .i64 s.power, .int .i64 (s.n : Int)]) s s w1 (w6.alloc (.cells #[.int .i64 (meant op.1), .string ⟨op.2.1.toArray⟩, .string ⟨op.2.2.1.toArray⟩, .slice da dl dc] 46))) := ⟨o, two_below TW6.out (below_alloc' _ _), kp_new TW6.out.liv (by simpa using cells_lit w6 #[.int .i64 (meant op.1), .string ⟨op.2.1.toArray⟩, .string ⟨op.2.2.1.toArray⟩, .slice da dl dc] 46)⟩
              have HPQ : Hid (w6.heap.size ≠ q) := fun e => by have := TW6.out.kp.blk.2; omega
              clear CS q0 q1 q2 q3 TW TW6 hb6
              go_wp2_with fail
              generalize w6.alloc (.cells #[.int .i64 (meant op.1), .string ⟨op.2.1.toArray⟩, .string ⟨op.2.2.1.toArray⟩, .slice da dl dc] 46) = w7 at RG7 ⊢
              obtain ⟨p, hp⟩ : ∃ p, p = w6.heap.size := ⟨_, rfl⟩
              rw [← hp] at RG7 HPQ ⊢
              clear hp
              obtain ⟨o7, hT7, hK7⟩ := RG7.out
              have hbd : Below w.heap.size w w7 := BW.out.trans (hT7.liv.bel.mono BW.out.size)
              have CC := hide' (copyB (.slice da dl dc) op.2.2.2 w7 (holdsB_mono HD.out hbd) (by have := LN.out.2.2; omega))
              refine CC.out.mono ?_
              rintro e w8 ⟨uv, rfl, ho8⟩
              obtain ⟨Xo, hXo⟩ : ∃ X : Nat → Prop, X = fun k => w7.heap.size ≤ k ∧ k < w8.heap.size := ⟨_, rfl⟩
              have hPO : PhO Xo o7 g q p [.slice a0 n0 c0, .slice a1 n1 c1, .slice a2 n2 c2, .slice a3 n3 c3, .slice a4 n4 c4, .int .i64 s.room, .slice a6 n6 c6, .int .i64 s.power, .int .i64 (s.n : Int)] [.int .i64 (meant op.1), .string ⟨op.2.1.toArray⟩, .string ⟨op.2.2.1.toArray⟩, .slice da dl dc] (.agg #[.slice a0 n0 c0, .slice a1 n1 c1, .slice a2 n2 c2, .slice a3 n3 c3, .slice a4 n4 c4, .int .i64 s.room, .slice a6 n6 c6, .int .i64 s.power, .int .i64 (s.n : Int)]) s s w1 uv op.2.2.2.length w8 := by
                rw [hXo]
                exact ⟨two_new hT7 ho8.2, kp_below hK7 ho8.2, fun e => by have := hK7.blk.2; have := e.1; omega, rowE_of ho8.1 (fun b h1 h2 => ⟨h1, h2⟩)⟩
              have HO8 := hide' (holdsB_own ho8)
              obtain ⟨ua, uc, huv, hupos⟩ := rowE_form hPO.row
              obtain ⟨nl, hnl⟩ : ∃ n, n = op.2.2.2.length := ⟨_, rfl⟩
              have lnl : nl ≤ 1048576 := by have := LN.out.2.2; omega
              rw [← hnl] at huv hupos hPO
              subst huv
              have PO := hide' hPO
              clear hPO hXo CC ho8 hT7 hK7 hbd RG7 hnl
              obtain ⟨⟨l0, l1, l2, l3⟩, -⟩ := cells_4 PO.out.kp.blk
              by_cases hm2 : meant op.1 = 2
              · have d2 : (meant op.1 == 2) = true := by simpa using hm2
                have EA : (⟨2, (⟨op.2.1.toArray⟩ : ByteArray).data.toList, op.2.2.1, op.2.2.2⟩ : DOp) = dop op := by unfold dop; rw [hm2]
                have CA := hide' (appendC PO.out.tw.liv.dsk ⟨op.2.1.toArray⟩ op.2.2.1 (.slice ua nl uc) op.2.2.2 (by rw [size_l]; have := LN.out.1; omega) (bd_mono BDj.out (by omega)) HO8.out (by have := LN.out.2.2; omega) (fun ad n c e => by
                  simp only [Value.slice.injEq] at e
                  exact (PO.out.tw.off ad.block (PO.out.row.2 ad.block (by rw [e.1]; rfl))).1))
                rw [EA] at CA
                clear EA
                go_wp2_with fail
                refine CA.out.mono ?_
                rintro e w9 ⟨rfl, o9, hd9, hg9⟩
                have PO9 := hide' (phO_grow PO.out (liv_grow PO.out.tw.liv hd9 hg9) hg9)
                rw [← RN.out] at PO9
                generalize (s.step (dop op)).2 = er
                clear CA hd9 hg9 PO HO8 l0 l1 l2 l3 hm2 d2
                go_wp2_with fail
                go_loopw [19] (fun i wr => ∃ l : Nat, l ≤ nl ∧ i = .int .i64 l ∧ Hid (PhO Xo o9 g q p [.slice a0 n0 c0, .slice a1 n1 c1, .slice a2 n2 c2, .slice a3 n3 c3, .slice a4 n4 c4, .int .i64 s.room, .slice a6 n6 c6, .int .i64 s.power, .int .i64 (s.n : Int)] [.int .i64 (meant op.1), .string ⟨op.2.1.toArray⟩, .string ⟨op.2.2.1.toArray⟩, .slice da dl dc] (.agg #[.slice a0 n0 c0, .slice a1 n1 c1, .slice a2 n2 c2, .slice a3 n3 c3, .slice a4 n4 c4, .int .i64 s.room, .slice a6 n6 c6, .int .i64 s.power, .int .i64 (s.n : Int)]) s' s w1 (.slice ua nl uc) nl wr)) (fun i _ => nl - (intOf i).toNat)
                case atStart => exact ⟨0, by omega, rfl, PO9⟩
                case round =>
                  obtain ⟨l, hl, rfl, HQ⟩ := hrel
                  clear PO9
                  by_cases hlt2 : l < nl
                  · obtain ⟨b, hb⟩ := hupos (by omega)
                    subst hb
                    obtain ⟨⟨cv, c1⟩, c2, -, -⟩ := rowE_cell HQ.out.row (j := l) (by omega)
                    have NX := hide' (phO_poke HQ.out l (.int .u8 mk))
                    clear HQ
                    go_wp2_with fail
                    go_roundw
                    case rel => exact ⟨l + 1, by omega, by go_num, NX⟩
                    case measure => simp [intOf]; omega
                  clear hupos
                  have TW8 := hide' (twm_two HQ.out.tw)
                  have KP8 := hide' HQ.out.kp
                  clear HQ
                  obtain ⟨⟨l0, l1, l2, l3⟩, -⟩ := cells_4 KP8.out.blk
                  obtain ⟨k0, k1', k2, k3, k4, k5, k6, k7, k8⟩ := cells_9 TW8.out.kp.blk
                  go_wp2_with fail
                  clear k0 k1' k2 k3 k4 k5 k6 k7 k8 l0 l1 l2 l3
                  have CT := hide' (stepRC (S := NoB o9 q) (two_lt TW8.out) TW8.out.ref WFj.out (bd_mono BDj.out (by omega)) (meant op.1) (meant_in _) ⟨op.2.1.toArray⟩ ⟨op.2.2.1.toArray⟩ da dl dc op.2.2.2 (holdsB_mono HD.out (BW.out.trans (TW8.out.liv.bel.mono BW.out.size))) (by rw [size_l]; have := LN.out.1; omega) (by rw [size_l]; have := LN.out.2.1; omega) (by have := LN.out.2.2; omega) (by have := FLj.out; omega))
                  rw [step_dop, ← RN.out] at CT
                  refine CT.out.mono ?_
                  rintro e w9 ⟨v', rfl, hr9, hb9⟩
                  obtain ⟨⟨ra0, rn0, rc0⟩, ⟨ra1, rn1, rc1⟩, ⟨ra2, rn2, rc2⟩, ⟨ra3, rn3, rc3⟩, ⟨ra4, rn4, rc4⟩, ⟨ra6, rn6, rc6⟩, ev, -⟩ := id hr9
                  unfold stV at ev
                  dsimp only at ev
                  subst ev
                  have TW9 := hide' (two_below (two_ref TW8.out hb9 hr9) (below_alloc' w9 (.cells #[.slice ra0 rn0 rc0, .slice ra1 rn1 rc1, .slice ra2 rn2 rc2, .slice ra3 rn3 rc3, .slice ra4 rn4 rc4, .int .i64 s'.room, .slice ra6 rn6 rc6, .int .i64 s'.power, .int .i64 (s'.n : Int)] 38)))
                  have KP9 := hide' (kp_below (kp_below KP8.out hb9) (below_alloc' w9 (.cells #[.slice ra0 rn0 rc0, .slice ra1 rn1 rc1, .slice ra2 rn2 rc2, .slice ra3 rn3 rc3, .slice ra4 rn4 rc4, .int .i64 s'.room, .slice ra6 rn6 rc6, .int .i64 s'.power, .int .i64 (s'.n : Int)] 38)))
                  have TWX := two_put TW9.out (us := [.slice ra0 rn0 rc0, .slice ra1 rn1 rc1, .slice ra2 rn2 rc2, .slice ra3 rn3 rc3, .slice ra4 rn4 rc4, .int .i64 s'.room, .slice ra6 rn6 rc6, .int .i64 s'.power, .int .i64 (s'.n : Int)]) rfl
                  have KPX := kp_put KP9.out HPQ.out [.slice ra0 rn0 rc0, .slice ra1 rn1 rc1, .slice ra2 rn2 rc2, .slice ra3 rn3 rc3, .slice ra4 rn4 rc4, .int .i64 s'.room, .slice ra6 rn6 rc6, .int .i64 s'.power, .int .i64 (s'.n : Int)]
                  simp only [putFrom] at TWX KPX
                  obtain ⟨⟨c0', c1', c2', c3', c4', c5', c6', c7', c8'⟩, f0, f1, f2, f3, f4, f5, f6, f7, f8⟩ := cells_9a TW9.out.kp.blk
                  have RX : Hid (Reg g q p [.slice ra0 rn0 rc0, .slice ra1 rn1 rc1, .slice ra2 rn2 rc2, .slice ra3 rn3 rc3, .slice ra4 rn4 rc4, .int .i64 s'.room, .slice ra6 rn6 rc6, .int .i64 s'.power, .int .i64 (s'.n : Int)] [.int .i64 (meant op.1), .string ⟨op.2.1.toArray⟩, .string ⟨op.2.2.1.toArray⟩, .slice da dl dc] (.agg #[.slice ra0 rn0 rc0, .slice ra1 rn1 rc1, .slice ra2 rn2 rc2, .slice ra3 rn3 rc3, .slice ra4 rn4 rc4, .int .i64 s'.room, .slice ra6 rn6 rc6, .int .i64 s'.power, .int .i64 (s'.n : Int)]) s' s' w1 (((((((((((w9.alloc (.cells #[.slice ra0 rn0 rc0, .slice ra1 rn1 rc1, .slice ra2 rn2 rc2, .slice ra3 rn3 rc3, .slice ra4 rn4 rc4, .int .i64 s'.room, .slice ra6 rn6 rc6, .int .i64 s'.power, .int .i64 (s'.n : Int)] 38)).setCell ⟨q, 0, none⟩ (.slice ra0 rn0 rc0)).setCell ⟨q, 1, none⟩ (.slice ra1 rn1 rc1)).setCell ⟨q, 2, none⟩ (.slice ra2 rn2 rc2)).setCell ⟨q, 3, none⟩ (.slice ra3 rn3 rc3)).setCell ⟨q, 4, none⟩ (.slice ra4 rn4 rc4)).setCell ⟨q, 5, none⟩ (.int .i64 s'.room)).setCell ⟨q, 6, none⟩ (.slice ra6 rn6 rc6)).setCell ⟨q, 7, none⟩ (.int .i64 s'.power)).setCell ⟨q, 8, none⟩ (.int .i64 (s'.n : Int))))) := ⟨o9, TWX, KPX⟩
                  have hpq : p ≠ q := HPQ.out
                  have hqp : q ≠ p := fun e => HPQ.out e.symm
                  obtain ⟨⟨-, l1, -, -⟩, -⟩ := cells_4 KP9.out.blk
                  obtain ⟨⟨-, l1', -, -⟩, -⟩ := cells_4 KPX.blk
                  clear TW8 KP8 hb9 hr9 CT TW9 KP9 TWX KPX
                  go_wp2_with fail
                  clear c0' c1' c2' c3' c4' c5' c6' c7' c8' f0 f1 f2 f3 f4 f5 f6 f7 f8 l1 l1' hpq hqp
                  generalize ((((((((((w9.alloc (.cells #[.slice ra0 rn0 rc0, .slice ra1 rn1 rc1, .slice ra2 rn2 rc2, .slice ra3 rn3 rc3, .slice ra4 rn4 rc4, .int .i64 s'.room, .slice ra6 rn6 rc6, .int .i64 s'.power, .int .i64 (s'.n : Int)] 38)).setCell ⟨q, 0, none⟩ (.slice ra0 rn0 rc0)).setCell ⟨q, 1, none⟩ (.slice ra1 rn1 rc1)).setCell ⟨q, 2, none⟩ (.slice ra2 rn2 rc2)).setCell ⟨q, 3, none⟩ (.slice ra3 rn3 rc3)).setCell ⟨q, 4, none⟩ (.slice ra4 rn4 rc4)).setCell ⟨q, 5, none⟩ (.int .i64 s'.room)).setCell ⟨q, 6, none⟩ (.slice ra6 rn6 rc6)).setCell ⟨q, 7, none⟩ (.int .i64 s'.power)).setCell ⟨q, 8, none⟩ (.int .i64 (s'.n : Int))) = wA at RX ⊢
                  obtain ⟨oA, hTA, -⟩ := id RX.out
                  have SD : Hid (Std g q [.slice ra0 rn0 rc0, .slice ra1 rn1 rc1, .slice ra2 rn2 rc2, .slice ra3 rn3 rc3, .slice ra4 rn4 rc4, .int .i64 s'.room, .slice ra6 rn6 rc6, .int .i64 s'.power, .int .i64 (s'.n : Int)] (.agg #[.slice ra0 rn0 rc0, .slice ra1 rn1 rc1, .slice ra2 rn2 rc2, .slice ra3 rn3 rc3, .slice ra4 rn4 rc4, .int .i64 s'.room, .slice ra6 rn6 rc6, .int .i64 s'.power, .int .i64 (s'.n : Int)]) s' w1 wA) := ⟨oA, hTA⟩
                  have CR1 := hide' (readC hTA.liv.dsk ⟨op.2.1.toArray⟩ (by rw [size_l]; have := LN.out.1; omega) (bd_mono BDk.out (by omega)))
                  have LR := hide' (read_lenB BDk.out (⟨op.2.1.toArray⟩ : ByteArray).data.toList)
                  clear hTA RX
                  generalize s'.read (⟨op.2.1.toArray⟩ : ByteArray).data.toList = rd at CR1 LR
                  refine CR1.out.mono ?_
                  rintro e wT ⟨u3, rfl, ho3⟩
                  have hPC : PhC wA 5 u3 rd.1.length wT := ⟨ho3.2, rowE_of ho3.1 (fun b h _ => h)⟩
                  obtain ⟨ta, tc, hu3, htpos⟩ := rowE_form hPC.row
                  obtain ⟨nr, hnr⟩ : ∃ n, n = rd.1.length := ⟨_, rfl⟩
                  have lnr : nr ≤ 1000000000000000 := by have := LR.out; omega
                  rw [← hnr] at hu3 htpos hPC
                  subst hu3
                  have PC := hide' hPC
                  clear hPC ho3 CR1 LR hnr
                  generalize rd.2 = er2
                  go_wp2_with fail
                  go_loopw [24] (fun i wr => ∃ l : Nat, l ≤ nr ∧ i = .int .i64 l ∧ Hid (PhC wA 5 (.slice ta nr tc) nr wr)) (fun i _ => nr - (intOf i).toNat)
                  case atStart => exact ⟨0, by omega, rfl, PC⟩
                  case round =>
                    obtain ⟨l, hl, rfl, HQ⟩ := hrel
                    clear PC
                    by_cases hlt2 : l < nr
                    · obtain ⟨b, hb⟩ := htpos (by omega)
                      subst hb
                      obtain ⟨⟨cv, c1⟩, c2⟩ := phC_cell HQ.out hlt2
                      have NX := hide' (phC_poke HQ.out l (.int .u8 mk))
                      clear HQ
                      go_wp2_with fail
                      go_roundw
                      case rel => exact ⟨l + 1, by omega, by go_num, NX⟩
                      case measure => simp [intOf]; omega
                    clear htpos
                    obtain ⟨wB, rfl⟩ : ∃ x, x = wr := ⟨_, rfl⟩
                    have SD2 := hide' (sd_below SD.out HQ.out.bel)
                    clear HQ SD
                    obtain ⟨oB, hTB⟩ := id SD2.out
                    have CL := hide' (listC hTB.liv.dsk (bd_mono BDk.out (by omega)))
                    have LL := hide' (list_lenB BDk.out)
                    clear hTB
                    generalize s'.list = ls at CL LL
                    go_wp2_with fail
                    refine CL.out.mono ?_
                    rintro e wU ⟨u4, rfl, ho4⟩
                    have hPC : PhC wB 9 u4 ls.length wU := ⟨ho4.2, rowE_of ho4.1 (fun b h _ => h)⟩
                    obtain ⟨ta, tc, hu4, htpos⟩ := rowE_form hPC.row
                    obtain ⟨nr, hnr⟩ : ∃ n, n = ls.length := ⟨_, rfl⟩
                    have lnr : nr ≤ 1000000000000000 := by have := LL.out; omega
                    rw [← hnr] at hu4 htpos hPC
                    subst hu4
                    have PC := hide' hPC
                    clear hPC ho4 CL LL hnr
                    go_wp2_with fail
                    go_loopw [26] (fun i wr => ∃ l : Nat, l ≤ nr ∧ i = .int .i64 l ∧ Hid (PhC wB 9 (.slice ta nr tc) nr wr)) (fun i _ => nr - (intOf i).toNat)
                    case atStart => exact ⟨0, by omega, rfl, PC⟩
                    case round =>
                      obtain ⟨l, hl, rfl, HQ⟩ := hrel
                      clear PC
                      by_cases hlt2 : l < nr
                      · obtain ⟨b, hb⟩ := htpos (by omega)
                        subst hb
                        obtain ⟨⟨cv, c1⟩, c2⟩ := phC_cell HQ.out hlt2
                        have NX := hide' (phC_poke HQ.out l (.string ⟨#[109, 97, 114, 107]⟩))
                        clear HQ
                        go_wp2_with fail
                        go_roundw
                        case rel => exact ⟨l + 1, by omega, by go_num, NX⟩
                        case measure => simp [intOf]; omega
                      clear htpos
                      obtain ⟨wC, rfl⟩ : ∃ x, x = wr := ⟨_, rfl⟩
                      have SD3 := hide' (sd_below SD2.out HQ.out.bel)
                      clear HQ SD2
                      obtain ⟨oC, hTC⟩ := id SD3.out
                      have CL := hide' (leftO hTC.liv.dsk 0 (.slice none 0 0) [] ⟨none, 0, rfl, fun _ => rfl, Nat.le_refl _, fun h => absurd rfl h⟩ (by decide) (fun z h => by cases h) (bd_mono BDk.out (by omega)))
                      have LB := hide' (sd_bd SD3.out BDk.out 0 [])
                      clear hTC
                      generalize s'.left 0 [] = lf at CL LB
                      go_wp2_with fail
                      refine CL.out.mono ?_
                      rintro e wU ⟨u5, rfl, hfo, hb5⟩
                      have hFE := filE_of (P := fun k => wC.heap.size ≤ k) hfo (fun f h => by have := (LB.out.2 f h).2; omega) (fun b h _ => h)
                      obtain ⟨ta, tc, hu5, htpos⟩ := filE_form hFE
                      obtain ⟨nr, hnr⟩ : ∃ n, n = lf.length := ⟨_, rfl⟩
                      have lnr : nr ≤ 6000000 := by have := LB.out.1; omega
                      rw [← hnr] at hu5 htpos hFE
                      subst hu5
                      have PD : Hid (Below wC.heap.size wC wU ∧ FilE (fun k => wC.heap.size ≤ k) (.slice ta nr tc) nr wU) := ⟨hb5, hFE⟩
                      clear hFE hfo hb5 CL LB hnr
                      go_wp2_with fail
                      go_loopw [28] (fun i wr => ∃ l : Nat, l ≤ nr ∧ i = .int .i64 l ∧ Hid (Below wC.heap.size wC wr ∧ FilE (fun k => wC.heap.size ≤ k) (.slice ta nr tc) nr wr)) (fun i _ => nr - (intOf i).toNat)
                      case atStart => exact ⟨0, by omega, rfl, PD⟩
                      case round =>
                        obtain ⟨l, hl, rfl, HQ⟩ := hrel
                        clear PD
                        by_cases hlt2 : l < nr
                        · obtain ⟨gb, hgb⟩ := htpos (by omega)
                          subst hgb
                          obtain ⟨nm, ba, m, bc, hm, k0, k1, kf, hrow, -⟩ := filE_at HQ.out.2 hlt2
                          have PE : Hid (PhE wC gb tc nr l ba m bc wr) := ⟨⟨HQ.out.1, HQ.out.2⟩, k1, hrow⟩
                          clear k0 k1 kf hrow HQ nm
                          go_wp2_with fail
                          go_loopw [29] (fun i wr => ∃ l2 : Nat, l2 ≤ m ∧ i = .int .i64 l2 ∧ Hid (PhE wC gb tc nr l ba m bc wr)) (fun i _ => m - (intOf i).toNat)
                          case atStart => exact ⟨0, by omega, rfl, PE⟩
                          case round =>
                            obtain ⟨l2, hl2, rfl, HB⟩ := hrel
                            clear PE
                            have k1 := HB.out.cell
                            by_cases hlt3 : l2 < m
                            · obtain ⟨ba', bc', eb, hbpos⟩ := rowE_form HB.out.row
                              simp only [Value.slice.injEq, true_and] at eb
                              obtain ⟨e1, e2⟩ := eb
                              obtain ⟨b, hb⟩ := hbpos (by omega)
                              subst e2
                              rw [hb] at e1
                              subst e1
                              obtain ⟨⟨cv, c1⟩, c2, -, -⟩ := rowE_cell HB.out.row (j := l2) (by omega)
                              have NX := hide' (phE_poke HB.out l2 (.int .u8 mk))
                              clear HB hb hbpos
                              go_wp2_with fail
                              go_roundw
                              case rel => exact ⟨l2 + 1, by omega, by go_num, NX⟩
                              case measure => simp [intOf]; omega
                            · have NX : Hid (Below wC.heap.size wC _ ∧ FilE (fun k => wC.heap.size ≤ k) (.slice (some ⟨gb, 0, none⟩) nr tc) nr _) := ⟨HB.out.d.bel, HB.out.d.fil⟩
                              clear HB
                              go_wp2_with fail
                              go_roundw
                              case rel => exact ⟨l + 1, by omega, by go_num, NX⟩
                              case measure => simp [intOf]; omega
                        · have SD4 := hide' (sd_below SD3.out HQ.out.1)
                          clear HQ SD3 htpos
                          go_wp2_with fail
                          go_roundw
                          case rel =>
                            obtain ⟨oV, hTV⟩ := SD4.out
                            exact ⟨j + 1, by omega, by go_num, by rw [← ES.out]; exact ⟨oV, ⟨ra0, rn0, rc0⟩, ⟨ra1, rn1, rc1⟩, ⟨ra2, rn2, rc2⟩, ⟨ra3, rn3, rc3⟩, ⟨ra4, rn4, rc4⟩, ⟨ra6, rn6, rc6⟩, hTV⟩⟩
                          case measure => simp [intOf]; omega
              · have d2 : (meant op.1 == 2) = false := by simpa using hm2
                have CA := hide' (doMC PO.out.tw.liv op da dl dc (by have := LN.out.1; omega) (by have := LN.out.2.1; omega) (bd_mono BDj.out (by omega)) (holdsB_mono HD.out (BW.out.trans (PO.out.tw.liv.bel.mono BW.out.size))) (by have := LN.out.2.2; omega))
                go_wp2_with fail
                refine CA.out.mono ?_
                rintro e w9 ⟨rfl, o9, hl9, hg9⟩
                have PO9 := hide' (phO_grow PO.out hl9 hg9)
                rw [← RN.out] at PO9
                generalize (s.step (dop op)).2 = er
                clear CA hl9 hg9 PO HO8 l0 l1 l2 l3 hm2 d2
                go_wp2_with fail
                go_loopw [19] (fun i wr => ∃ l : Nat, l ≤ nl ∧ i = .int .i64 l ∧ Hid (PhO Xo o9 g q p [.slice a0 n0 c0, .slice a1 n1 c1, .slice a2 n2 c2, .slice a3 n3 c3, .slice a4 n4 c4, .int .i64 s.room, .slice a6 n6 c6, .int .i64 s.power, .int .i64 (s.n : Int)] [.int .i64 (meant op.1), .string ⟨op.2.1.toArray⟩, .string ⟨op.2.2.1.toArray⟩, .slice da dl dc] (.agg #[.slice a0 n0 c0, .slice a1 n1 c1, .slice a2 n2 c2, .slice a3 n3 c3, .slice a4 n4 c4, .int .i64 s.room, .slice a6 n6 c6, .int .i64 s.power, .int .i64 (s.n : Int)]) s' s w1 (.slice ua nl uc) nl wr)) (fun i _ => nl - (intOf i).toNat)
                case atStart => exact ⟨0, by omega, rfl, PO9⟩
                case round =>
                  obtain ⟨l, hl, rfl, HQ⟩ := hrel
                  clear PO9
                  by_cases hlt2 : l < nl
                  · obtain ⟨b, hb⟩ := hupos (by omega)
                    subst hb
                    obtain ⟨⟨cv, c1⟩, c2, -, -⟩ := rowE_cell HQ.out.row (j := l) (by omega)
                    have NX := hide' (phO_poke HQ.out l (.int .u8 mk))
                    clear HQ
                    go_wp2_with fail
                    go_roundw
                    case rel => exact ⟨l + 1, by omega, by go_num, NX⟩
                    case measure => simp [intOf]; omega
                  clear hupos
                  have TW8 := hide' (twm_two HQ.out.tw)
                  have KP8 := hide' HQ.out.kp
                  clear HQ
                  obtain ⟨⟨l0, l1, l2, l3⟩, -⟩ := cells_4 KP8.out.blk
                  obtain ⟨k0, k1', k2, k3, k4, k5, k6, k7, k8⟩ := cells_9 TW8.out.kp.blk
                  go_wp2_with fail
                  clear k0 k1' k2 k3 k4 k5 k6 k7 k8 l0 l1 l2 l3
                  have CT := hide' (stepRC (S := NoB o9 q) (two_lt TW8.out) TW8.out.ref WFj.out (bd_mono BDj.out (by omega)) (meant op.1) (meant_in _) ⟨op.2.1.toArray⟩ ⟨op.2.2.1.toArray⟩ da dl dc op.2.2.2 (holdsB_mono HD.out (BW.out.trans (TW8.out.liv.bel.mono BW.out.size))) (by rw [size_l]; have := LN.out.1; omega) (by rw [size_l]; have := LN.out.2.1; omega) (by have := LN.out.2.2; omega) (by have := FLj.out; omega))
                  rw [step_dop, ← RN.out] at CT
                  refine CT.out.mono ?_
                  rintro e w9 ⟨v', rfl, hr9, hb9⟩
                  obtain ⟨⟨ra0, rn0, rc0⟩, ⟨ra1, rn1, rc1⟩, ⟨ra2, rn2, rc2⟩, ⟨ra3, rn3, rc3⟩, ⟨ra4, rn4, rc4⟩, ⟨ra6, rn6, rc6⟩, ev, -⟩ := id hr9
                  unfold stV at ev
                  dsimp only at ev
                  subst ev
                  have TW9 := hide' (two_below (two_ref TW8.out hb9 hr9) (below_alloc' w9 (.cells #[.slice ra0 rn0 rc0, .slice ra1 rn1 rc1, .slice ra2 rn2 rc2, .slice ra3 rn3 rc3, .slice ra4 rn4 rc4, .int .i64 s'.room, .slice ra6 rn6 rc6, .int .i64 s'.power, .int .i64 (s'.n : Int)] 38)))
                  have KP9 := hide' (kp_below (kp_below KP8.out hb9) (below_alloc' w9 (.cells #[.slice ra0 rn0 rc0, .slice ra1 rn1 rc1, .slice ra2 rn2 rc2, .slice ra3 rn3 rc3, .slice ra4 rn4 rc4, .int .i64 s'.room, .slice ra6 rn6 rc6, .int .i64 s'.power, .int .i64 (s'.n : Int)] 38)))
                  have TWX := two_put TW9.out (us := [.slice ra0 rn0 rc0, .slice ra1 rn1 rc1, .slice ra2 rn2 rc2, .slice ra3 rn3 rc3, .slice ra4 rn4 rc4, .int .i64 s'.room, .slice ra6 rn6 rc6, .int .i64 s'.power, .int .i64 (s'.n : Int)]) rfl
                  have KPX := kp_put KP9.out HPQ.out [.slice ra0 rn0 rc0, .slice ra1 rn1 rc1, .slice ra2 rn2 rc2, .slice ra3 rn3 rc3, .slice ra4 rn4 rc4, .int .i64 s'.room, .slice ra6 rn6 rc6, .int .i64 s'.power, .int .i64 (s'.n : Int)]
                  simp only [putFrom] at TWX KPX
                  obtain ⟨⟨c0', c1', c2', c3', c4', c5', c6', c7', c8'⟩, f0, f1, f2, f3, f4, f5, f6, f7, f8⟩ := cells_9a TW9.out.kp.blk
                  have RX : Hid (Reg g q p [.slice ra0 rn0 rc0, .slice ra1 rn1 rc1, .slice ra2 rn2 rc2, .slice ra3 rn3 rc3, .slice ra4 rn4 rc4, .int .i64 s'.room, .slice ra6 rn6 rc6, .int .i64 s'.power, .int .i64 (s'.n : Int)] [.int .i64 (meant op.1), .string ⟨op.2.1.toArray⟩, .string ⟨op.2.2.1.toArray⟩, .slice da dl dc] (.agg #[.slice ra0 rn0 rc0, .slice ra1 rn1 rc1, .slice ra2 rn2 rc2, .slice ra3 rn3 rc3, .slice ra4 rn4 rc4, .int .i64 s'.room, .slice ra6 rn6 rc6, .int .i64 s'.power, .int .i64 (s'.n : Int)]) s' s' w1 (((((((((((w9.alloc (.cells #[.slice ra0 rn0 rc0, .slice ra1 rn1 rc1, .slice ra2 rn2 rc2, .slice ra3 rn3 rc3, .slice ra4 rn4 rc4, .int .i64 s'.room, .slice ra6 rn6 rc6, .int .i64 s'.power, .int .i64 (s'.n : Int)] 38)).setCell ⟨q, 0, none⟩ (.slice ra0 rn0 rc0)).setCell ⟨q, 1, none⟩ (.slice ra1 rn1 rc1)).setCell ⟨q, 2, none⟩ (.slice ra2 rn2 rc2)).setCell ⟨q, 3, none⟩ (.slice ra3 rn3 rc3)).setCell ⟨q, 4, none⟩ (.slice ra4 rn4 rc4)).setCell ⟨q, 5, none⟩ (.int .i64 s'.room)).setCell ⟨q, 6, none⟩ (.slice ra6 rn6 rc6)).setCell ⟨q, 7, none⟩ (.int .i64 s'.power)).setCell ⟨q, 8, none⟩ (.int .i64 (s'.n : Int))))) := ⟨o9, TWX, KPX⟩
                  have hpq : p ≠ q := HPQ.out
                  have hqp : q ≠ p := fun e => HPQ.out e.symm
                  obtain ⟨⟨-, l1, -, -⟩, -⟩ := cells_4 KP9.out.blk
                  obtain ⟨⟨-, l1', -, -⟩, -⟩ := cells_4 KPX.blk
                  clear TW8 KP8 hb9 hr9 CT TW9 KP9 TWX KPX
                  go_wp2_with fail
                  clear c0' c1' c2' c3' c4' c5' c6' c7' c8' f0 f1 f2 f3 f4 f5 f6 f7 f8 l1 l1' hpq hqp
                  generalize ((((((((((w9.alloc (.cells #[.slice ra0 rn0 rc0, .slice ra1 rn1 rc1, .slice ra2 rn2 rc2, .slice ra3 rn3 rc3, .slice ra4 rn4 rc4, .int .i64 s'.room, .slice ra6 rn6 rc6, .int .i64 s'.power, .int .i64 (s'.n : Int)] 38)).setCell ⟨q, 0, none⟩ (.slice ra0 rn0 rc0)).setCell ⟨q, 1, none⟩ (.slice ra1 rn1 rc1)).setCell ⟨q, 2, none⟩ (.slice ra2 rn2 rc2)).setCell ⟨q, 3, none⟩ (.slice ra3 rn3 rc3)).setCell ⟨q, 4, none⟩ (.slice ra4 rn4 rc4)).setCell ⟨q, 5, none⟩ (.int .i64 s'.room)).setCell ⟨q, 6, none⟩ (.slice ra6 rn6 rc6)).setCell ⟨q, 7, none⟩ (.int .i64 s'.power)).setCell ⟨q, 8, none⟩ (.int .i64 (s'.n : Int))) = wA at RX ⊢
                  obtain ⟨oA, hTA, -⟩ := id RX.out
                  have SD : Hid (Std g q [.slice ra0 rn0 rc0, .slice ra1 rn1 rc1, .slice ra2 rn2 rc2, .slice ra3 rn3 rc3, .slice ra4 rn4 rc4, .int .i64 s'.room, .slice ra6 rn6 rc6, .int .i64 s'.power, .int .i64 (s'.n : Int)] (.agg #[.slice ra0 rn0 rc0, .slice ra1 rn1 rc1, .slice ra2 rn2 rc2, .slice ra3 rn3 rc3, .slice ra4 rn4 rc4, .int .i64 s'.room, .slice ra6 rn6 rc6, .int .i64 s'.power, .int .i64 (s'.n : Int)]) s' w1 wA) := ⟨oA, hTA⟩
                  have CR1 := hide' (readC hTA.liv.dsk ⟨op.2.1.toArray⟩ (by rw [size_l]; have := LN.out.1; omega) (bd_mono BDk.out (by omega)))
                  have LR := hide' (read_lenB BDk.out (⟨op.2.1.toArray⟩ : ByteArray).data.toList)
                  clear hTA RX
                  generalize s'.read (⟨op.2.1.toArray⟩ : ByteArray).data.toList = rd at CR1 LR
                  refine CR1.out.mono ?_
                  rintro e wT ⟨u3, rfl, ho3⟩
                  have hPC : PhC wA 5 u3 rd.1.length wT := ⟨ho3.2, rowE_of ho3.1 (fun b h _ => h)⟩
                  obtain ⟨ta, tc, hu3, htpos⟩ := rowE_form hPC.row
                  obtain ⟨nr, hnr⟩ : ∃ n, n = rd.1.length := ⟨_, rfl⟩
                  have lnr : nr ≤ 1000000000000000 := by have := LR.out; omega
                  rw [← hnr] at hu3 htpos hPC
                  subst hu3
                  have PC := hide' hPC
                  clear hPC ho3 CR1 LR hnr
                  generalize rd.2 = er2
                  go_wp2_with fail
                  go_loopw [24] (fun i wr => ∃ l : Nat, l ≤ nr ∧ i = .int .i64 l ∧ Hid (PhC wA 5 (.slice ta nr tc) nr wr)) (fun i _ => nr - (intOf i).toNat)
                  case atStart => exact ⟨0, by omega, rfl, PC⟩
                  case round =>
                    obtain ⟨l, hl, rfl, HQ⟩ := hrel
                    clear PC
                    by_cases hlt2 : l < nr
                    · obtain ⟨b, hb⟩ := htpos (by omega)
                      subst hb
                      obtain ⟨⟨cv, c1⟩, c2⟩ := phC_cell HQ.out hlt2
                      have NX := hide' (phC_poke HQ.out l (.int .u8 mk))
                      clear HQ
                      go_wp2_with fail
                      go_roundw
                      case rel => exact ⟨l + 1, by omega, by go_num, NX⟩
                      case measure => simp [intOf]; omega
                    clear htpos
                    obtain ⟨wB, rfl⟩ : ∃ x, x = wr := ⟨_, rfl⟩
                    have SD2 := hide' (sd_below SD.out HQ.out.bel)
                    clear HQ SD
                    obtain ⟨oB, hTB⟩ := id SD2.out
                    have CL := hide' (listC hTB.liv.dsk (bd_mono BDk.out (by omega)))
                    have LL := hide' (list_lenB BDk.out)
                    clear hTB
                    generalize s'.list = ls at CL LL
                    go_wp2_with fail
                    refine CL.out.mono ?_
                    rintro e wU ⟨u4, rfl, ho4⟩
                    have hPC : PhC wB 9 u4 ls.length wU := ⟨ho4.2, rowE_of ho4.1 (fun b h _ => h)⟩
                    obtain ⟨ta, tc, hu4, htpos⟩ := rowE_form hPC.row
                    obtain ⟨nr, hnr⟩ : ∃ n, n = ls.length := ⟨_, rfl⟩
                    have lnr : nr ≤ 1000000000000000 := by have := LL.out; omega
                    rw [← hnr] at hu4 htpos hPC
                    subst hu4
                    have PC := hide' hPC
                    clear hPC ho4 CL LL hnr
                    go_wp2_with fail
                    go_loopw [26] (fun i wr => ∃ l : Nat, l ≤ nr ∧ i = .int .i64 l ∧ Hid (PhC wB 9 (.slice ta nr tc) nr wr)) (fun i _ => nr - (intOf i).toNat)
                    case atStart => exact ⟨0, by omega, rfl, PC⟩
                    case round =>
                      obtain ⟨l, hl, rfl, HQ⟩ := hrel
                      clear PC
                      by_cases hlt2 : l < nr
                      · obtain ⟨b, hb⟩ := htpos (by omega)
                        subst hb
                        obtain ⟨⟨cv, c1⟩, c2⟩ := phC_cell HQ.out hlt2
                        have NX := hide' (phC_poke HQ.out l (.string ⟨#[109, 97, 114, 107]⟩))
                        clear HQ
                        go_wp2_with fail
                        go_roundw
                        case rel => exact ⟨l + 1, by omega, by go_num, NX⟩
                        case measure => simp [intOf]; omega
                      clear htpos
                      obtain ⟨wC, rfl⟩ : ∃ x, x = wr := ⟨_, rfl⟩
                      have SD3 := hide' (sd_below SD2.out HQ.out.bel)
                      clear HQ SD2
                      obtain ⟨oC, hTC⟩ := id SD3.out
                      have CL := hide' (leftO hTC.liv.dsk 0 (.slice none 0 0) [] ⟨none, 0, rfl, fun _ => rfl, Nat.le_refl _, fun h => absurd rfl h⟩ (by decide) (fun z h => by cases h) (bd_mono BDk.out (by omega)))
                      have LB := hide' (sd_bd SD3.out BDk.out 0 [])
                      clear hTC
                      generalize s'.left 0 [] = lf at CL LB
                      go_wp2_with fail
                      refine CL.out.mono ?_
                      rintro e wU ⟨u5, rfl, hfo, hb5⟩
                      have hFE := filE_of (P := fun k => wC.heap.size ≤ k) hfo (fun f h => by have := (LB.out.2 f h).2; omega) (fun b h _ => h)
                      obtain ⟨ta, tc, hu5, htpos⟩ := filE_form hFE
                      obtain ⟨nr, hnr⟩ : ∃ n, n = lf.length := ⟨_, rfl⟩
                      have lnr : nr ≤ 6000000 := by have := LB.out.1; omega
                      rw [← hnr] at hu5 htpos hFE
                      subst hu5
                      have PD : Hid (Below wC.heap.size wC wU ∧ FilE (fun k => wC.heap.size ≤ k) (.slice ta nr tc) nr wU) := ⟨hb5, hFE⟩
                      clear hFE hfo hb5 CL LB hnr
                      go_wp2_with fail
                      go_loopw [28] (fun i wr => ∃ l : Nat, l ≤ nr ∧ i = .int .i64 l ∧ Hid (Below wC.heap.size wC wr ∧ FilE (fun k => wC.heap.size ≤ k) (.slice ta nr tc) nr wr)) (fun i _ => nr - (intOf i).toNat)
                      case atStart => exact ⟨0, by omega, rfl, PD⟩
                      case round =>
                        obtain ⟨l, hl, rfl, HQ⟩ := hrel
                        clear PD
                        by_cases hlt2 : l < nr
                        · obtain ⟨gb, hgb⟩ := htpos (by omega)
                          subst hgb
                          obtain ⟨nm, ba, m, bc, hm, k0, k1, kf, hrow, -⟩ := filE_at HQ.out.2 hlt2
                          have PE : Hid (PhE wC gb tc nr l ba m bc wr) := ⟨⟨HQ.out.1, HQ.out.2⟩, k1, hrow⟩
                          clear k0 k1 kf hrow HQ nm
                          go_wp2_with fail
                          go_loopw [29] (fun i wr => ∃ l2 : Nat, l2 ≤ m ∧ i = .int .i64 l2 ∧ Hid (PhE wC gb tc nr l ba m bc wr)) (fun i _ => m - (intOf i).toNat)
                          case atStart => exact ⟨0, by omega, rfl, PE⟩
                          case round =>
                            obtain ⟨l2, hl2, rfl, HB⟩ := hrel
                            clear PE
                            have k1 := HB.out.cell
                            by_cases hlt3 : l2 < m
                            · obtain ⟨ba', bc', eb, hbpos⟩ := rowE_form HB.out.row
                              simp only [Value.slice.injEq, true_and] at eb
                              obtain ⟨e1, e2⟩ := eb
                              obtain ⟨b, hb⟩ := hbpos (by omega)
                              subst e2
                              rw [hb] at e1
                              subst e1
                              obtain ⟨⟨cv, c1⟩, c2, -, -⟩ := rowE_cell HB.out.row (j := l2) (by omega)
                              have NX := hide' (phE_poke HB.out l2 (.int .u8 mk))
                              clear HB hb hbpos
                              go_wp2_with fail
                              go_roundw
                              case rel => exact ⟨l2 + 1, by omega, by go_num, NX⟩
                              case measure => simp [intOf]; omega
                            · have NX : Hid (Below wC.heap.size wC _ ∧ FilE (fun k => wC.heap.size ≤ k) (.slice (some ⟨gb, 0, none⟩) nr tc) nr _) := ⟨HB.out.d.bel, HB.out.d.fil⟩
                              clear HB
                              go_wp2_with fail
                              go_roundw
                              case rel => exact ⟨l + 1, by omega, by go_num, NX⟩
                              case measure => simp [intOf]; omega
                        · have SD4 := hide' (sd_below SD3.out HQ.out.1)
                          clear HQ SD3 htpos
                          go_wp2_with fail
                          go_roundw
                          case rel =>
                            obtain ⟨oV, hTV⟩ := SD4.out
                            exact ⟨j + 1, by omega, by go_num, by rw [← ES.out]; exact ⟨oV, ⟨ra0, rn0, rc0⟩, ⟨ra1, rn1, rc1⟩, ⟨ra2, rn2, rc2⟩, ⟨ra3, rn3, rc3⟩, ⟨ra4, rn4, rc4⟩, ⟨ra6, rn6, rc6⟩, hTV⟩⟩
                          case measure => simp [intOf]; omega
            · obtain ⟨o, ⟨ra0, rn0, rc0⟩, ⟨ra1, rn1, rc1⟩, ⟨ra2, rn2, rc2⟩, ⟨ra3, rn3, rc3⟩, ⟨ra4, rn4, rc4⟩, ⟨ra6, rn6, rc6⟩, hT⟩ := HL.out
              dsimp only at hT
              have BDk := hide' (BDS.out j)
              generalize runD S0 (ot.take j) = s' at hT BDk
              have RX : Hid (Std g q [.slice ra0 rn0 rc0, .slice ra1 rn1 rc1, .slice ra2 rn2 rc2, .slice ra3 rn3 rc3, .slice ra4 rn4 rc4, .int .i64 s'.room, .slice ra6 rn6 rc6, .int .i64 s'.power, .int .i64 (s'.n : Int)] (.agg #[.slice ra0 rn0 rc0, .slice ra1 rn1 rc1, .slice ra2 rn2 rc2, .slice ra3 rn3 rc3, .slice ra4 rn4 rc4, .int .i64 s'.room, .slice ra6 rn6 rc6, .int .i64 s'.power, .int .i64 (s'.n : Int)]) s' w1 wr) := ⟨o, hT⟩
              clear hT HL
              have CEL : Hid (∀ Wx, Std g q [.slice ra0 rn0 rc0, .slice ra1 rn1 rc1, .slice ra2 rn2 rc2, .slice ra3 rn3 rc3, .slice ra4 rn4 rc4, .int .i64 s'.room, .slice ra6 rn6 rc6, .int .i64 s'.power, .int .i64 (s'.n : Int)] (.agg #[.slice ra0 rn0 rc0, .slice ra1 rn1 rc1, .slice ra2 rn2 rc2, .slice ra3 rn3 rc3, .slice ra4 rn4 rc4, .int .i64 s'.room, .slice ra6 rn6 rc6, .int .i64 s'.power, .int .i64 (s'.n : Int)]) s' w1 Wx → Wx.cell? ⟨q, 0, none⟩ = some (.slice ra0 rn0 rc0) ∧ Wx.cell? ⟨q, 1, none⟩ = some (.slice ra1 rn1 rc1) ∧ Wx.cell? ⟨q, 2, none⟩ = some (.slice ra2 rn2 rc2) ∧ Wx.cell? ⟨q, 3, none⟩ = some (.slice ra3 rn3 rc3) ∧ Wx.cell? ⟨q, 4, none⟩ = some (.slice ra4 rn4 rc4) ∧ Wx.cell? ⟨q, 5, none⟩ = some (.int .i64 s'.room) ∧ Wx.cell? ⟨q, 6, none⟩ = some (.slice ra6 rn6 rc6) ∧ Wx.cell? ⟨q, 7, none⟩ = some (.int .i64 s'.power) ∧ Wx.cell? ⟨q, 8, none⟩ = some (.int .i64 (s'.n : Int))) := fun Wx h => sd_cells h
              have CL0 : Hid (∀ Wx, Hid (Std g q [.slice ra0 rn0 rc0, .slice ra1 rn1 rc1, .slice ra2 rn2 rc2, .slice ra3 rn3 rc3, .slice ra4 rn4 rc4, .int .i64 s'.room, .slice ra6 rn6 rc6, .int .i64 s'.power, .int .i64 (s'.n : Int)] (.agg #[.slice ra0 rn0 rc0, .slice ra1 rn1 rc1, .slice ra2 rn2 rc2, .slice ra3 rn3 rc3, .slice ra4 rn4 rc4, .int .i64 s'.room, .slice ra6 rn6 rc6, .int .i64 s'.power, .int .i64 (s'.n : Int)]) s' w1 Wx) → Calls Try.prog 17 #[.pointer (some ⟨g, 0, none⟩), .agg #[.int .i64 1073741824, .slice none 0 0]] Wx fun e w' => ∃ u, e = .returned u ∧ Hid (HoldsFi w' u (s'.left 1073741824 [])) ∧ Hid (Std g q [.slice ra0 rn0 rc0, .slice ra1 rn1 rc1, .slice ra2 rn2 rc2, .slice ra3 rn3 rc3, .slice ra4 rn4 rc4, .int .i64 s'.room, .slice ra6 rn6 rc6, .int .i64 s'.power, .int .i64 (s'.n : Int)] (.agg #[.slice ra0 rn0 rc0, .slice ra1 rn1 rc1, .slice ra2 rn2 rc2, .slice ra3 rn3 rc3, .slice ra4 rn4 rc4, .int .i64 s'.room, .slice ra6 rn6 rc6, .int .i64 s'.power, .int .i64 (s'.n : Int)]) s' w1 w') ∧ w'.cell? ⟨q, 0, none⟩ = some (.slice ra0 rn0 rc0) ∧ w'.cell? ⟨q, 1, none⟩ = some (.slice ra1 rn1 rc1) ∧ w'.cell? ⟨q, 2, none⟩ = some (.slice ra2 rn2 rc2) ∧ w'.cell? ⟨q, 3, none⟩ = some (.slice ra3 rn3 rc3) ∧ w'.cell? ⟨q, 4, none⟩ = some (.slice ra4 rn4 rc4) ∧ w'.cell? ⟨q, 5, none⟩ = some (.int .i64 s'.room) ∧ w'.cell? ⟨q, 6, none⟩ = some (.slice ra6 rn6 rc6) ∧ w'.cell? ⟨q, 7, none⟩ = some (.int .i64 s'.power) ∧ w'.cell? ⟨q, 8, none⟩ = some (.int .i64 (s'.n : Int))) := fun Wx h => by
                refine (sd_left h.out 1073741824 _ [] ⟨none, 0, rfl, fun _ => rfl, Nat.le_refl _, fun h => absurd rfl h⟩ (by decide) (fun z h => by cases h) BDk.out).mono ?_
                rintro e w' ⟨u, rfl, hu, hr⟩
                exact ⟨u, rfl, hu, hr, CEL.out w' hr⟩
              have CM0 : Hid (∀ Wx, Hid (Std g q [.slice ra0 rn0 rc0, .slice ra1 rn1 rc1, .slice ra2 rn2 rc2, .slice ra3 rn3 rc3, .slice ra4 rn4 rc4, .int .i64 s'.room, .slice ra6 rn6 rc6, .int .i64 s'.power, .int .i64 (s'.n : Int)] (.agg #[.slice ra0 rn0 rc0, .slice ra1 rn1 rc1, .slice ra2 rn2 rc2, .slice ra3 rn3 rc3, .slice ra4 rn4 rc4, .int .i64 s'.room, .slice ra6 rn6 rc6, .int .i64 s'.power, .int .i64 (s'.n : Int)]) s' w1 Wx) → Calls Try.prog 19 #[.agg #[.slice ra0 rn0 rc0, .slice ra1 rn1 rc1, .slice ra2 rn2 rc2, .slice ra3 rn3 rc3, .slice ra4 rn4 rc4, .int .i64 s'.room, .slice ra6 rn6 rc6, .int .i64 s'.power, .int .i64 (s'.n : Int)], .agg #[.int .i64 1073741824, .slice none 0 0]] Wx fun e w' => ∃ u, e = .returned u ∧ Hid (HoldsFi w' u (s'.left 1073741824 []) ∧ Below Wx.heap.size Wx w') ∧ Hid (Std g q [.slice ra0 rn0 rc0, .slice ra1 rn1 rc1, .slice ra2 rn2 rc2, .slice ra3 rn3 rc3, .slice ra4 rn4 rc4, .int .i64 s'.room, .slice ra6 rn6 rc6, .int .i64 s'.power, .int .i64 (s'.n : Int)] (.agg #[.slice ra0 rn0 rc0, .slice ra1 rn1 rc1, .slice ra2 rn2 rc2, .slice ra3 rn3 rc3, .slice ra4 rn4 rc4, .int .i64 s'.room, .slice ra6 rn6 rc6, .int .i64 s'.power, .int .i64 (s'.n : Int)]) s' w1 w') ∧ w'.cell? ⟨q, 0, none⟩ = some (.slice ra0 rn0 rc0) ∧ w'.cell? ⟨q, 1, none⟩ = some (.slice ra1 rn1 rc1) ∧ w'.cell? ⟨q, 2, none⟩ = some (.slice ra2 rn2 rc2) ∧ w'.cell? ⟨q, 3, none⟩ = some (.slice ra3 rn3 rc3) ∧ w'.cell? ⟨q, 4, none⟩ = some (.slice ra4 rn4 rc4) ∧ w'.cell? ⟨q, 5, none⟩ = some (.int .i64 s'.room) ∧ w'.cell? ⟨q, 6, none⟩ = some (.slice ra6 rn6 rc6) ∧ w'.cell? ⟨q, 7, none⟩ = some (.int .i64 s'.power) ∧ w'.cell? ⟨q, 8, none⟩ = some (.int .i64 (s'.n : Int))) := fun Wx h => by
                refine (sd_leftR h.out 1073741824 _ [] ⟨none, 0, rfl, fun _ => rfl, Nat.le_refl _, fun h => absurd rfl h⟩ (by decide) (fun z h => by cases h) BDk.out).mono ?_
                rintro e w' ⟨u, rfl, hu, hr⟩
                exact ⟨u, rfl, hu, hr, CEL.out w' hr⟩
              have CQ0 : Hid (∀ Wx a b, HoldsFi Wx a (s'.left 1073741824 []) → HoldsFi Wx b (s'.left 1073741824 []) → Hid (Std g q [.slice ra0 rn0 rc0, .slice ra1 rn1 rc1, .slice ra2 rn2 rc2, .slice ra3 rn3 rc3, .slice ra4 rn4 rc4, .int .i64 s'.room, .slice ra6 rn6 rc6, .int .i64 s'.power, .int .i64 (s'.n : Int)] (.agg #[.slice ra0 rn0 rc0, .slice ra1 rn1 rc1, .slice ra2 rn2 rc2, .slice ra3 rn3 rc3, .slice ra4 rn4 rc4, .int .i64 s'.room, .slice ra6 rn6 rc6, .int .i64 s'.power, .int .i64 (s'.n : Int)]) s' w1 Wx) → Calls Try.prog 18 #[a, b] Wx fun e w' => e = .returned (.bool true) ∧ Hid (Std g q [.slice ra0 rn0 rc0, .slice ra1 rn1 rc1, .slice ra2 rn2 rc2, .slice ra3 rn3 rc3, .slice ra4 rn4 rc4, .int .i64 s'.room, .slice ra6 rn6 rc6, .int .i64 s'.power, .int .i64 (s'.n : Int)] (.agg #[.slice ra0 rn0 rc0, .slice ra1 rn1 rc1, .slice ra2 rn2 rc2, .slice ra3 rn3 rc3, .slice ra4 rn4 rc4, .int .i64 s'.room, .slice ra6 rn6 rc6, .int .i64 s'.power, .int .i64 (s'.n : Int)]) s' w1 w') ∧ w'.cell? ⟨q, 0, none⟩ = some (.slice ra0 rn0 rc0) ∧ w'.cell? ⟨q, 1, none⟩ = some (.slice ra1 rn1 rc1) ∧ w'.cell? ⟨q, 2, none⟩ = some (.slice ra2 rn2 rc2) ∧ w'.cell? ⟨q, 3, none⟩ = some (.slice ra3 rn3 rc3) ∧ w'.cell? ⟨q, 4, none⟩ = some (.slice ra4 rn4 rc4) ∧ w'.cell? ⟨q, 5, none⟩ = some (.int .i64 s'.room) ∧ w'.cell? ⟨q, 6, none⟩ = some (.slice ra6 rn6 rc6) ∧ w'.cell? ⟨q, 7, none⟩ = some (.int .i64 s'.power) ∧ w'.cell? ⟨q, 8, none⟩ = some (.int .i64 (s'.n : Int))) := fun Wx a b ha hb h => by
                refine (sd_sameF h.out BDk.out 1073741824 [] a b ha hb).mono ?_
                rintro e w' ⟨rfl, hr⟩
                exact ⟨rfl, hr, CEL.out w' hr⟩
              have CL9 : Hid (∀ Wx, Hid (Std g q [.slice ra0 rn0 rc0, .slice ra1 rn1 rc1, .slice ra2 rn2 rc2, .slice ra3 rn3 rc3, .slice ra4 rn4 rc4, .int .i64 s'.room, .slice ra6 rn6 rc6, .int .i64 s'.power, .int .i64 (s'.n : Int)] (.agg #[.slice ra0 rn0 rc0, .slice ra1 rn1 rc1, .slice ra2 rn2 rc2, .slice ra3 rn3 rc3, .slice ra4 rn4 rc4, .int .i64 s'.room, .slice ra6 rn6 rc6, .int .i64 s'.power, .int .i64 (s'.n : Int)]) s' w1 Wx) → Calls Try.prog 16 #[.pointer (some ⟨g, 0, none⟩)] Wx fun e w' => ∃ u, e = .returned u ∧ Hid (Holds w' u s'.list) ∧ Hid (Std g q [.slice ra0 rn0 rc0, .slice ra1 rn1 rc1, .slice ra2 rn2 rc2, .slice ra3 rn3 rc3, .slice ra4 rn4 rc4, .int .i64 s'.room, .slice ra6 rn6 rc6, .int .i64 s'.power, .int .i64 (s'.n : Int)] (.agg #[.slice ra0 rn0 rc0, .slice ra1 rn1 rc1, .slice ra2 rn2 rc2, .slice ra3 rn3 rc3, .slice ra4 rn4 rc4, .int .i64 s'.room, .slice ra6 rn6 rc6, .int .i64 s'.power, .int .i64 (s'.n : Int)]) s' w1 w') ∧ w'.cell? ⟨q, 0, none⟩ = some (.slice ra0 rn0 rc0) ∧ w'.cell? ⟨q, 1, none⟩ = some (.slice ra1 rn1 rc1) ∧ w'.cell? ⟨q, 2, none⟩ = some (.slice ra2 rn2 rc2) ∧ w'.cell? ⟨q, 3, none⟩ = some (.slice ra3 rn3 rc3) ∧ w'.cell? ⟨q, 4, none⟩ = some (.slice ra4 rn4 rc4) ∧ w'.cell? ⟨q, 5, none⟩ = some (.int .i64 s'.room) ∧ w'.cell? ⟨q, 6, none⟩ = some (.slice ra6 rn6 rc6) ∧ w'.cell? ⟨q, 7, none⟩ = some (.int .i64 s'.power) ∧ w'.cell? ⟨q, 8, none⟩ = some (.int .i64 (s'.n : Int))) := fun Wx h => by
                refine (sd_list h.out BDk.out).mono ?_
                rintro e w' ⟨u, rfl, hu, hr⟩
                exact ⟨u, rfl, hu, hr, CEL.out w' hr⟩
              have CM9 : Hid (∀ Wx, Hid (Std g q [.slice ra0 rn0 rc0, .slice ra1 rn1 rc1, .slice ra2 rn2 rc2, .slice ra3 rn3 rc3, .slice ra4 rn4 rc4, .int .i64 s'.room, .slice ra6 rn6 rc6, .int .i64 s'.power, .int .i64 (s'.n : Int)] (.agg #[.slice ra0 rn0 rc0, .slice ra1 rn1 rc1, .slice ra2 rn2 rc2, .slice ra3 rn3 rc3, .slice ra4 rn4 rc4, .int .i64 s'.room, .slice ra6 rn6 rc6, .int .i64 s'.power, .int .i64 (s'.n : Int)]) s' w1 Wx) → Calls Try.prog 21 #[.agg #[.slice ra0 rn0 rc0, .slice ra1 rn1 rc1, .slice ra2 rn2 rc2, .slice ra3 rn3 rc3, .slice ra4 rn4 rc4, .int .i64 s'.room, .slice ra6 rn6 rc6, .int .i64 s'.power, .int .i64 (s'.n : Int)]] Wx fun e w' => ∃ u, e = .returned u ∧ Hid (Holds w' u s'.list ∧ Below Wx.heap.size Wx w') ∧ Hid (Std g q [.slice ra0 rn0 rc0, .slice ra1 rn1 rc1, .slice ra2 rn2 rc2, .slice ra3 rn3 rc3, .slice ra4 rn4 rc4, .int .i64 s'.room, .slice ra6 rn6 rc6, .int .i64 s'.power, .int .i64 (s'.n : Int)] (.agg #[.slice ra0 rn0 rc0, .slice ra1 rn1 rc1, .slice ra2 rn2 rc2, .slice ra3 rn3 rc3, .slice ra4 rn4 rc4, .int .i64 s'.room, .slice ra6 rn6 rc6, .int .i64 s'.power, .int .i64 (s'.n : Int)]) s' w1 w') ∧ w'.cell? ⟨q, 0, none⟩ = some (.slice ra0 rn0 rc0) ∧ w'.cell? ⟨q, 1, none⟩ = some (.slice ra1 rn1 rc1) ∧ w'.cell? ⟨q, 2, none⟩ = some (.slice ra2 rn2 rc2) ∧ w'.cell? ⟨q, 3, none⟩ = some (.slice ra3 rn3 rc3) ∧ w'.cell? ⟨q, 4, none⟩ = some (.slice ra4 rn4 rc4) ∧ w'.cell? ⟨q, 5, none⟩ = some (.int .i64 s'.room) ∧ w'.cell? ⟨q, 6, none⟩ = some (.slice ra6 rn6 rc6) ∧ w'.cell? ⟨q, 7, none⟩ = some (.int .i64 s'.power) ∧ w'.cell? ⟨q, 8, none⟩ = some (.int .i64 (s'.n : Int))) := fun Wx h => by
                refine (sd_listR h.out BDk.out).mono ?_
                rintro e w' ⟨u, rfl, hu, hr⟩
                exact ⟨u, rfl, hu, hr, CEL.out w' hr⟩
              have CQ9 : Hid (∀ Wx a b, Holds Wx a s'.list → Holds Wx b s'.list → Hid (Std g q [.slice ra0 rn0 rc0, .slice ra1 rn1 rc1, .slice ra2 rn2 rc2, .slice ra3 rn3 rc3, .slice ra4 rn4 rc4, .int .i64 s'.room, .slice ra6 rn6 rc6, .int .i64 s'.power, .int .i64 (s'.n : Int)] (.agg #[.slice ra0 rn0 rc0, .slice ra1 rn1 rc1, .slice ra2 rn2 rc2, .slice ra3 rn3 rc3, .slice ra4 rn4 rc4, .int .i64 s'.room, .slice ra6 rn6 rc6, .int .i64 s'.power, .int .i64 (s'.n : Int)]) s' w1 Wx) → Calls Try.prog 20 #[a, b] Wx fun e w' => e = .returned (.bool true) ∧ Hid (Std g q [.slice ra0 rn0 rc0, .slice ra1 rn1 rc1, .slice ra2 rn2 rc2, .slice ra3 rn3 rc3, .slice ra4 rn4 rc4, .int .i64 s'.room, .slice ra6 rn6 rc6, .int .i64 s'.power, .int .i64 (s'.n : Int)] (.agg #[.slice ra0 rn0 rc0, .slice ra1 rn1 rc1, .slice ra2 rn2 rc2, .slice ra3 rn3 rc3, .slice ra4 rn4 rc4, .int .i64 s'.room, .slice ra6 rn6 rc6, .int .i64 s'.power, .int .i64 (s'.n : Int)]) s' w1 w') ∧ w'.cell? ⟨q, 0, none⟩ = some (.slice ra0 rn0 rc0) ∧ w'.cell? ⟨q, 1, none⟩ = some (.slice ra1 rn1 rc1) ∧ w'.cell? ⟨q, 2, none⟩ = some (.slice ra2 rn2 rc2) ∧ w'.cell? ⟨q, 3, none⟩ = some (.slice ra3 rn3 rc3) ∧ w'.cell? ⟨q, 4, none⟩ = some (.slice ra4 rn4 rc4) ∧ w'.cell? ⟨q, 5, none⟩ = some (.int .i64 s'.room) ∧ w'.cell? ⟨q, 6, none⟩ = some (.slice ra6 rn6 rc6) ∧ w'.cell? ⟨q, 7, none⟩ = some (.int .i64 s'.power) ∧ w'.cell? ⟨q, 8, none⟩ = some (.int .i64 (s'.n : Int))) := fun Wx a b ha hb h => by
                refine (sd_sameT h.out BDk.out a b ha hb).mono ?_
                rintro e w' ⟨rfl, hr⟩
                exact ⟨rfl, hr, CEL.out w' hr⟩
              obtain ⟨kq0, kq1, kq2, kq3, kq4, kq5, kq6, kq7, kq8⟩ := CEL.out _ RX.out
              go_wp2_with fail
              go_region_held3 (fun w' => w'.cell? ⟨q, 0, none⟩ = some (.slice ra0 rn0 rc0) ∧ w'.cell? ⟨q, 1, none⟩ = some (.slice ra1 rn1 rc1) ∧ w'.cell? ⟨q, 2, none⟩ = some (.slice ra2 rn2 rc2) ∧ w'.cell? ⟨q, 3, none⟩ = some (.slice ra3 rn3 rc3) ∧ w'.cell? ⟨q, 4, none⟩ = some (.slice ra4 rn4 rc4) ∧ w'.cell? ⟨q, 5, none⟩ = some (.int .i64 s'.room) ∧ w'.cell? ⟨q, 6, none⟩ = some (.slice ra6 rn6 rc6) ∧ w'.cell? ⟨q, 7, none⟩ = some (.int .i64 s'.power) ∧ w'.cell? ⟨q, 8, none⟩ = some (.int .i64 (s'.n : Int))) (go_keep)
                (first
                  | (go_at_call 17; refine (CL0.out _ ?_).mono ?_; (first | exact RX | exact hide' (sd_below RX.out (Below.refl _ _).drew)); rintro e wF ⟨u3, rfl, HU3, HC5, ⟨kq0, kq1, kq2, kq3, kq4, kq5, kq6, kq7, kq8⟩⟩)
                  | (go_at_call 19; refine (CM0.out _ HC5).mono ?_; rintro e wG ⟨u4, rfl, HU4, HC6, ⟨kq0, kq1, kq2, kq3, kq4, kq5, kq6, kq7, kq8⟩⟩)
                  | (go_at_call 18; refine (CQ0.out _ _ _ (holdsFi_mono HU3.out HU4.out.2) HU4.out.1 HC6).mono ?_; rintro e wH ⟨rfl, HC7, ⟨kq0, kq1, kq2, kq3, kq4, kq5, kq6, kq7, kq8⟩⟩)
                  | (go_at_call 16; refine (CL9.out _ HC7).mono ?_; rintro e wI ⟨u5, rfl, HU5, HC8, ⟨kq0, kq1, kq2, kq3, kq4, kq5, kq6, kq7, kq8⟩⟩)
                  | (go_at_call 21; refine (CM9.out _ HC8).mono ?_; rintro e wJ ⟨u6, rfl, HU6, HC9, ⟨kq0, kq1, kq2, kq3, kq4, kq5, kq6, kq7, kq8⟩⟩)
                  | (go_at_call 20; refine (CQ9.out _ _ _ (holds_mono HU5.out HU6.out.2) HU6.out.1 HC9).mono ?_; rintro e wK ⟨rfl, HC10, ⟨kq0, kq1, kq2, kq3, kq4, kq5, kq6, kq7, kq8⟩⟩))
              all_goals
                have NB := hide' (BW.out.trans ((sd_bel HC10.out).mono BW.out.size))
                go_wp2_with fail
                go_ret
                exact ⟨rfl, NB.out⟩
end Go.Proofs.Ytaklfiipkjfjdaa
namespace Go.Proofs.Ytaklfiipkjfjdaa
open Go.ChangeShapes Go.WideShapes Go.ChangeAt Go.RowKit
theorem num_wf {n : Int} (h : (Lit.int .i64 n).wf = true) : -9223372036854775808 ≤ n ∧ n ≤ 9223372036854775807 := i64_wf h
set_option maxRecDepth 100000 in
theorem open_start {H : Type} {enc : TypeId × Value → H} {W : World} {base : Nat} {v : Value} {d : DataW H} {p : List MemPlace} (hok : Value.okWide Try.prog W .any base 25 v) (h : DataW.Trod enc Try.prog W 0 (fun _ => true) true 25 v d p) :
    ∃ (fv : Value) (fs : FL) (room : Int) (zv : Value) (zs : List Int) (power : Int), v = .agg #[fv, .int .i64 room, zv, .int .i64 power] ∧ HoldsFi W fv fs ∧ HoldsI W zv zs ∧ bulkF fs + zs.length + 4 ≤ Rows.uptoBulk d ∧ (-9223372036854775808 ≤ room ∧ room ≤ 9223372036854775807) ∧ (-9223372036854775808 ≤ power ∧ power ≤ 9223372036854775807) ∧ ∀ z ∈ zs, -9223372036854775808 ≤ z ∧ z ≤ 9223372036854775807 := by
  obtain ⟨v0, v1, v2, v3, y0, y1, y2, y3, n, rfl, rfl, _, h0, h1, h2, h3⟩ := Joins.open_agg4 Try.underlying25 (by kernel_rfl) (by kernel_rfl) hok h
  obtain ⟨a, l, c, e0⟩ := Joins.slice_form Try.underlying22 h0
  obtain ⟨k, e1, x1, wf1⟩ := DataW.trod_int Try.underlying3 h1
  obtain ⟨a2, l2, c2, e2⟩ := Joins.slice_form Try.underlying23 h2
  obtain ⟨k3, e3, x3, wf3⟩ := DataW.trod_int Try.underlying3 h3
  simp only [List.cons.injEq, and_true] at e0 e1 e2 e3
  subst e0 e1 e2 e3 x1 x3
  obtain ⟨fs, hF, hb⟩ := open_files Try.underlying22 Try.underlying43 (by kernel_rfl) rfl rfl rfl rfl ⟨a, l, c, rfl⟩ (⟨n, h0⟩ : DataW.Trod enc Try.prog W 0 (fun _ => true) true 22 (.slice a l c) y0.1 y0.2)
  obtain ⟨zs, hZ, hzb, hzr⟩ := open_numsS ⟨a2, l2, c2, rfl⟩ (⟨n, h2⟩ : DataW.Trod enc Try.prog W 0 (fun _ => true) true 23 (.slice a2 l2 c2) y2.1 y2.2)
  refine ⟨_, fs, k, _, zs, k3, rfl, hF, hZ, ?_, num_wf wf1, num_wf wf3, hzr⟩
  simp only [Rows.uptoBulk, Rows.uptoBulkAll]
  omega
set_option maxRecDepth 100000 in
theorem open_fate {H : Type} {enc : TypeId × Value → H} {W : World} {base : Nat} {v : Value} {d : DataW H} {p : List MemPlace} (hok : Value.okWide Try.prog W .any base 58 v) (h : DataW.Trod enc Try.prog W 0 (fun _ => true) true 58 v d p) :
    ∃ (k : Int) (kv : Value) (zs : List Int), v = .agg #[.int .i64 k, kv] ∧ HoldsI W kv zs ∧ zs.length + 2 ≤ Rows.uptoBulk d ∧ (-9223372036854775808 ≤ k ∧ k ≤ 9223372036854775807) ∧ ∀ z ∈ zs, -9223372036854775808 ≤ z ∧ z ≤ 9223372036854775807 := by
  obtain ⟨v0, v1, y0, y1, n, rfl, rfl, _, h0, h1⟩ := Joins.open_agg2 Try.underlying58 (by kernel_rfl) (by kernel_rfl) hok h
  obtain ⟨k, e0, x0, wf0⟩ := DataW.trod_int Try.underlying3 h0
  obtain ⟨a, l, c, e1⟩ := Joins.slice_form Try.underlying23 h1
  simp only [List.cons.injEq, and_true] at e0 e1
  subst e0 e1 x0
  obtain ⟨zs, hZ, hzb, hzr⟩ := open_numsS ⟨a, l, c, rfl⟩ (⟨n, h1⟩ : DataW.Trod enc Try.prog W 0 (fun _ => true) true 23 (.slice a l c) y1.1 y1.2)
  refine ⟨k, _, zs, rfl, hZ, ?_, num_wf wf0, hzr⟩
  simp only [Rows.uptoBulk, Rows.uptoBulkAll]
  omega
set_option maxRecDepth 100000 in
theorem open_script {H : Type} {enc : TypeId × Value → H} {W : World} {base : Nat} {v : Value} {d : DataW H} {p : List MemPlace} (hok : Value.okWide Try.prog W .any base 26 v) (h : DataW.Trod enc Try.prog W 0 (fun _ => true) true 26 v d p) :
    ∃ os : List OpT, HoldsO W v os ∧ bulkO os + 1 ≤ Rows.uptoBulk d ∧ ∀ o ∈ os, -9223372036854775808 ≤ o.1 ∧ o.1 ≤ 9223372036854775807 :=
  open_ops Try.underlying26 Try.underlying46 (by kernel_rfl) rfl rfl rfl rfl rfl rfl rfl rfl (okWide_slice Try.underlying26 hok) h
end Go.Proofs.Ytaklfiipkjfjdaa
namespace Go.Proofs.Ytaklfiipkjfjdaa.diskMemory
open Go.ChangeShapes Go.WideShapes Go.ChangeAt Go.RowKit
open Go.ChangeMaps (open_string shut_string)

theorem own : ownKnob Try.prog.godebug = none := by kernel_rfl
set_option maxRecDepth 100000 in
theorem contract (H : Type) (enc : TypeId × Value → H) (W : World) (base : Nat) (args : Array Value) (ds gs : List (DataW H)) (before : List MemPlace)
    (hval : ∀ (j : Nat) t v, Try.f3.params[j]? = some t → args[j]? = some v → Value.okWide Try.prog W .any base t v)
    (hW : DataW.Whole enc Try.prog Try.f3.params.toList Rows.diskMemorySpec.vars false W args.toList ds gs before) (hk0 : Rows.uptoSmall H (ds ++ gs) = true) :
    Calls Try.prog 3 args W fun e W' => ∃ v, e = .returned v ∧ Rows.diskMemorySpec.post enc Try.prog Try.f3 false true false false W args v W' := by
  have hW' := hW
  obtain ⟨p, q, hA0, hV, rfl, hfz, hnd⟩ := hW
  have hA : DataW.TrodAll enc Try.prog W 0 (fun _ => true) true Try.f3.params.toList args.toList ds p := hA0
  rw [Try.params3] at hA hval
  obtain ⟨v0, vs0, d0, ds0, p0, q0, hargs, rfl, rfl, h0, r0⟩ := trodAll_cons hA
  obtain ⟨v1, vs1, d1, ds1, p1, q1, rfl, rfl, rfl, h1, r1⟩ := trodAll_cons r0
  obtain ⟨v2, vs2, d2, ds2, p2, q2, rfl, rfl, rfl, h2, r2⟩ := trodAll_cons r1
  obtain ⟨rfl, rfl, rfl⟩ := trodAll_nil r2
  obtain rfl : args = #[v0, v1, v2] := by cases args; simp_all
  obtain ⟨rfl, rfl⟩ := trodVars_none hV
  have hk := of_decide_eq_true hk0
  simp only [List.append_nil, Rows.uptoBulkAll] at hk
  have lt0 : ∀ x ∈ p0, x.block < W.heap.size := by obtain ⟨m, hm⟩ := h0; exact DataW.trod_lt m _ _ _ hm
  obtain ⟨fv0, fs0, rm0, zv0, zs0, pw0, rfl, H0, G0, K0, w0, x0, z0⟩ := open_start (hval 0 25 v0 rfl rfl) h0
  have lt1 : ∀ x ∈ p1, x.block < W.heap.size := by obtain ⟨m, hm⟩ := h1; exact DataW.trod_lt m _ _ _ hm
  obtain ⟨os1, H1, K1, w1⟩ := open_script (hval 1 26 v1 rfl rfl) h1
  obtain ⟨a2, rfl, rfl, rfl, w2⟩ := open_int Try.underlying5 (hval 2 5 v2 rfl rfl) h2
  clear hA0
  refine (memoryLC rm0 pw0 a2 H0 G0 H1 (by omega) (by omega) (by omega) z0).mono fun e W' ⟨he, bel⟩ => ?_
  subst he
  exact ⟨_, rfl, _, _, _, [], _, [], hW', trodAll_mk1 (shut_bool Try.underlying4 _), (trodAll_cons_mk (Below.trod laidOut (by kernel_rfl) (of_decide_eq_true (by kernel_rfl)) h0 bel lt0) (trodAll_cons_mk (Below.trod laidOut (by kernel_rfl) (of_decide_eq_true (by kernel_rfl)) h1 bel lt1) (trodAll_cons_mk (shut_int Try.underlying5 w2) trodAll_mk0))), rfl, bel.frame _, fun h => by cases h⟩

/-- a world whose listed variables hold what their text lays -/
def laying (w : World) : World :=
  { w with heap := w.heap }
theorem laid_met (os : Os) : laidMet Try.prog Rows.diskMemoryUptoRow.laid ((laying (World.holding Try.prog os ⟨#[], #[], []⟩)).forCall (fun _ _ => 0) ⟨#[], #[.agg #[.slice none 0 0, .int .i64 0, .slice none 0 0, .int .i64 0], .slice none 0 0, .int .u8 0], []⟩).memory :=
  laidMet_of_run' 8 (by kernel_rfl) (by kernel_rfl)
theorem reads (os : Os) {H : Type} (enc : TypeId × Value → H) : ∃ places, DataW.whole enc Try.prog ((laying (World.holding Try.prog os ⟨#[], #[], []⟩)).forCall (fun _ _ => 0) ⟨#[], #[.agg #[.slice none 0 0, .int .i64 0, .slice none 0 0, .int .i64 0], .slice none 0 0, .int .u8 0], []⟩).memory Try.f3.params.toList Rows.diskMemorySpec.vars false #[Value.agg #[.slice none 0 0, .int .i64 0, .slice none 0 0, .int .i64 0], Value.slice none 0 0, Value.int .u8 0].toList 8 = some ([.agg [.nil, .lit (.int .i64 0), .nil, .lit (.int .i64 0)], .nil, .lit (.int .u8 0)], [], places) :=
  ⟨[], by kernel_rfl⟩

set_option maxRecDepth 100000 in
theorem lifted (os : Os) (started : os.Started) (H : Type) (enc : TypeId × Value → H) (F : Stop.Interp) :
    ReturnsInHanded {} Try.checked os 3 .any ((Rows.OpenSpec.upto Rows.diskMemorySpec).preRow enc Try.prog Try.f3 Rows.diskMemoryUptoRow.domain false Rows.diskMemoryUptoRow.laid) (((Rows.OpenSpec.upto Rows.diskMemorySpec).at F).post enc Try.prog Try.f3 false true false false) := by
  obtain ⟨places, hx⟩ := reads os enc
  refine returnsInHanded_of_row (C := Try.checked) (s := Rows.OpenSpec.upto Rows.diskMemorySpec) own started (by kernel_rfl) Try.func3
    (witness_row_at (enc := enc) (C := Try.checked) false (laying (World.holding Try.prog os ⟨#[], #[], []⟩)) #[.agg #[.slice none 0 0, .int .i64 0, .slice none 0 0, .int .i64 0], .slice none 0 0, .int .u8 0] rfl (by kernel_rfl) (by kernel_rfl) (by kernel_rfl)
      (OpenSpec.preRow_of_cond 8 hx (by kernel_rfl) (fun k hk => by cases hk; kernel_rfl) (by kernel_rfl) (laid_met os))) ?_
  intro W base args ds gs before hval hW _ hcond _ _ _ _
  exact contract H enc W base args ds gs before hval hW (hcond _ rfl)

theorem said : Rows.DiskMemoryUptoSaid :=
  OpenClaim.holds_of_cond 3 Try.f3 rfl rfl rfl rfl rfl rfl rfl ⟨rfl, rfl, rfl, rfl, rfl⟩ rfl rfl rfl rfl rfl (by kernel_rfl) Try.func3 (by kernel_rfl)
    (of_decide_eq_true (by kernel_rfl)) (by unfold Func.isWrapper; first | (rw [if_pos (by decide +kernel)]; kernel_rfl) | (rw [if_neg (by decide +kernel)]; exact ⟨rfl, rfl⟩))
    (fun os started H enc _ F => by rw [OpenClaim.pre_eq_preRow]; exact lifted os started H enc F)
end Go.Proofs.Ytaklfiipkjfjdaa.diskMemory
namespace Go.Proofs.Ytaklfiipkjfjdaa
theorem diskMemory_holds : Rows.DiskMemoryUptoSaid := diskMemory.said
#print axioms diskMemory_holds
end Go.Proofs.Ytaklfiipkjfjdaa
