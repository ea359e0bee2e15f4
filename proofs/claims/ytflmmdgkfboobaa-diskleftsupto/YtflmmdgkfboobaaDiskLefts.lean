/- Behind every script of steps each fate leaves the files that the document says, and looking at them changes nothing: for every beginning, script and fate that come to at most 1048576 together (the narrower form). -/
import Derived.Test.YtflmmdgkfboobaaBdF
import Derived.Test.YtflmmdgkfboobaaBdG
import Derived.Test.YtflmmdgkfboobaaBdM
import Derived.Test.YtflmmdgkfboobaaDrT
import Derived.Test.YtflmmdgkfboobaaBdI
import Derived.Deep.RegionHeld3
import Derived.Test.YtflmmdgkfboobaaOpnI
import Derived.Test.YtflmmdgkfboobaaOpnO
import Derived.Lib.SmallJoins
import Derived.OpenShut
import Derived.ShutString
import Derived.ChangeOld
import Derived.Below
import Derived.SizedLaws
import Derived.Deep.DeepHandedRow
import Derived.Lib.LaidTab
namespace Go.Proofs.Ytflmmdgkfboobaa
open Go.RowKit
theorem refS_sub {M W : World} {v : Value} {s : Dk} (h : RefS M v s) (hs : Sub M W) : RefS W v s := by
  obtain ⟨x0, x1, x2, x3, x4, x6, e, h⟩ := h
  exact ⟨x0, x1, x2, x3, x4, x6, e, refV_sub h hs⟩
/-- the disk's blocks, and the block q -/
def NoB (o : Ow) (q k : Nat) : Prop := o.has k ∨ k = q
/-- a block that is not the disk's -/
structure Kp (o : Ow) (w1 : World) (p : Nat) (cs : List Value) (W : World) : Prop where
  out : o p = none
  lo : w1.heap.size ≤ p
  blk : Blk p W cs
section
variable {o o' : Ow} {w1 W W' : World} {p g q : Nat} {cs vs us : List Value} {s s' t t' : Dk} {v v' : Value}
theorem kp_below (h : Kp o w1 p cs W) (hb : Below W.heap.size W W') : Kp o w1 p cs W' := ⟨h.out, h.lo, cells_below h.blk hb⟩
theorem kp_grow (h : Kp o w1 p cs W) (hg : Grow o W o' W') : Kp o' w1 p cs W' := by
  have hn : ¬ o.has p := fun e => e h.out
  have hk := hg.off.block p h.blk.2 hn
  refine ⟨?_, h.lo, ⟨fun j hj => ⟨?_, ?_⟩, Nat.lt_of_lt_of_le h.blk.2 hg.off.size⟩⟩
  · cases e : o' p with
    | none => rfl
    | some r =>
      rcases hg.new p (has_of e) with e1 | e1
      · exact absurd e1 hn
      · exact absurd h.blk.2 (by omega)
  · rw [World.cell?_of_block (w := W) (a := ⟨p, j, none⟩) hk]; exact (h.blk.1 j hj).1
  · rw [World.frozen?_of_block (w := W) (a := ⟨p, j, none⟩) hk]; exact (h.blk.1 j hj).2
/-- the program's disk is s, the document's value v is t; q's block holds vs -/
structure Two (o : Ow) (g q : Nat) (vs : List Value) (v : Value) (s t : Dk) (w1 W : World) : Prop where
  liv : Liv o g s w1 W
  kp : Kp o w1 q vs W
  ref : RefS (mask (NoB o q) W) v t
theorem two_lt (h : Two o g q vs v s t w1 W) : ∀ k, NoB o q k → k < W.heap.size := fun k e => e.elim (dsk_lt h.liv.dsk k) (fun e => by rw [e]; exact h.kp.blk.2)
theorem two_refS (h : Two o g q vs v s t w1 W) : RefS W v t := refS_sub h.ref (mask_sub _ _)
theorem two_below (h : Two o g q vs v s t w1 W) (hb : Below W.heap.size W W') : Two o g q vs v s t w1 W' :=
  ⟨liv_below h.liv hb, kp_below h.kp hb, refS_sub h.ref (off_mask (S := NoB o q) (S' := NoB o q) (off_of hb) (fun _ hk => .inl hk))⟩
theorem two_grow (h : Two o g q vs v s t w1 W) (hl : Liv o' g s' w1 W') (hg : Grow o W o' W') : Two o' g q vs v s' t w1 W' :=
  ⟨hl, kp_grow h.kp hg, refS_sub h.ref (off_mask (S := NoB o q) (S' := NoB o' q) (hg.off.mono (fun _ e => .inl e)) (fun k e => e.elim (fun e => (hg.new k e).elim (fun e => .inl (.inl e)) .inr) (fun e => .inl (.inr e))))⟩
theorem two_ref (h : Two o g q vs v s t w1 W) (hb : Below W.heap.size W W') (hr : RefS (mask (NoB o q) W') v' t') : Two o g q vs v' s t' w1 W' := ⟨liv_below h.liv hb, kp_below h.kp hb, hr⟩
theorem two_put (h : Two o g q vs v s t w1 W) (hu : us.length = vs.length) : Two o g q us v s t w1 (putFrom q 0 W us) := by
  refine ⟨⟨dsk_off h.liv.dsk (off_put (S := fun k => k = q) rfl us 0 W) (fun k e => by rw [e]; exact h.kp.out), h.liv.own, below_put h.kp.lo us 0 W h.liv.bel⟩, ⟨h.kp.out, h.kp.lo, ?_⟩, refS_sub h.ref (off_mask (S := NoB o q) (S' := NoB o q) (off_put (.inr rfl) us 0 W) (fun _ e => .inl e))⟩
  have := cells_putFrom us 0 W vs h.kp.blk (by omega)
  rw [List.drop_eq_nil_of_le (by omega)] at this
  simpa using this
/-- the beginning: the document's value, and its block laid -/
theorem two_start (hl : Liv o g s w1 W) (hr : RefS (mask o.has W) v t) (hb : Below W.heap.size W W') (hk : Blk W.heap.size W' vs) : Two o g W.heap.size vs v s t w1 W' :=
  ⟨liv_below hl hb, ⟨by
    cases e : o W.heap.size with
    | none => rfl
    | some r => exact absurd (dsk_lt hl.dsk _ (has_of e)) (by omega), hl.bel.size, hk⟩, refS_sub hr (off_mask (S := o.has) (S' := NoB o W.heap.size) (off_of hb) (fun k e => e.elim .inl (fun e => .inr (by omega))))⟩
/-- a block laid behind what there is -/
theorem kp_new (hl : Liv o g s w1 W) (hk : Blk W.heap.size W' cs) : Kp o w1 W.heap.size cs W' :=
  ⟨by
    cases e : o W.heap.size with
    | none => rfl
    | some r => exact absurd (dsk_lt hl.dsk _ (has_of e)) (by omega), hl.bel.size, hk⟩
end
/-- what came in lies outside of the disk -/
theorem in_sub {o : Ow} {w w1 W : World} (h1 : Below w.heap.size w w1) (hb : Below w1.heap.size w1 W) (ho : ∀ k, o.has k → w1.heap.size ≤ k) : Sub w (mask o.has W) :=
  ⟨by rw [mask_size]; exact Nat.le_trans h1.size hb.size, fun a v h => by
    have hl := cell_lt h
    have hs := h1.size
    rw [mask_cell W (show ¬ o.has a.block from fun e => by have := ho _ e; omega), hb.cell (p := a) (by omega), h1.cell hl]
    exact h⟩
/-- both disks, and one op's block -/
def Reg (g q p : Nat) (vs cs : List Value) (v : Value) (s t : Dk) (w1 W : World) : Prop := ∃ o, Two o g q vs v s t w1 W ∧ Kp o w1 p cs W
theorem reg_below {g q p : Nat} {vs cs : List Value} {v : Value} {s t : Dk} {w1 W W' : World} (h : Reg g q p vs cs v s t w1 W) (hb : Below W.heap.size W W') : Reg g q p vs cs v s t w1 W' := by
  obtain ⟨o, h1, h2⟩ := h
  exact ⟨o, two_below h1 hb, kp_below h2 hb⟩
end Go.Proofs.Ytflmmdgkfboobaa
namespace Go.Proofs.Ytflmmdgkfboobaa
open Go.RowKit
theorem no_mask (W : World) : Sub W (mask (fun _ => False) W) := ⟨by rw [mask_size]; exact Nat.le_refl _, fun a v h => by rw [mask_cell (S := fun _ => False) W (a := a) (fun e => e)]; exact h⟩
theorem agg9_inj {x0 x1 x2 x3 x4 x5 x6 x7 x8 y0 y1 y2 y3 y4 y5 y6 y7 y8 : Value} (h : Value.agg #[x0, x1, x2, x3, x4, x5, x6, x7, x8] = Value.agg #[y0, y1, y2, y3, y4, y5, y6, y7, y8]) : x0 = y0 ∧ x1 = y1 ∧ x2 = y2 ∧ x3 = y3 ∧ x4 = y4 ∧ x5 = y5 ∧ x6 = y6 ∧ x7 = y7 ∧ x8 = y8 := by
  simpa using h
section
variable {g q p : Nat} {vs cs : List Value} {v : Value} {s t : Dk} {w1 W : World}
theorem rg_do (h : Reg g q p vs cs v s t w1 W) (op : OpT) (da : Option Addr) (dl dc : Nat) (hs : op.2.1.length ≤ 140737488351232) (ht : op.2.2.1.length ≤ 140737488351232) (hB : Bd 90000000 s) (hd : HoldsB W (.slice da dl dc) op.2.2.2) (hdl : op.2.2.2.length ≤ 1000000000) :
    Calls Try.prog 10 #[.pointer (some ⟨g, 0, none⟩), .agg #[.int .i64 (meant op.1), .string ⟨op.2.1.toArray⟩, .string ⟨op.2.2.1.toArray⟩, .slice da dl dc]] W fun e W' => e = .returned (.int .i64 (s.step (dop op)).2) ∧ Reg g q p vs cs v (s.step (dop op)).1 t w1 W' := by
  obtain ⟨o, h1, h2⟩ := h
  refine (doMC h1.liv op da dl dc hs ht hB hd hdl).mono ?_
  rintro e W' ⟨rfl, o', l, hg⟩
  exact ⟨rfl, o', two_grow h1 l hg, kp_grow h2 hg⟩
theorem rg_down (h : Reg g q p vs cs v s t w1 W) : Calls Try.prog 28 #[.pointer (some ⟨g, 0, none⟩)] W fun e W' => e = .returned (.bool s.down) ∧ Reg g q p vs cs v s t w1 W' := by
  have h0 := h
  obtain ⟨o, h1, h2⟩ := h
  refine (downC h1.liv.dsk).mono ?_
  rintro e W' ⟨rfl, n, rfl⟩
  exact ⟨rfl, reg_below h0 (below_drewN _ _)⟩
theorem rg_downR (h : Reg g q p vs cs v s t w1 W) : Calls Try.prog 32 #[v] W fun e W' => e = .returned (.bool t.down) ∧ Reg g q p vs cs v s t w1 W' := by
  have h0 := h
  obtain ⟨o, h1, h2⟩ := h
  refine (downRC (two_refS h1)).mono ?_
  rintro e W' ⟨rfl, hb⟩
  exact ⟨rfl, reg_below h0 hb⟩
theorem rg_used (h : Reg g q p vs cs v s t w1 W) (hB : Bd 1000000000 s) : Calls Try.prog 47 #[.pointer (some ⟨g, 0, none⟩)] W fun e W' => e = .returned (.int .i64 (s.used : Int)) ∧ Reg g q p vs cs v s t w1 W' := by
  have h0 := h
  obtain ⟨o, h1, h2⟩ := h
  refine (usedC h1.liv.dsk hB).mono ?_
  rintro e W' ⟨rfl, hb⟩
  exact ⟨rfl, reg_below h0 hb⟩
theorem rg_usedR (h : Reg g q p vs cs v s t w1 W) (hw : Wf t) (hl : t.now.length ≤ 1000000000) (hu : t.used ≤ 1000000000000000000) : Calls Try.prog 36 #[v] W fun e W' => e = .returned (.int .i64 (t.used : Int)) ∧ Reg g q p vs cs v s t w1 W' := by
  have h0 := h
  obtain ⟨o, h1, h2⟩ := h
  refine (usedRC (two_refS h1) hw hl hu).mono ?_
  rintro e W' ⟨rfl, hb⟩
  exact ⟨rfl, reg_below h0 hb⟩
theorem rg_list (h : Reg g q p vs cs v s t w1 W) (hB : Bd 1000000000 s) : Calls Try.prog 17 #[.pointer (some ⟨g, 0, none⟩)] W fun e W' => ∃ u, e = .returned u ∧ (Holds W' u s.list ∧ Below W.heap.size W W') ∧ Reg g q p vs cs v s t w1 W' := by
  have h0 := h
  obtain ⟨o, h1, h2⟩ := h
  refine (listC h1.liv.dsk hB).mono ?_
  rintro e W' ⟨u, rfl, ho⟩
  exact ⟨u, rfl, ⟨holds_own ho, ho.2⟩, reg_below h0 ho.2⟩
theorem rg_listR (h : Reg g q p vs cs v s t w1 W) (hl : t.now.length ≤ 1000000000) : Calls Try.prog 18 #[v] W fun e W' => ∃ u, e = .returned u ∧ (Holds W' u t.list ∧ Below W.heap.size W W') ∧ Reg g q p vs cs v s t w1 W' := by
  have h0 := h
  obtain ⟨o, h1, h2⟩ := h
  refine (listRC (two_refS h1) hl).mono ?_
  rintro e W' ⟨u, rfl, ho, hb⟩
  exact ⟨u, rfl, ⟨ho, hb⟩, reg_below h0 hb⟩
theorem rg_same (h : Reg g q p vs cs v s t w1 W) (ua ub : Value) (L : List (List UInt8)) (ha : Holds W ua L) (hb : Holds W ub L) (hl : L.length ≤ 1000000000000000) : Calls Try.prog 16 #[ua, ub] W fun e W' => e = .returned (.bool true) ∧ Reg g q p vs cs v s t w1 W' := by
  refine (sameTe ua ub L W ha hb hl).mono ?_
  rintro e W' ⟨rfl, hb⟩
  exact ⟨rfl, reg_below h hb⟩
end
theorem reg_cells {g q p : Nat} {v0 v1 v2 v3 v4 v5 v6 v7 v8 u0 u1 u2 u3 v : Value} {s t : Dk} {w1 W : World} (h : Reg g q p [v0, v1, v2, v3, v4, v5, v6, v7, v8] [u0, u1, u2, u3] v s t w1 W) :
    (W.cell? ⟨q, 0, none⟩ = some v0 ∧ W.cell? ⟨q, 1, none⟩ = some v1 ∧ W.cell? ⟨q, 2, none⟩ = some v2 ∧ W.cell? ⟨q, 3, none⟩ = some v3 ∧ W.cell? ⟨q, 4, none⟩ = some v4 ∧ W.cell? ⟨q, 5, none⟩ = some v5 ∧ W.cell? ⟨q, 6, none⟩ = some v6 ∧ W.cell? ⟨q, 7, none⟩ = some v7 ∧ W.cell? ⟨q, 8, none⟩ = some v8) ∧ (W.cell? ⟨p, 0, none⟩ = some u0 ∧ W.cell? ⟨p, 1, none⟩ = some u1 ∧ W.cell? ⟨p, 2, none⟩ = some u2 ∧ W.cell? ⟨p, 3, none⟩ = some u3) := by
  obtain ⟨o, h1, h2⟩ := h
  exact ⟨cells_9 h1.kp.blk, (cells_4 h2.blk).1⟩
theorem act_fails (s : Dk) (o : DOp) (k : Nat) : (s.act o k).1.fails = s.fails := by
  unfold Dk.act Dk.named
  repeat' split
  all_goals rfl
theorem step_fails (s : Dk) (o : DOp) : (s.step o).1.fails = s.fails := by
  unfold Dk.step
  repeat' split
  all_goals first | rfl | exact act_fails _ _ _
theorem run_fails : ∀ (os : List OpT) (s : Dk), (runD s os).fails = s.fails := by
  intro os
  induction os with
  | nil => intro s; rfl
  | cons o r ih =>
    intro s
    show (runD (s.step (dop o)).1 r).fails = s.fails
    rw [ih, step_fails]
theorem kp_put {o : Ow} {w1 W : World} {p q : Nat} {cs : List Value} (h : Kp o w1 p cs W) (hne : p ≠ q) (us : List Value) : Kp o w1 p cs (putFrom q 0 W us) := by
  have go : ∀ (us : List Value) (k : Nat) (W : World), Blk p W cs → Blk p (putFrom q k W us) cs := by
    intro us
    induction us with
    | nil => intro k W h; exact h
    | cons u r ih => intro k W h; exact ih (k + 1) _ (cells_other h hne u)
  exact ⟨h.out, h.lo, go us 0 W h.blk⟩
theorem step_dop (s : Dk) (op : OpT) : s.step ⟨meant op.1, (⟨op.2.1.toArray⟩ : ByteArray).data.toList, (⟨op.2.2.1.toArray⟩ : ByteArray).data.toList, op.2.2.2⟩ = s.step (dop op) := by simp [dop]
theorem list_lenB {s : Dk} {m : Nat} (h : Bd m s) : s.list.length ≤ m := by
  unfold Dk.list
  split
  · exact Nat.zero_le _
  · rw [List.length_map]; exact h.2.2.1
theorem used_bdM {s : Dk} (h : Bd 3000000 s) : s.used ≤ 1000000000000000000 := by
  have h1 := h.2.2.1
  have h2 := h.2.2.2.2.2
  have key : ∀ l : NL, (l.map (fun p => (s.data.getD p.2 []).length)).sum ≤ l.length * 3000000 := by
    intro l
    induction l with
    | nil => simp
    | cons x r ih => simp only [List.map_cons, List.sum_cons, List.length_cons]; have := h2 x.2; omega
  have := key s.now
  unfold Dk.used
  omega
theorem read_lenB {s : Dk} (h : Bd 3000000 s) (nm : Nm) : (s.read nm).1.length ≤ 1000000000000000 := by
  unfold Dk.read
  split
  · simp
  · split
    · simp
    · split
      · simp
      · have := h.2.2.2.2.2; rename_i k _; have := this k; simp only; omega
/-- both disks are s -/
def Sid (g q : Nat) (s : Dk) (w1 W : World) : Prop := ∃ o, ∃ x0 x1 x2 x3 x4 x6 : Sl, Two o g q [.slice x0.a x0.n x0.c, .slice x1.a x1.n x1.c, .slice x2.a x2.n x2.c, .slice x3.a x3.n x3.c, .slice x4.a x4.n x4.c, .int .i64 s.room, .slice x6.a x6.n x6.c, .int .i64 s.power, .int .i64 (s.n : Int)] (.agg #[.slice x0.a x0.n x0.c, .slice x1.a x1.n x1.c, .slice x2.a x2.n x2.c, .slice x3.a x3.n x3.c, .slice x4.a x4.n x4.c, .int .i64 s.room, .slice x6.a x6.n x6.c, .int .i64 s.power, .int .i64 (s.n : Int)]) s s w1 W
end Go.Proofs.Ytflmmdgkfboobaa
namespace Go.Proofs.Ytflmmdgkfboobaa
open Go.RowKit
def Std (g q : Nat) (vs : List Value) (v : Value) (s : Dk) (w1 W : World) : Prop := ∃ o, Two o g q vs v s s w1 W
section
variable {g q : Nat} {vs : List Value} {v : Value} {s : Dk} {w1 W W' : World}
theorem sd_below (h : Std g q vs v s w1 W) (hb : Below W.heap.size W W') : Std g q vs v s w1 W' := by
  obtain ⟨o, h⟩ := h
  exact ⟨o, two_below h hb⟩
theorem sd_bel (h : Std g q vs v s w1 W) : Below w1.heap.size w1 W := by
  obtain ⟨o, h⟩ := h
  exact h.liv.bel
theorem sd_bd (h : Std g q vs v s w1 W) (hB : Bd 3000000 s) (k : Int) (keep : List Int) : (s.left k keep).length ≤ 6000000 ∧ ∀ f ∈ s.left k keep, f.1.length ≤ 64 ∧ f.2.length ≤ 3000000 := by
  obtain ⟨o, h⟩ := h
  exact left_bd h.liv.dsk hB k keep
theorem sd_copy (h : Std g q vs v s w1 W) (k : Int) (kv : Value) (keep : List Int) (hk : HoldsI W kv keep) (hl : keep.length ≤ 1000000000) :
    Calls Try.prog 14 #[.agg #[.int .i64 k, kv]] W fun e w' => ∃ u, e = .returned (.agg #[.int .i64 k, u]) ∧ HoldsI w' u keep ∧ Std g q vs v s w1 w' := by
  refine (copyFateC k kv keep W hk hl).mono ?_
  rintro e w' ⟨u, rfl, hu, hb⟩
  exact ⟨u, rfl, hu, sd_below h hb⟩
theorem sd_left (h : Std g q vs v s w1 W) (k : Int) (kv : Value) (keep : List Int) (hk : HoldsI W kv keep) (hkr : -9223372036854775808 ≤ k ∧ k ≤ 9223372036854775807) (hkb : ∀ z ∈ keep, -9223372036854775808 ≤ z ∧ z ≤ 9223372036854775807) (hB : Bd 3000000 s) :
    Calls Try.prog 13 #[.pointer (some ⟨g, 0, none⟩), .agg #[.int .i64 k, kv]] W fun e w' => ∃ u, e = .returned u ∧ HoldsFi w' u (s.left k keep) ∧ Std g q vs v s w1 w' := by
  have h0 := h
  obtain ⟨o, h⟩ := h
  refine (leftC h.liv.dsk k kv keep hk hkr hkb (bd_mono hB (by omega))).mono ?_
  rintro e w' ⟨u, rfl, hu, hb⟩
  exact ⟨u, rfl, holdsFi_sub (mask_sub _ _) hu, sd_below h0 hb⟩
theorem sd_leftR (h : Std g q vs v s w1 W) (k : Int) (kv : Value) (keep : List Int) (hk : HoldsI W kv keep) (hkl : keep.length ≤ 1000000000) (hkb : ∀ z ∈ keep, -9223372036854775808 ≤ z ∧ z ≤ 9223372036854775807) (hB : Bd 3000000 s) :
    Calls Try.prog 15 #[v, .agg #[.int .i64 k, kv]] W fun e w' => ∃ u, e = .returned u ∧ (HoldsFi w' u (s.left k keep) ∧ Below W.heap.size W w') ∧ Std g q vs v s w1 w' := by
  have h0 := h
  obtain ⟨o, h⟩ := h
  have hl := (left_bd h.liv.dsk hB k keep).1
  unfold Dk.left at hl
  rw [List.length_map] at hl
  refine (leftRC (two_refS h) (dsk_wf h.liv.dsk).1 (bd_mono hB (by omega)) k kv keep hk hkl hkb (by omega)).mono ?_
  rintro e w' ⟨u, rfl, hu, hb⟩
  exact ⟨u, rfl, ⟨hu, hb⟩, sd_below h0 hb⟩
theorem sd_sameF (h : Std g q vs v s w1 W) (hB : Bd 3000000 s) (k : Int) (keep : List Int) (a b : Value) (ha : HoldsFi W a (s.left k keep)) (hb : HoldsFi W b (s.left k keep)) :
    Calls Try.prog 12 #[a, b] W fun e w' => e = .returned (.bool true) ∧ Std g q vs v s w1 w' := by
  have hl := sd_bd h hB k keep
  refine (sameFi a b _ W ha hb (by omega) (fun f hf => by have := (hl.2 f hf).2; omega)).mono ?_
  rintro e w' ⟨rfl, hb⟩
  exact ⟨rfl, sd_below h hb⟩
theorem sd_list (h : Std g q vs v s w1 W) (hB : Bd 3000000 s) : Calls Try.prog 17 #[.pointer (some ⟨g, 0, none⟩)] W fun e w' => ∃ u, e = .returned u ∧ Holds w' u s.list ∧ Std g q vs v s w1 w' := by
  have h0 := h
  obtain ⟨o, h⟩ := h
  refine (listC h.liv.dsk (bd_mono hB (by omega))).mono ?_
  rintro e w' ⟨u, rfl, ho⟩
  exact ⟨u, rfl, holds_own ho, sd_below h0 ho.2⟩
theorem sd_listR (h : Std g q vs v s w1 W) (hB : Bd 3000000 s) : Calls Try.prog 18 #[v] W fun e w' => ∃ u, e = .returned u ∧ (Holds w' u s.list ∧ Below W.heap.size W w') ∧ Std g q vs v s w1 w' := by
  have h0 := h
  obtain ⟨o, h⟩ := h
  refine (listRC (two_refS h) (by have := hB.2.2.1; omega)).mono ?_
  rintro e w' ⟨u, rfl, hu, hb⟩
  exact ⟨u, rfl, ⟨hu, hb⟩, sd_below h0 hb⟩
theorem sd_sameT (h : Std g q vs v s w1 W) (hB : Bd 3000000 s) (a b : Value) (ha : Holds W a s.list) (hb : Holds W b s.list) : Calls Try.prog 16 #[a, b] W fun e w' => e = .returned (.bool true) ∧ Std g q vs v s w1 w' := by
  refine (sameTe a b s.list W ha hb (by have := list_lenB hB; omega)).mono ?_
  rintro e w' ⟨rfl, hb⟩
  exact ⟨rfl, sd_below h hb⟩
end
theorem sd_cells {g q : Nat} {v0 v1 v2 v3 v4 v5 v6 v7 v8 v : Value} {s : Dk} {w1 W : World} (h : Std g q [v0, v1, v2, v3, v4, v5, v6, v7, v8] v s w1 W) :
    W.cell? ⟨q, 0, none⟩ = some v0 ∧ W.cell? ⟨q, 1, none⟩ = some v1 ∧ W.cell? ⟨q, 2, none⟩ = some v2 ∧ W.cell? ⟨q, 3, none⟩ = some v3 ∧ W.cell? ⟨q, 4, none⟩ = some v4 ∧ W.cell? ⟨q, 5, none⟩ = some v5 ∧ W.cell? ⟨q, 6, none⟩ = some v6 ∧ W.cell? ⟨q, 7, none⟩ = some v7 ∧ W.cell? ⟨q, 8, none⟩ = some v8 := by
  obtain ⟨o, h⟩ := h
  exact cells_9 h.kp.blk
end Go.Proofs.Ytflmmdgkfboobaa
namespace Go.Proofs.Ytflmmdgkfboobaa
open Go.RowKit
set_option maxRecDepth 20000 in
set_option maxHeartbeats 16000000 in
theorem leftsLC {w : World} {fv zv ov kv1 : Value} {fs : FL} {fails : List Int} {os : List OpT} {keep1 : List Int} (room power k1 : Int) (hf : HoldsFi w fv fs) (hz : HoldsI w zv fails) (ho : HoldsO w ov os) (h1 : HoldsI w kv1 keep1) (b1 : bulkF fs ≤ 1048576) (b2 : fails.length ≤ 1048576) (b3 : bulkO os ≤ 1048576) (b4 : keep1.length ≤ 1048576)
    (zb : ∀ z ∈ fails, -9223372036854775808 ≤ z ∧ z ≤ 9223372036854775807) (kb1 : ∀ z ∈ keep1, -9223372036854775808 ≤ z ∧ z ≤ 9223372036854775807) (r1 : -9223372036854775808 ≤ k1 ∧ k1 ≤ 9223372036854775807) :
    Calls Try.prog 3 #[.agg #[fv, .int .i64 room, zv, .int .i64 power], ov, .agg #[.int .i64 k1, kv1]] w fun e w' => e = .returned (.bool true) ∧ Below w.heap.size w w' := by
  obtain ⟨fa, fc, hfv, _⟩ := id hf
  obtain ⟨za, zc, hzv, _⟩ := id hz
  obtain ⟨oa, oc, hov, _⟩ := ho_slice ho
  obtain ⟨ka, kc, hkv, _⟩ := id h1
  have HF := hide' hf
  have H1 := hide' h1
  have B4 := hide' b4
  have KB1 := hide' kb1
  have R1 := hide' r1
  have HZ := hide' hz
  have HO := hide' ho
  have B1 := hide' b1
  have B2 := hide' b2
  have B3 := hide' b3
  have ZB := hide' zb
  have BS := hide' (bas2_start w fv room zv power k1 kv1)
  subst hfv hzv hov hkv
  rename_i y1 y2 y3 y4
  clear y1 y2 y3 y4 hf hz ho h1 b1 b2 b3 b4 zb kb1 r1
  obtain ⟨nf, hnf⟩ : ∃ n, n = fs.length := ⟨_, rfl⟩
  obtain ⟨nz, hnz⟩ : ∃ n, n = fails.length := ⟨_, rfl⟩
  obtain ⟨no, hno⟩ : ∃ n, n = os.length := ⟨_, rfl⟩
  obtain ⟨nk, hnk⟩ : ∃ n, n = keep1.length := ⟨_, rfl⟩
  rw [← hnf, ← hnz, ← hnk] at BS
  rw [← hnk] at H1
  rw [← hnf] at HF
  rw [← hnz] at HZ
  rw [← hno] at HO
  rw [← hnf, ← hnz, ← hno, ← hnk]
  clear hnf hnz hno hnk
  go_enter Try.func3, Try.ntmps3
  go_wp2_with fail
  generalize ((w.alloc (.cells #[.slice fa nf fc, .int .i64 room, .slice za nz zc, .int .i64 power] 25)).alloc (.cells #[.int .i64 k1, .slice ka nk kc] 28)) = W3 at BS ⊢
  refine (aliveC W3).mono ?_
  rintro e w1 ⟨rfl, hb1⟩
  have BS1' := bas2_below BS.out hb1
  have BS1 : Hid (Blk w.heap.size w1 [.slice fa nf fc, .int .i64 room, .slice za nz zc, .int .i64 power] ∧ Below w.heap.size w w1) := ⟨BS1'.p0, BS1'.bel⟩
  obtain ⟨FB, hFB⟩ : ∃ b, b = w.heap.size + 1 := ⟨_, rfl⟩
  have FCE : Hid (∀ W, Below w1.heap.size w1 W → W.cell? ⟨FB, 0, none⟩ = some (.int .i64 k1) ∧ W.cell? ⟨FB, 1, none⟩ = some (.slice ka nk kc)) := fun W hb => by
    rw [hFB]
    exact (cells_2 (cells_below BS1'.p1 hb)).1
  rw [← hFB]
  clear BS1' hFB
  clear hb1 BS
  obtain ⟨⟨x0, x1, x2, x3⟩, _⟩ := cells_4 BS1.out.1
  have CB := hide' (beginC (.slice fa nf fc) fs room (.slice za nz zc) fails power w1 (holdsFi_mono HF.out BS1.out.2) (holdsI_mono HZ.out BS1.out.2) (fun f h => by have := bulkF_mem fs f h; have := B1.out; omega) (by have := bulkF_len fs; have := B1.out; omega) (by have := B2.out; omega) ZB.out)
  go_wp2_with fail
  refine CB.out.mono ?_
  intro e w2 np
  clear x0 x1 x2 x3 CB
  obtain ⟨nb, hor⟩ := np
  have BS2 : Hid (Blk w.heap.size w2 [.slice fa nf fc, .int .i64 room, .slice za nz zc, .int .i64 power] ∧ Below w.heap.size w w2) := ⟨cells_below BS1.out.1 nb, BS1.out.2.trans (nb.mono BS1.out.2.size)⟩
  obtain ⟨⟨x0, x1, x2, x3⟩, _⟩ := cells_4 BS2.out.1
  obtain ⟨ne, rfl⟩ | ⟨hne0, g, o, rfl, hD, hO⟩ := hor
  · have CN := hide' (newRC (Sx := fun _ => False) (w := w2) (fun _ e => e.elim) (.slice fa nf fc) fs room (.slice za nz zc) fails power (holdsFi_mono HF.out BS2.out.2) (holdsI_sub (no_mask w2) (holdsI_mono HZ.out BS2.out.2)) (fun f h => by have := bulkF_mem fs f h; have := B1.out; omega) (by have := bulkF_len fs; have := B1.out; omega))
    have ne' : ((newE fs room) != 0) = true := by simpa using ne
    clear nb
    generalize newE fs room = er at ne ne' CN ⊢
    go_wp2_with fail
    refine CN.out.mono ?_
    rintro e w3 ⟨v0, v1, v2, v3, v4, v5, v6, v7, v8, rfl, hb3, -, hzz⟩
    have hzz := hzz ne
    simp only [List.cons.injEq, and_true] at hzz
    obtain ⟨rfl, rfl, rfl, rfl, rfl, rfl, rfl, rfl, rfl⟩ := hzz
    have NB := hide' (BS2.out.2.trans (hb3.mono BS2.out.2.size))
    clear hb3 x0 x1 x2 x3 CN
    go_wp2_with fail
    go_ret
    exact ⟨rfl, NB.out.trans ((below_alloc' _ _).mono NB.out.size)⟩
  have L0 : Hid (Liv o g (newS fs room fails power) w1 w2) := ⟨hD, hO, nb⟩
  have NE := hide' hne0
  have BW : Hid (Below w.heap.size w w1) := BS1.out.2
  have CN := hide' (newRC (Sx := o.has) (w := w2) (dsk_lt hD) (.slice fa nf fc) fs room (.slice za nz zc) fails power (holdsFi_mono HF.out BS2.out.2) (holdsI_sub (in_sub BS1.out.2 nb hO) HZ.out) (fun f h => by have := bulkF_mem fs f h; have := B1.out; omega) (by have := bulkF_len fs; have := B1.out; omega))
  rw [hne0] at CN
  clear hD hO nb hne0 BS1 BS2
  go_wp2_with fail
  refine CN.out.mono ?_
  rintro e w3 ⟨v0, v1, v2, v3, v4, v5, v6, v7, v8, rfl, hb3, hr, -⟩
  obtain ⟨⟨a0, n0, c0⟩, ⟨a1, n1, c1⟩, ⟨a2, n2, c2⟩, ⟨a3, n3, c3⟩, ⟨a4, n4, c4⟩, ⟨a6, n6, c6⟩, ev, hv⟩ := id (hr (by first | rfl | trivial))
  have hr := hr (by first | rfl | trivial)
  unfold stV at ev
  dsimp only at ev
  obtain ⟨rfl, rfl, rfl, rfl, rfl, rfl, rfl, rfl, rfl⟩ := agg9_inj ev
  have TW : Hid (Two o g w3.heap.size [.slice a0 n0 c0, .slice a1 n1 c1, .slice a2 n2 c2, .slice a3 n3 c3, .slice a4 n4 c4, .int .i64 (newS fs room fails power).room, .slice a6 n6 c6, .int .i64 (newS fs room fails power).power, .int .i64 ((newS fs room fails power).n : Int)] (.agg #[.slice a0 n0 c0, .slice a1 n1 c1, .slice a2 n2 c2, .slice a3 n3 c3, .slice a4 n4 c4, .int .i64 (newS fs room fails power).room, .slice a6 n6 c6, .int .i64 (newS fs room fails power).power, .int .i64 ((newS fs room fails power).n : Int)]) (newS fs room fails power) (newS fs room fails power) w1 (w3.alloc (.cells #[.slice a0 n0 c0, .slice a1 n1 c1, .slice a2 n2 c2, .slice a3 n3 c3, .slice a4 n4 c4, .int .i64 (newS fs room fails power).room, .slice a6 n6 c6, .int .i64 (newS fs room fails power).power, .int .i64 ((newS fs room fails power).n : Int)] 38))) := two_start (liv_below L0.out hb3) hr (below_alloc' _ _) (by simpa using cells_lit w3 #[.slice a0 n0 c0, .slice a1 n1 c1, .slice a2 n2 c2, .slice a3 n3 c3, .slice a4 n4 c4, .int .i64 (newS fs room fails power).room, .slice a6 n6 c6, .int .i64 (newS fs room fails power).power, .int .i64 ((newS fs room fails power).n : Int)] 38)
  clear hv ev hr hb3 CN x0 x1 x2 x3 L0
  obtain ⟨S0, hS0⟩ : ∃ S, S = newS fs room fails power := ⟨_, rfl⟩
  have ES0 := hide' hS0
  rw [← hS0] at TW ⊢
  clear hS0
  go_wp2_with fail
  generalize (w3.alloc (.cells #[.slice a0 n0 c0, .slice a1 n1 c1, .slice a2 n2 c2, .slice a3 n3 c3, .slice a4 n4 c4, .int .i64 S0.room, .slice a6 n6 c6, .int .i64 S0.power, .int .i64 (S0.n : Int)] 38)) = w4 at TW ⊢
  have C0 := hide' (cutC (.slice oa no oc) os w4 (holdsO_mono HO.out (BW.out.trans (TW.out.liv.bel.mono BW.out.size))) (by have := bulk_len os; have := B3.out; omega))
  refine C0.out.mono ?_
  rintro e w5 ⟨u, rfl, hu, rfl⟩
  have hcut := hu w HO.out
  obtain ⟨ua, uc, huv, hpos⟩ := ho_slice hcut
  have CUT := hide' hcut
  have BT : Hid (bulkO (os.take 300) ≤ 1048576) := Nat.le_trans (bulk_take os 300) B3.out
  clear C0 hu hcut
  generalize os.take 300 = ot at CUT huv hpos BT
  subst huv
  obtain ⟨nt, hnt⟩ : ∃ n, n = ot.length := ⟨_, rfl⟩
  have NT := hide' hnt
  rw [← hnt] at hpos ⊢
  have lnt : nt ≤ 1048576 := by have := bulk_len ot; have := BT.out; omega
  have BDS : Hid (∀ j, Bd 3000000 (runD S0 (ot.take j))) := fun j => by
    rw [ES0.out]
    exact bd_mono (bd_run (ot.take j) (bd_new fs room fails power 1048576 (by have := bulkF_len fs; have := B1.out; omega) (fun f h => by have := bulkF_mem fs f h; have := B1.out; omega))) (by have := bulk_take ot j; have := BT.out; omega)
  have RUN : Hid (∀ j (h : j < ot.length), runD S0 (ot.take (j + 1)) = ((runD S0 (ot.take j)).step (dop ot[j])).1) := fun j h => run_snoc _ ot j h
  have FLS : Hid (∀ j, (runD S0 (ot.take j)).fails.length ≤ 1048576) := fun j => by
    rw [run_fails, ES0.out]; exact B2.out
  obtain ⟨q, hq⟩ : ∃ q, q = w3.heap.size := ⟨_, rfl⟩
  rw [← hq] at TW ⊢
  have SD : Hid (Sid g q S0 w1 w5) := ⟨o, ⟨a0, n0, c0⟩, ⟨a1, n1, c1⟩, ⟨a2, n2, c2⟩, ⟨a3, n3, c3⟩, ⟨a4, n4, c4⟩, ⟨a6, n6, c6⟩, TW.out⟩
  clear hnt hq TW
  go_wp2_with fail
  go_loopw [11] (fun i wr => ∃ j : Nat, j ≤ nt ∧ i = .int .i64 j ∧ Hid (Sid g q (runD S0 (ot.take j)) w1 wr)) (fun i _ => nt - (intOf i).toNat)
  case atStart => exact ⟨0, by omega, rfl, SD⟩
  case round =>
    obtain ⟨j, hj, rfl, HL⟩ := hrel
    by_cases hlt : j < nt
    · have hj' : j < ot.length := by rw [← NT.out]; exact hlt
      obtain ⟨b, off, rfl⟩ := hpos (by omega)
      obtain ⟨o, ⟨a0, n0, c0⟩, ⟨a1, n1, c1⟩, ⟨a2, n2, c2⟩, ⟨a3, n3, c3⟩, ⟨a4, n4, c4⟩, ⟨a6, n6, c6⟩, hT⟩ := HL.out
      dsimp only at hT
      have hbw : Below w.heap.size w wr := BW.out.trans (hT.liv.bel.mono BW.out.size)
      obtain ⟨da, dl, dc, ⟨q0, q1, q2, q3⟩, hdat⟩ := op_at CUT.out j hj'
      replace q0 := (hbw.cell (cell_lt q0)).trans q0
      replace q1 := (hbw.cell (cell_lt q1)).trans q1
      replace q2 := (hbw.cell (cell_lt q2)).trans q2
      replace q3 := (hbw.cell (cell_lt q3)).trans q3
      have hbo := bulk_mem ot _ (List.getElem_mem hj')
      have hbt := BT.out
      have BDj := hide' (BDS.out j)
      have BDk := hide' (BDS.out (j + 1))
      have FLj := hide' (FLS.out j)
      have WFj := hide' (dsk_wf hT.liv.dsk).1
      have HD := hide' hdat
      have LN : Hid ((ot[j]'hj').2.1.length ≤ 1048576 ∧ (ot[j]'hj').2.2.1.length ≤ 1048576 ∧ (ot[j]'hj').2.2.2.length ≤ 1048576) := ⟨by omega, by omega, by omega⟩
      have RN := hide' (RUN.out j hj')
      have TW := hide' hT
      have CS := hide' (opC (ot[j]'hj').1 ⟨(ot[j]'hj').2.1.toArray⟩ ⟨(ot[j]'hj').2.2.1.toArray⟩ da dl dc wr)
      obtain ⟨s', es'⟩ : ∃ s', s' = runD S0 (ot.take (j + 1)) := ⟨_, rfl⟩
      have ES := hide' es'
      rw [← es'] at BDk RN
      clear hdat hbo hbt hT hbw HL es'
      generalize ot[j]'hj' = op at q0 q1 q2 q3 HD LN RN CS
      generalize runD S0 (ot.take j) = s at TW BDj FLj WFj RN
      go_wp2_with fail
      refine CS.out.mono ?_
      rintro e w6 ⟨rfl, hb6⟩
      have TW6 := hide' (two_below TW.out hb6)
      have RG7 : Hid (Reg g q w6.heap.size [.slice a0 n0 c0, .slice a1 n1 c1, .slice a2 n2 c2, .slice a3 n3 c3, .slice a4 n4 c4, .int .i64 s.room, .slice a6 n6 c6, .int .i64 s.power, .int .i64 (s.n : Int)] [.int .i64 (meant op.1), .string ⟨op.2.1.toArray⟩, .string ⟨op.2.2.1.toArray⟩, .slice da dl dc] (.agg #[.slice a0 n0 c0, .slice a1 n1 c1, .slice a2 n2 c2, .slice a3 n3 c3, .slice a4 n4 c4, .int .i64 s.room, .slice a6 n6 c6, .int .i64 s.power, .int .i64 (s.n : Int)]) s s w1 (w6.alloc (.cells #[.int .i64 (meant op.1), .string ⟨op.2.1.toArray⟩, .string ⟨op.2.2.1.toArray⟩, .slice da dl dc] 44))) := ⟨o, two_below TW6.out (below_alloc' _ _), kp_new TW6.out.liv (by simpa using cells_lit w6 #[.int .i64 (meant op.1), .string ⟨op.2.1.toArray⟩, .string ⟨op.2.2.1.toArray⟩, .slice da dl dc] 44)⟩
      clear CS q0 q1 q2 q3 TW TW6 hb6
      go_wp2_with fail
      generalize w6.alloc (.cells #[.int .i64 (meant op.1), .string ⟨op.2.1.toArray⟩, .string ⟨op.2.2.1.toArray⟩, .slice da dl dc] 44) = w7 at RG7 ⊢
      obtain ⟨p, hp⟩ : ∃ p, p = w6.heap.size := ⟨_, rfl⟩
      rw [← hp] at RG7 ⊢
      clear hp
      have hbd : Below w.heap.size w w7 := by
        obtain ⟨o2, h1, -⟩ := RG7.out
        exact BW.out.trans (h1.liv.bel.mono BW.out.size)
      have CD := hide' (rg_do RG7.out op da dl dc (by have := LN.out.1; omega) (by have := LN.out.2.1; omega) (bd_mono BDj.out (by omega)) (holdsB_mono HD.out hbd) (by have := LN.out.2.2; omega))
      rw [← RN.out] at CD
      clear hbd
      refine CD.out.mono ?_
      rintro e w8 ⟨rfl, hr8⟩
      have RG8 := hide' hr8
      obtain ⟨⟨k0, k1', k2, k3, k4, k5, k6, k7, k8⟩, ⟨l0, l1, l2, l3⟩⟩ := reg_cells RG8.out
      clear hr8 CD RG7
      go_wp2_with fail
      clear k0 k1' k2 k3 k4 k5 k6 k7 k8 l0 l1 l2 l3
      obtain ⟨o2, hT8, -⟩ := RG8.out
      have TW8 := hide' hT8
      clear hT8 RG8
      have CT := hide' (stepRC (S := NoB o2 q) (two_lt TW8.out) TW8.out.ref WFj.out (bd_mono BDj.out (by omega)) (meant op.1) (meant_in _) ⟨op.2.1.toArray⟩ ⟨op.2.2.1.toArray⟩ da dl dc op.2.2.2 (holdsB_mono HD.out (BW.out.trans (TW8.out.liv.bel.mono BW.out.size))) (by rw [size_l]; have := LN.out.1; omega) (by rw [size_l]; have := LN.out.2.1; omega) (by have := LN.out.2.2; omega) (by have := FLj.out; omega))
      rw [step_dop, ← RN.out] at CT
      refine CT.out.mono ?_
      rintro e w9 ⟨v', rfl, hr9, hb9⟩
      obtain ⟨⟨ra0, rn0, rc0⟩, ⟨ra1, rn1, rc1⟩, ⟨ra2, rn2, rc2⟩, ⟨ra3, rn3, rc3⟩, ⟨ra4, rn4, rc4⟩, ⟨ra6, rn6, rc6⟩, ev, -⟩ := id hr9
      unfold stV at ev
      dsimp only at ev
      subst ev
      have TW9 := hide' (two_below (two_ref TW8.out hb9 hr9) (below_alloc' w9 (.cells #[.slice ra0 rn0 rc0, .slice ra1 rn1 rc1, .slice ra2 rn2 rc2, .slice ra3 rn3 rc3, .slice ra4 rn4 rc4, .int .i64 s'.room, .slice ra6 rn6 rc6, .int .i64 s'.power, .int .i64 (s'.n : Int)] 38)))
      have TWX := two_put TW9.out (us := [.slice ra0 rn0 rc0, .slice ra1 rn1 rc1, .slice ra2 rn2 rc2, .slice ra3 rn3 rc3, .slice ra4 rn4 rc4, .int .i64 s'.room, .slice ra6 rn6 rc6, .int .i64 s'.power, .int .i64 (s'.n : Int)]) rfl
      simp only [putFrom] at TWX
      obtain ⟨⟨c0', c1', c2', c3', c4', c5', c6', c7', c8'⟩, f0, f1, f2, f3, f4, f5, f6, f7, f8⟩ := cells_9a TW9.out.kp.blk
      have RX : Hid (Std g q [.slice ra0 rn0 rc0, .slice ra1 rn1 rc1, .slice ra2 rn2 rc2, .slice ra3 rn3 rc3, .slice ra4 rn4 rc4, .int .i64 s'.room, .slice ra6 rn6 rc6, .int .i64 s'.power, .int .i64 (s'.n : Int)] (.agg #[.slice ra0 rn0 rc0, .slice ra1 rn1 rc1, .slice ra2 rn2 rc2, .slice ra3 rn3 rc3, .slice ra4 rn4 rc4, .int .i64 s'.room, .slice ra6 rn6 rc6, .int .i64 s'.power, .int .i64 (s'.n : Int)]) s' w1 (((((((((((w9.alloc (.cells #[.slice ra0 rn0 rc0, .slice ra1 rn1 rc1, .slice ra2 rn2 rc2, .slice ra3 rn3 rc3, .slice ra4 rn4 rc4, .int .i64 s'.room, .slice ra6 rn6 rc6, .int .i64 s'.power, .int .i64 (s'.n : Int)] 38)).setCell ⟨q, 0, none⟩ (.slice ra0 rn0 rc0)).setCell ⟨q, 1, none⟩ (.slice ra1 rn1 rc1)).setCell ⟨q, 2, none⟩ (.slice ra2 rn2 rc2)).setCell ⟨q, 3, none⟩ (.slice ra3 rn3 rc3)).setCell ⟨q, 4, none⟩ (.slice ra4 rn4 rc4)).setCell ⟨q, 5, none⟩ (.int .i64 s'.room)).setCell ⟨q, 6, none⟩ (.slice ra6 rn6 rc6)).setCell ⟨q, 7, none⟩ (.int .i64 s'.power)).setCell ⟨q, 8, none⟩ (.int .i64 (s'.n : Int))))) := ⟨o2, TWX⟩
      generalize (s.step (dop op)).2 = er
      clear TW8 hb9 hr9 CT TW9 TWX
      obtain ⟨r4, hr4⟩ : ∃ r : Nat, r = j % 4 := ⟨_, rfl⟩
      have t1 : (j : Int).tmod 4 = (r4 : Int) := by rw [Int.tmod_eq_emod_of_nonneg (by omega), hr4]; omega
      by_cases h4 : r4 = 0
      · have t2 : ((r4 : Int) == 0) = true := by simpa using h4
        clear h4 hr4
        go_wp2_with fail
        clear c0' c1' c2' c3' c4' c5' c6' c7' c8' f0 f1 f2 f3 f4 f5 f6 f7 f8
        generalize ((((((((((w9.alloc (.cells #[.slice ra0 rn0 rc0, .slice ra1 rn1 rc1, .slice ra2 rn2 rc2, .slice ra3 rn3 rc3, .slice ra4 rn4 rc4, .int .i64 s'.room, .slice ra6 rn6 rc6, .int .i64 s'.power, .int .i64 (s'.n : Int)] 38)).setCell ⟨q, 0, none⟩ (.slice ra0 rn0 rc0)).setCell ⟨q, 1, none⟩ (.slice ra1 rn1 rc1)).setCell ⟨q, 2, none⟩ (.slice ra2 rn2 rc2)).setCell ⟨q, 3, none⟩ (.slice ra3 rn3 rc3)).setCell ⟨q, 4, none⟩ (.slice ra4 rn4 rc4)).setCell ⟨q, 5, none⟩ (.int .i64 s'.room)).setCell ⟨q, 6, none⟩ (.slice ra6 rn6 rc6)).setCell ⟨q, 7, none⟩ (.int .i64 s'.power)).setCell ⟨q, 8, none⟩ (.int .i64 (s'.n : Int))) = wA at RX ⊢
        have CEL : Hid (∀ Wx, Std g q [.slice ra0 rn0 rc0, .slice ra1 rn1 rc1, .slice ra2 rn2 rc2, .slice ra3 rn3 rc3, .slice ra4 rn4 rc4, .int .i64 s'.room, .slice ra6 rn6 rc6, .int .i64 s'.power, .int .i64 (s'.n : Int)] (.agg #[.slice ra0 rn0 rc0, .slice ra1 rn1 rc1, .slice ra2 rn2 rc2, .slice ra3 rn3 rc3, .slice ra4 rn4 rc4, .int .i64 s'.room, .slice ra6 rn6 rc6, .int .i64 s'.power, .int .i64 (s'.n : Int)]) s' w1 Wx → (Wx.cell? ⟨q, 0, none⟩ = some (.slice ra0 rn0 rc0) ∧ Wx.cell? ⟨q, 1, none⟩ = some (.slice ra1 rn1 rc1) ∧ Wx.cell? ⟨q, 2, none⟩ = some (.slice ra2 rn2 rc2) ∧ Wx.cell? ⟨q, 3, none⟩ = some (.slice ra3 rn3 rc3) ∧ Wx.cell? ⟨q, 4, none⟩ = some (.slice ra4 rn4 rc4) ∧ Wx.cell? ⟨q, 5, none⟩ = some (.int .i64 s'.room) ∧ Wx.cell? ⟨q, 6, none⟩ = some (.slice ra6 rn6 rc6) ∧ Wx.cell? ⟨q, 7, none⟩ = some (.int .i64 s'.power) ∧ Wx.cell? ⟨q, 8, none⟩ = some (.int .i64 (s'.n : Int))) ∧ (Wx.cell? ⟨FB, 0, none⟩ = some (.int .i64 k1) ∧ Wx.cell? ⟨FB, 1, none⟩ = some (.slice ka nk kc))) := fun Wx h => ⟨sd_cells h, FCE.out Wx (sd_bel h)⟩
        have CF : Hid (∀ Wx, Hid (Std g q [.slice ra0 rn0 rc0, .slice ra1 rn1 rc1, .slice ra2 rn2 rc2, .slice ra3 rn3 rc3, .slice ra4 rn4 rc4, .int .i64 s'.room, .slice ra6 rn6 rc6, .int .i64 s'.power, .int .i64 (s'.n : Int)] (.agg #[.slice ra0 rn0 rc0, .slice ra1 rn1 rc1, .slice ra2 rn2 rc2, .slice ra3 rn3 rc3, .slice ra4 rn4 rc4, .int .i64 s'.room, .slice ra6 rn6 rc6, .int .i64 s'.power, .int .i64 (s'.n : Int)]) s' w1 Wx) → Calls Try.prog 14 #[.agg #[.int .i64 k1, .slice ka nk kc]] Wx fun e w' => ∃ u, e = .returned (.agg #[.int .i64 k1, u]) ∧ Hid (HoldsI w' u keep1) ∧ Hid (Std g q [.slice ra0 rn0 rc0, .slice ra1 rn1 rc1, .slice ra2 rn2 rc2, .slice ra3 rn3 rc3, .slice ra4 rn4 rc4, .int .i64 s'.room, .slice ra6 rn6 rc6, .int .i64 s'.power, .int .i64 (s'.n : Int)] (.agg #[.slice ra0 rn0 rc0, .slice ra1 rn1 rc1, .slice ra2 rn2 rc2, .slice ra3 rn3 rc3, .slice ra4 rn4 rc4, .int .i64 s'.room, .slice ra6 rn6 rc6, .int .i64 s'.power, .int .i64 (s'.n : Int)]) s' w1 w') ∧ (w'.cell? ⟨q, 0, none⟩ = some (.slice ra0 rn0 rc0) ∧ w'.cell? ⟨q, 1, none⟩ = some (.slice ra1 rn1 rc1) ∧ w'.cell? ⟨q, 2, none⟩ = some (.slice ra2 rn2 rc2) ∧ w'.cell? ⟨q, 3, none⟩ = some (.slice ra3 rn3 rc3) ∧ w'.cell? ⟨q, 4, none⟩ = some (.slice ra4 rn4 rc4) ∧ w'.cell? ⟨q, 5, none⟩ = some (.int .i64 s'.room) ∧ w'.cell? ⟨q, 6, none⟩ = some (.slice ra6 rn6 rc6) ∧ w'.cell? ⟨q, 7, none⟩ = some (.int .i64 s'.power) ∧ w'.cell? ⟨q, 8, none⟩ = some (.int .i64 (s'.n : Int))) ∧ (w'.cell? ⟨FB, 0, none⟩ = some (.int .i64 k1) ∧ w'.cell? ⟨FB, 1, none⟩ = some (.slice ka nk kc))) := fun Wx h => by
          refine (sd_copy h.out k1 _ keep1 (holdsI_mono H1.out (BW.out.trans ((sd_bel h.out).mono BW.out.size))) (by have := B4.out; omega)).mono ?_
          rintro e w' ⟨u, rfl, hu, hr⟩
          exact ⟨u, rfl, hu, hr, CEL.out w' hr⟩
        have CL : Hid (∀ Wx kv, Hid (HoldsI Wx kv keep1) → Hid (Std g q [.slice ra0 rn0 rc0, .slice ra1 rn1 rc1, .slice ra2 rn2 rc2, .slice ra3 rn3 rc3, .slice ra4 rn4 rc4, .int .i64 s'.room, .slice ra6 rn6 rc6, .int .i64 s'.power, .int .i64 (s'.n : Int)] (.agg #[.slice ra0 rn0 rc0, .slice ra1 rn1 rc1, .slice ra2 rn2 rc2, .slice ra3 rn3 rc3, .slice ra4 rn4 rc4, .int .i64 s'.room, .slice ra6 rn6 rc6, .int .i64 s'.power, .int .i64 (s'.n : Int)]) s' w1 Wx) → Calls Try.prog 13 #[.pointer (some ⟨g, 0, none⟩), .agg #[.int .i64 k1, kv]] Wx fun e w' => ∃ u, e = .returned u ∧ Hid (HoldsFi w' u (s'.left k1 keep1)) ∧ Hid (Std g q [.slice ra0 rn0 rc0, .slice ra1 rn1 rc1, .slice ra2 rn2 rc2, .slice ra3 rn3 rc3, .slice ra4 rn4 rc4, .int .i64 s'.room, .slice ra6 rn6 rc6, .int .i64 s'.power, .int .i64 (s'.n : Int)] (.agg #[.slice ra0 rn0 rc0, .slice ra1 rn1 rc1, .slice ra2 rn2 rc2, .slice ra3 rn3 rc3, .slice ra4 rn4 rc4, .int .i64 s'.room, .slice ra6 rn6 rc6, .int .i64 s'.power, .int .i64 (s'.n : Int)]) s' w1 w') ∧ (w'.cell? ⟨q, 0, none⟩ = some (.slice ra0 rn0 rc0) ∧ w'.cell? ⟨q, 1, none⟩ = some (.slice ra1 rn1 rc1) ∧ w'.cell? ⟨q, 2, none⟩ = some (.slice ra2 rn2 rc2) ∧ w'.cell? ⟨q, 3, none⟩ = some (.slice ra3 rn3 rc3) ∧ w'.cell? ⟨q, 4, none⟩ = some (.slice ra4 rn4 rc4) ∧ w'.cell? ⟨q, 5, none⟩ = some (.int .i64 s'.room) ∧ w'.cell? ⟨q, 6, none⟩ = some (.slice ra6 rn6 rc6) ∧ w'.cell? ⟨q, 7, none⟩ = some (.int .i64 s'.power) ∧ w'.cell? ⟨q, 8, none⟩ = some (.int .i64 (s'.n : Int))) ∧ (w'.cell? ⟨FB, 0, none⟩ = some (.int .i64 k1) ∧ w'.cell? ⟨FB, 1, none⟩ = some (.slice ka nk kc))) := fun Wx kv hk h => by
          refine (sd_left h.out k1 _ keep1 hk.out R1.out KB1.out BDk.out).mono ?_
          rintro e w' ⟨u, rfl, hu, hr⟩
          exact ⟨u, rfl, hu, hr, CEL.out w' hr⟩
        have CM : Hid (∀ Wx, Hid (Std g q [.slice ra0 rn0 rc0, .slice ra1 rn1 rc1, .slice ra2 rn2 rc2, .slice ra3 rn3 rc3, .slice ra4 rn4 rc4, .int .i64 s'.room, .slice ra6 rn6 rc6, .int .i64 s'.power, .int .i64 (s'.n : Int)] (.agg #[.slice ra0 rn0 rc0, .slice ra1 rn1 rc1, .slice ra2 rn2 rc2, .slice ra3 rn3 rc3, .slice ra4 rn4 rc4, .int .i64 s'.room, .slice ra6 rn6 rc6, .int .i64 s'.power, .int .i64 (s'.n : Int)]) s' w1 Wx) → Calls Try.prog 15 #[.agg #[.slice ra0 rn0 rc0, .slice ra1 rn1 rc1, .slice ra2 rn2 rc2, .slice ra3 rn3 rc3, .slice ra4 rn4 rc4, .int .i64 s'.room, .slice ra6 rn6 rc6, .int .i64 s'.power, .int .i64 (s'.n : Int)], .agg #[.int .i64 k1, .slice ka nk kc]] Wx fun e w' => ∃ u, e = .returned u ∧ Hid (HoldsFi w' u (s'.left k1 keep1) ∧ Below Wx.heap.size Wx w') ∧ Hid (Std g q [.slice ra0 rn0 rc0, .slice ra1 rn1 rc1, .slice ra2 rn2 rc2, .slice ra3 rn3 rc3, .slice ra4 rn4 rc4, .int .i64 s'.room, .slice ra6 rn6 rc6, .int .i64 s'.power, .int .i64 (s'.n : Int)] (.agg #[.slice ra0 rn0 rc0, .slice ra1 rn1 rc1, .slice ra2 rn2 rc2, .slice ra3 rn3 rc3, .slice ra4 rn4 rc4, .int .i64 s'.room, .slice ra6 rn6 rc6, .int .i64 s'.power, .int .i64 (s'.n : Int)]) s' w1 w') ∧ (w'.cell? ⟨q, 0, none⟩ = some (.slice ra0 rn0 rc0) ∧ w'.cell? ⟨q, 1, none⟩ = some (.slice ra1 rn1 rc1) ∧ w'.cell? ⟨q, 2, none⟩ = some (.slice ra2 rn2 rc2) ∧ w'.cell? ⟨q, 3, none⟩ = some (.slice ra3 rn3 rc3) ∧ w'.cell? ⟨q, 4, none⟩ = some (.slice ra4 rn4 rc4) ∧ w'.cell? ⟨q, 5, none⟩ = some (.int .i64 s'.room) ∧ w'.cell? ⟨q, 6, none⟩ = some (.slice ra6 rn6 rc6) ∧ w'.cell? ⟨q, 7, none⟩ = some (.int .i64 s'.power) ∧ w'.cell? ⟨q, 8, none⟩ = some (.int .i64 (s'.n : Int))) ∧ (w'.cell? ⟨FB, 0, none⟩ = some (.int .i64 k1) ∧ w'.cell? ⟨FB, 1, none⟩ = some (.slice ka nk kc))) := fun Wx h => by
          refine (sd_leftR h.out k1 _ keep1 (holdsI_mono H1.out (BW.out.trans ((sd_bel h.out).mono BW.out.size))) (by have := B4.out; omega) KB1.out BDk.out).mono ?_
          rintro e w' ⟨u, rfl, hu, hr⟩
          exact ⟨u, rfl, hu, hr, CEL.out w' hr⟩
        have CQ : Hid (∀ Wx a b, HoldsFi Wx a (s'.left k1 keep1) → HoldsFi Wx b (s'.left k1 keep1) → Hid (Std g q [.slice ra0 rn0 rc0, .slice ra1 rn1 rc1, .slice ra2 rn2 rc2, .slice ra3 rn3 rc3, .slice ra4 rn4 rc4, .int .i64 s'.room, .slice ra6 rn6 rc6, .int .i64 s'.power, .int .i64 (s'.n : Int)] (.agg #[.slice ra0 rn0 rc0, .slice ra1 rn1 rc1, .slice ra2 rn2 rc2, .slice ra3 rn3 rc3, .slice ra4 rn4 rc4, .int .i64 s'.room, .slice ra6 rn6 rc6, .int .i64 s'.power, .int .i64 (s'.n : Int)]) s' w1 Wx) → Calls Try.prog 12 #[a, b] Wx fun e w' => e = .returned (.bool true) ∧ Hid (Std g q [.slice ra0 rn0 rc0, .slice ra1 rn1 rc1, .slice ra2 rn2 rc2, .slice ra3 rn3 rc3, .slice ra4 rn4 rc4, .int .i64 s'.room, .slice ra6 rn6 rc6, .int .i64 s'.power, .int .i64 (s'.n : Int)] (.agg #[.slice ra0 rn0 rc0, .slice ra1 rn1 rc1, .slice ra2 rn2 rc2, .slice ra3 rn3 rc3, .slice ra4 rn4 rc4, .int .i64 s'.room, .slice ra6 rn6 rc6, .int .i64 s'.power, .int .i64 (s'.n : Int)]) s' w1 w') ∧ (w'.cell? ⟨q, 0, none⟩ = some (.slice ra0 rn0 rc0) ∧ w'.cell? ⟨q, 1, none⟩ = some (.slice ra1 rn1 rc1) ∧ w'.cell? ⟨q, 2, none⟩ = some (.slice ra2 rn2 rc2) ∧ w'.cell? ⟨q, 3, none⟩ = some (.slice ra3 rn3 rc3) ∧ w'.cell? ⟨q, 4, none⟩ = some (.slice ra4 rn4 rc4) ∧ w'.cell? ⟨q, 5, none⟩ = some (.int .i64 s'.room) ∧ w'.cell? ⟨q, 6, none⟩ = some (.slice ra6 rn6 rc6) ∧ w'.cell? ⟨q, 7, none⟩ = some (.int .i64 s'.power) ∧ w'.cell? ⟨q, 8, none⟩ = some (.int .i64 (s'.n : Int))) ∧ (w'.cell? ⟨FB, 0, none⟩ = some (.int .i64 k1) ∧ w'.cell? ⟨FB, 1, none⟩ = some (.slice ka nk kc))) := fun Wx a b ha hb h => by
          refine (sd_sameF h.out BDk.out k1 keep1 a b ha hb).mono ?_
          rintro e w' ⟨rfl, hr⟩
          exact ⟨rfl, hr, CEL.out w' hr⟩
        obtain ⟨⟨kq0, kq1, kq2, kq3, kq4, kq5, kq6, kq7, kq8⟩, ⟨m0, m1⟩⟩ := CEL.out _ RX.out
        go_region_held3 (fun w' => w'.cell? ⟨q, 0, none⟩ = some (.slice ra0 rn0 rc0) ∧ w'.cell? ⟨q, 1, none⟩ = some (.slice ra1 rn1 rc1) ∧ w'.cell? ⟨q, 2, none⟩ = some (.slice ra2 rn2 rc2) ∧ w'.cell? ⟨q, 3, none⟩ = some (.slice ra3 rn3 rc3) ∧ w'.cell? ⟨q, 4, none⟩ = some (.slice ra4 rn4 rc4) ∧ w'.cell? ⟨q, 5, none⟩ = some (.int .i64 s'.room) ∧ w'.cell? ⟨q, 6, none⟩ = some (.slice ra6 rn6 rc6) ∧ w'.cell? ⟨q, 7, none⟩ = some (.int .i64 s'.power) ∧ w'.cell? ⟨q, 8, none⟩ = some (.int .i64 (s'.n : Int)) ∧ w'.cell? ⟨FB, 0, none⟩ = some (.int .i64 k1) ∧ w'.cell? ⟨FB, 1, none⟩ = some (.slice ka nk kc)) (go_keep)
          (first
            | (go_at_call 14; refine (CF.out _ ?_).mono ?_; (first | exact RX | exact hide' (sd_below RX.out (Below.refl _ _).drew)); rintro e wB ⟨fu, rfl, HI1, HC1, ⟨⟨kq0, kq1, kq2, kq3, kq4, kq5, kq6, kq7, kq8⟩, ⟨m0, m1⟩⟩⟩)
            | (go_at_call 13; refine (CL.out _ _ HI1 HC1).mono ?_; rintro e wC ⟨u1, rfl, HU1, HC2, ⟨⟨kq0, kq1, kq2, kq3, kq4, kq5, kq6, kq7, kq8⟩, ⟨m0, m1⟩⟩⟩)
            | (go_at_call 15; refine (CM.out _ HC2).mono ?_; rintro e wD ⟨u2, rfl, HU2, HC3, ⟨⟨kq0, kq1, kq2, kq3, kq4, kq5, kq6, kq7, kq8⟩, ⟨m0, m1⟩⟩⟩)
            | (go_at_call 12; refine (CQ.out _ _ _ (holdsFi_mono HU1.out HU2.out.2) HU2.out.1 HC3).mono ?_; rintro e wE ⟨rfl, HC4, ⟨⟨kq0, kq1, kq2, kq3, kq4, kq5, kq6, kq7, kq8⟩, ⟨m0, m1⟩⟩⟩))
        all_goals
          go_wp2_with fail
          go_roundw
          case rel =>
            obtain ⟨oV, hTV⟩ := HC4.out
            exact ⟨j + 1, by omega, by go_num, by rw [← ES.out]; exact ⟨oV, ⟨ra0, rn0, rc0⟩, ⟨ra1, rn1, rc1⟩, ⟨ra2, rn2, rc2⟩, ⟨ra3, rn3, rc3⟩, ⟨ra4, rn4, rc4⟩, ⟨ra6, rn6, rc6⟩, hTV⟩⟩
          case measure => simp [intOf]; omega
      · have t2 : ((r4 : Int) == 0) = false := by simp; omega
        clear h4 hr4
        go_wp2_with fail
        clear c0' c1' c2' c3' c4' c5' c6' c7' c8' f0 f1 f2 f3 f4 f5 f6 f7 f8
        generalize ((((((((((w9.alloc (.cells #[.slice ra0 rn0 rc0, .slice ra1 rn1 rc1, .slice ra2 rn2 rc2, .slice ra3 rn3 rc3, .slice ra4 rn4 rc4, .int .i64 s'.room, .slice ra6 rn6 rc6, .int .i64 s'.power, .int .i64 (s'.n : Int)] 38)).setCell ⟨q, 0, none⟩ (.slice ra0 rn0 rc0)).setCell ⟨q, 1, none⟩ (.slice ra1 rn1 rc1)).setCell ⟨q, 2, none⟩ (.slice ra2 rn2 rc2)).setCell ⟨q, 3, none⟩ (.slice ra3 rn3 rc3)).setCell ⟨q, 4, none⟩ (.slice ra4 rn4 rc4)).setCell ⟨q, 5, none⟩ (.int .i64 s'.room)).setCell ⟨q, 6, none⟩ (.slice ra6 rn6 rc6)).setCell ⟨q, 7, none⟩ (.int .i64 s'.power)).setCell ⟨q, 8, none⟩ (.int .i64 (s'.n : Int))) = wA at RX ⊢
        go_quiet (fail)
        go_wp2_with fail
        go_roundw
        case rel =>
          obtain ⟨oV, hTV⟩ := RX.out
          exact ⟨j + 1, by omega, by go_num, by rw [← ES.out]; exact ⟨oV, ⟨ra0, rn0, rc0⟩, ⟨ra1, rn1, rc1⟩, ⟨ra2, rn2, rc2⟩, ⟨ra3, rn3, rc3⟩, ⟨ra4, rn4, rc4⟩, ⟨ra6, rn6, rc6⟩, two_below hTV (by first | exact Below.refl _ _ | exact (Below.refl _ _).drew | exact below_drewN _ _)⟩⟩
        case measure => simp [intOf]; omega
    · obtain ⟨o, ⟨ra0, rn0, rc0⟩, ⟨ra1, rn1, rc1⟩, ⟨ra2, rn2, rc2⟩, ⟨ra3, rn3, rc3⟩, ⟨ra4, rn4, rc4⟩, ⟨ra6, rn6, rc6⟩, hT⟩ := HL.out
      dsimp only at hT
      have BDk := hide' (BDS.out j)
      generalize runD S0 (ot.take j) = s' at hT BDk
      have RX : Hid (Std g q [.slice ra0 rn0 rc0, .slice ra1 rn1 rc1, .slice ra2 rn2 rc2, .slice ra3 rn3 rc3, .slice ra4 rn4 rc4, .int .i64 s'.room, .slice ra6 rn6 rc6, .int .i64 s'.power, .int .i64 (s'.n : Int)] (.agg #[.slice ra0 rn0 rc0, .slice ra1 rn1 rc1, .slice ra2 rn2 rc2, .slice ra3 rn3 rc3, .slice ra4 rn4 rc4, .int .i64 s'.room, .slice ra6 rn6 rc6, .int .i64 s'.power, .int .i64 (s'.n : Int)]) s' w1 wr) := ⟨o, hT⟩
      clear hT HL
      have CEL : Hid (∀ Wx, Std g q [.slice ra0 rn0 rc0, .slice ra1 rn1 rc1, .slice ra2 rn2 rc2, .slice ra3 rn3 rc3, .slice ra4 rn4 rc4, .int .i64 s'.room, .slice ra6 rn6 rc6, .int .i64 s'.power, .int .i64 (s'.n : Int)] (.agg #[.slice ra0 rn0 rc0, .slice ra1 rn1 rc1, .slice ra2 rn2 rc2, .slice ra3 rn3 rc3, .slice ra4 rn4 rc4, .int .i64 s'.room, .slice ra6 rn6 rc6, .int .i64 s'.power, .int .i64 (s'.n : Int)]) s' w1 Wx → (Wx.cell? ⟨q, 0, none⟩ = some (.slice ra0 rn0 rc0) ∧ Wx.cell? ⟨q, 1, none⟩ = some (.slice ra1 rn1 rc1) ∧ Wx.cell? ⟨q, 2, none⟩ = some (.slice ra2 rn2 rc2) ∧ Wx.cell? ⟨q, 3, none⟩ = some (.slice ra3 rn3 rc3) ∧ Wx.cell? ⟨q, 4, none⟩ = some (.slice ra4 rn4 rc4) ∧ Wx.cell? ⟨q, 5, none⟩ = some (.int .i64 s'.room) ∧ Wx.cell? ⟨q, 6, none⟩ = some (.slice ra6 rn6 rc6) ∧ Wx.cell? ⟨q, 7, none⟩ = some (.int .i64 s'.power) ∧ Wx.cell? ⟨q, 8, none⟩ = some (.int .i64 (s'.n : Int))) ∧ (Wx.cell? ⟨FB, 0, none⟩ = some (.int .i64 k1) ∧ Wx.cell? ⟨FB, 1, none⟩ = some (.slice ka nk kc))) := fun Wx h => ⟨sd_cells h, FCE.out Wx (sd_bel h)⟩
      have CF : Hid (∀ Wx, Hid (Std g q [.slice ra0 rn0 rc0, .slice ra1 rn1 rc1, .slice ra2 rn2 rc2, .slice ra3 rn3 rc3, .slice ra4 rn4 rc4, .int .i64 s'.room, .slice ra6 rn6 rc6, .int .i64 s'.power, .int .i64 (s'.n : Int)] (.agg #[.slice ra0 rn0 rc0, .slice ra1 rn1 rc1, .slice ra2 rn2 rc2, .slice ra3 rn3 rc3, .slice ra4 rn4 rc4, .int .i64 s'.room, .slice ra6 rn6 rc6, .int .i64 s'.power, .int .i64 (s'.n : Int)]) s' w1 Wx) → Calls Try.prog 14 #[.agg #[.int .i64 k1, .slice ka nk kc]] Wx fun e w' => ∃ u, e = .returned (.agg #[.int .i64 k1, u]) ∧ Hid (HoldsI w' u keep1) ∧ Hid (Std g q [.slice ra0 rn0 rc0, .slice ra1 rn1 rc1, .slice ra2 rn2 rc2, .slice ra3 rn3 rc3, .slice ra4 rn4 rc4, .int .i64 s'.room, .slice ra6 rn6 rc6, .int .i64 s'.power, .int .i64 (s'.n : Int)] (.agg #[.slice ra0 rn0 rc0, .slice ra1 rn1 rc1, .slice ra2 rn2 rc2, .slice ra3 rn3 rc3, .slice ra4 rn4 rc4, .int .i64 s'.room, .slice ra6 rn6 rc6, .int .i64 s'.power, .int .i64 (s'.n : Int)]) s' w1 w') ∧ (w'.cell? ⟨q, 0, none⟩ = some (.slice ra0 rn0 rc0) ∧ w'.cell? ⟨q, 1, none⟩ = some (.slice ra1 rn1 rc1) ∧ w'.cell? ⟨q, 2, none⟩ = some (.slice ra2 rn2 rc2) ∧ w'.cell? ⟨q, 3, none⟩ = some (.slice ra3 rn3 rc3) ∧ w'.cell? ⟨q, 4, none⟩ = some (.slice ra4 rn4 rc4) ∧ w'.cell? ⟨q, 5, none⟩ = some (.int .i64 s'.room) ∧ w'.cell? ⟨q, 6, none⟩ = some (.slice ra6 rn6 rc6) ∧ w'.cell? ⟨q, 7, none⟩ = some (.int .i64 s'.power) ∧ w'.cell? ⟨q, 8, none⟩ = some (.int .i64 (s'.n : Int))) ∧ (w'.cell? ⟨FB, 0, none⟩ = some (.int .i64 k1) ∧ w'.cell? ⟨FB, 1, none⟩ = some (.slice ka nk kc))) := fun Wx h => by
        refine (sd_copy h.out k1 _ keep1 (holdsI_mono H1.out (BW.out.trans ((sd_bel h.out).mono BW.out.size))) (by have := B4.out; omega)).mono ?_
        rintro e w' ⟨u, rfl, hu, hr⟩
        exact ⟨u, rfl, hu, hr, CEL.out w' hr⟩
      have CL : Hid (∀ Wx kv, Hid (HoldsI Wx kv keep1) → Hid (Std g q [.slice ra0 rn0 rc0, .slice ra1 rn1 rc1, .slice ra2 rn2 rc2, .slice ra3 rn3 rc3, .slice ra4 rn4 rc4, .int .i64 s'.room, .slice ra6 rn6 rc6, .int .i64 s'.power, .int .i64 (s'.n : Int)] (.agg #[.slice ra0 rn0 rc0, .slice ra1 rn1 rc1, .slice ra2 rn2 rc2, .slice ra3 rn3 rc3, .slice ra4 rn4 rc4, .int .i64 s'.room, .slice ra6 rn6 rc6, .int .i64 s'.power, .int .i64 (s'.n : Int)]) s' w1 Wx) → Calls Try.prog 13 #[.pointer (some ⟨g, 0, none⟩), .agg #[.int .i64 k1, kv]] Wx fun e w' => ∃ u, e = .returned u ∧ Hid (HoldsFi w' u (s'.left k1 keep1)) ∧ Hid (Std g q [.slice ra0 rn0 rc0, .slice ra1 rn1 rc1, .slice ra2 rn2 rc2, .slice ra3 rn3 rc3, .slice ra4 rn4 rc4, .int .i64 s'.room, .slice ra6 rn6 rc6, .int .i64 s'.power, .int .i64 (s'.n : Int)] (.agg #[.slice ra0 rn0 rc0, .slice ra1 rn1 rc1, .slice ra2 rn2 rc2, .slice ra3 rn3 rc3, .slice ra4 rn4 rc4, .int .i64 s'.room, .slice ra6 rn6 rc6, .int .i64 s'.power, .int .i64 (s'.n : Int)]) s' w1 w') ∧ (w'.cell? ⟨q, 0, none⟩ = some (.slice ra0 rn0 rc0) ∧ w'.cell? ⟨q, 1, none⟩ = some (.slice ra1 rn1 rc1) ∧ w'.cell? ⟨q, 2, none⟩ = some (.slice ra2 rn2 rc2) ∧ w'.cell? ⟨q, 3, none⟩ = some (.slice ra3 rn3 rc3) ∧ w'.cell? ⟨q, 4, none⟩ = some (.slice ra4 rn4 rc4) ∧ w'.cell? ⟨q, 5, none⟩ = some (.int .i64 s'.room) ∧ w'.cell? ⟨q, 6, none⟩ = some (.slice ra6 rn6 rc6) ∧ w'.cell? ⟨q, 7, none⟩ = some (.int .i64 s'.power) ∧ w'.cell? ⟨q, 8, none⟩ = some (.int .i64 (s'.n : Int))) ∧ (w'.cell? ⟨FB, 0, none⟩ = some (.int .i64 k1) ∧ w'.cell? ⟨FB, 1, none⟩ = some (.slice ka nk kc))) := fun Wx kv hk h => by
        refine (sd_left h.out k1 _ keep1 hk.out R1.out KB1.out BDk.out).mono ?_
        rintro e w' ⟨u, rfl, hu, hr⟩
        exact ⟨u, rfl, hu, hr, CEL.out w' hr⟩
      have CM : Hid (∀ Wx, Hid (Std g q [.slice ra0 rn0 rc0, .slice ra1 rn1 rc1, .slice ra2 rn2 rc2, .slice ra3 rn3 rc3, .slice ra4 rn4 rc4, .int .i64 s'.room, .slice ra6 rn6 rc6, .int .i64 s'.power, .int .i64 (s'.n : Int)] (.agg #[.slice ra0 rn0 rc0, .slice ra1 rn1 rc1, .slice ra2 rn2 rc2, .slice ra3 rn3 rc3, .slice ra4 rn4 rc4, .int .i64 s'.room, .slice ra6 rn6 rc6, .int .i64 s'.power, .int .i64 (s'.n : Int)]) s' w1 Wx) → Calls Try.prog 15 #[.agg #[.slice ra0 rn0 rc0, .slice ra1 rn1 rc1, .slice ra2 rn2 rc2, .slice ra3 rn3 rc3, .slice ra4 rn4 rc4, .int .i64 s'.room, .slice ra6 rn6 rc6, .int .i64 s'.power, .int .i64 (s'.n : Int)], .agg #[.int .i64 k1, .slice ka nk kc]] Wx fun e w' => ∃ u, e = .returned u ∧ Hid (HoldsFi w' u (s'.left k1 keep1) ∧ Below Wx.heap.size Wx w') ∧ Hid (Std g q [.slice ra0 rn0 rc0, .slice ra1 rn1 rc1, .slice ra2 rn2 rc2, .slice ra3 rn3 rc3, .slice ra4 rn4 rc4, .int .i64 s'.room, .slice ra6 rn6 rc6, .int .i64 s'.power, .int .i64 (s'.n : Int)] (.agg #[.slice ra0 rn0 rc0, .slice ra1 rn1 rc1, .slice ra2 rn2 rc2, .slice ra3 rn3 rc3, .slice ra4 rn4 rc4, .int .i64 s'.room, .slice ra6 rn6 rc6, .int .i64 s'.power, .int .i64 (s'.n : Int)]) s' w1 w') ∧ (w'.cell? ⟨q, 0, none⟩ = some (.slice ra0 rn0 rc0) ∧ w'.cell? ⟨q, 1, none⟩ = some (.slice ra1 rn1 rc1) ∧ w'.cell? ⟨q, 2, none⟩ = some (.slice ra2 rn2 rc2) ∧ w'.cell? ⟨q, 3, none⟩ = some (.slice ra3 rn3 rc3) ∧ w'.cell? ⟨q, 4, none⟩ = some (.slice ra4 rn4 rc4) ∧ w'.cell? ⟨q, 5, none⟩ = some (.int .i64 s'.room) ∧ w'.cell? ⟨q, 6, none⟩ = some (.slice ra6 rn6 rc6) ∧ w'.cell? ⟨q, 7, none⟩ = some (.int .i64 s'.power) ∧ w'.cell? ⟨q, 8, none⟩ = some (.int .i64 (s'.n : Int))) ∧ (w'.cell? ⟨FB, 0, none⟩ = some (.int .i64 k1) ∧ w'.cell? ⟨FB, 1, none⟩ = some (.slice ka nk kc))) := fun Wx h => by
        refine (sd_leftR h.out k1 _ keep1 (holdsI_mono H1.out (BW.out.trans ((sd_bel h.out).mono BW.out.size))) (by have := B4.out; omega) KB1.out BDk.out).mono ?_
        rintro e w' ⟨u, rfl, hu, hr⟩
        exact ⟨u, rfl, hu, hr, CEL.out w' hr⟩
      have CQ : Hid (∀ Wx a b, HoldsFi Wx a (s'.left k1 keep1) → HoldsFi Wx b (s'.left k1 keep1) → Hid (Std g q [.slice ra0 rn0 rc0, .slice ra1 rn1 rc1, .slice ra2 rn2 rc2, .slice ra3 rn3 rc3, .slice ra4 rn4 rc4, .int .i64 s'.room, .slice ra6 rn6 rc6, .int .i64 s'.power, .int .i64 (s'.n : Int)] (.agg #[.slice ra0 rn0 rc0, .slice ra1 rn1 rc1, .slice ra2 rn2 rc2, .slice ra3 rn3 rc3, .slice ra4 rn4 rc4, .int .i64 s'.room, .slice ra6 rn6 rc6, .int .i64 s'.power, .int .i64 (s'.n : Int)]) s' w1 Wx) → Calls Try.prog 12 #[a, b] Wx fun e w' => e = .returned (.bool true) ∧ Hid (Std g q [.slice ra0 rn0 rc0, .slice ra1 rn1 rc1, .slice ra2 rn2 rc2, .slice ra3 rn3 rc3, .slice ra4 rn4 rc4, .int .i64 s'.room, .slice ra6 rn6 rc6, .int .i64 s'.power, .int .i64 (s'.n : Int)] (.agg #[.slice ra0 rn0 rc0, .slice ra1 rn1 rc1, .slice ra2 rn2 rc2, .slice ra3 rn3 rc3, .slice ra4 rn4 rc4, .int .i64 s'.room, .slice ra6 rn6 rc6, .int .i64 s'.power, .int .i64 (s'.n : Int)]) s' w1 w') ∧ (w'.cell? ⟨q, 0, none⟩ = some (.slice ra0 rn0 rc0) ∧ w'.cell? ⟨q, 1, none⟩ = some (.slice ra1 rn1 rc1) ∧ w'.cell? ⟨q, 2, none⟩ = some (.slice ra2 rn2 rc2) ∧ w'.cell? ⟨q, 3, none⟩ = some (.slice ra3 rn3 rc3) ∧ w'.cell? ⟨q, 4, none⟩ = some (.slice ra4 rn4 rc4) ∧ w'.cell? ⟨q, 5, none⟩ = some (.int .i64 s'.room) ∧ w'.cell? ⟨q, 6, none⟩ = some (.slice ra6 rn6 rc6) ∧ w'.cell? ⟨q, 7, none⟩ = some (.int .i64 s'.power) ∧ w'.cell? ⟨q, 8, none⟩ = some (.int .i64 (s'.n : Int))) ∧ (w'.cell? ⟨FB, 0, none⟩ = some (.int .i64 k1) ∧ w'.cell? ⟨FB, 1, none⟩ = some (.slice ka nk kc))) := fun Wx a b ha hb h => by
        refine (sd_sameF h.out BDk.out k1 keep1 a b ha hb).mono ?_
        rintro e w' ⟨rfl, hr⟩
        exact ⟨rfl, hr, CEL.out w' hr⟩
      have CL0 : Hid (∀ Wx, Hid (Std g q [.slice ra0 rn0 rc0, .slice ra1 rn1 rc1, .slice ra2 rn2 rc2, .slice ra3 rn3 rc3, .slice ra4 rn4 rc4, .int .i64 s'.room, .slice ra6 rn6 rc6, .int .i64 s'.power, .int .i64 (s'.n : Int)] (.agg #[.slice ra0 rn0 rc0, .slice ra1 rn1 rc1, .slice ra2 rn2 rc2, .slice ra3 rn3 rc3, .slice ra4 rn4 rc4, .int .i64 s'.room, .slice ra6 rn6 rc6, .int .i64 s'.power, .int .i64 (s'.n : Int)]) s' w1 Wx) → Calls Try.prog 13 #[.pointer (some ⟨g, 0, none⟩), .agg #[.int .i64 0, .slice none 0 0]] Wx fun e w' => ∃ u, e = .returned u ∧ Hid (HoldsFi w' u (s'.left 0 [])) ∧ Hid (Std g q [.slice ra0 rn0 rc0, .slice ra1 rn1 rc1, .slice ra2 rn2 rc2, .slice ra3 rn3 rc3, .slice ra4 rn4 rc4, .int .i64 s'.room, .slice ra6 rn6 rc6, .int .i64 s'.power, .int .i64 (s'.n : Int)] (.agg #[.slice ra0 rn0 rc0, .slice ra1 rn1 rc1, .slice ra2 rn2 rc2, .slice ra3 rn3 rc3, .slice ra4 rn4 rc4, .int .i64 s'.room, .slice ra6 rn6 rc6, .int .i64 s'.power, .int .i64 (s'.n : Int)]) s' w1 w') ∧ (w'.cell? ⟨q, 0, none⟩ = some (.slice ra0 rn0 rc0) ∧ w'.cell? ⟨q, 1, none⟩ = some (.slice ra1 rn1 rc1) ∧ w'.cell? ⟨q, 2, none⟩ = some (.slice ra2 rn2 rc2) ∧ w'.cell? ⟨q, 3, none⟩ = some (.slice ra3 rn3 rc3) ∧ w'.cell? ⟨q, 4, none⟩ = some (.slice ra4 rn4 rc4) ∧ w'.cell? ⟨q, 5, none⟩ = some (.int .i64 s'.room) ∧ w'.cell? ⟨q, 6, none⟩ = some (.slice ra6 rn6 rc6) ∧ w'.cell? ⟨q, 7, none⟩ = some (.int .i64 s'.power) ∧ w'.cell? ⟨q, 8, none⟩ = some (.int .i64 (s'.n : Int))) ∧ (w'.cell? ⟨FB, 0, none⟩ = some (.int .i64 k1) ∧ w'.cell? ⟨FB, 1, none⟩ = some (.slice ka nk kc))) := fun Wx h => by
        refine (sd_left h.out 0 _ [] ⟨none, 0, rfl, fun _ => rfl, Nat.le_refl _, fun h => absurd rfl h⟩ (by decide) (fun z h => by cases h) BDk.out).mono ?_
        rintro e w' ⟨u, rfl, hu, hr⟩
        exact ⟨u, rfl, hu, hr, CEL.out w' hr⟩
      have CM0 : Hid (∀ Wx, Hid (Std g q [.slice ra0 rn0 rc0, .slice ra1 rn1 rc1, .slice ra2 rn2 rc2, .slice ra3 rn3 rc3, .slice ra4 rn4 rc4, .int .i64 s'.room, .slice ra6 rn6 rc6, .int .i64 s'.power, .int .i64 (s'.n : Int)] (.agg #[.slice ra0 rn0 rc0, .slice ra1 rn1 rc1, .slice ra2 rn2 rc2, .slice ra3 rn3 rc3, .slice ra4 rn4 rc4, .int .i64 s'.room, .slice ra6 rn6 rc6, .int .i64 s'.power, .int .i64 (s'.n : Int)]) s' w1 Wx) → Calls Try.prog 15 #[.agg #[.slice ra0 rn0 rc0, .slice ra1 rn1 rc1, .slice ra2 rn2 rc2, .slice ra3 rn3 rc3, .slice ra4 rn4 rc4, .int .i64 s'.room, .slice ra6 rn6 rc6, .int .i64 s'.power, .int .i64 (s'.n : Int)], .agg #[.int .i64 0, .slice none 0 0]] Wx fun e w' => ∃ u, e = .returned u ∧ Hid (HoldsFi w' u (s'.left 0 []) ∧ Below Wx.heap.size Wx w') ∧ Hid (Std g q [.slice ra0 rn0 rc0, .slice ra1 rn1 rc1, .slice ra2 rn2 rc2, .slice ra3 rn3 rc3, .slice ra4 rn4 rc4, .int .i64 s'.room, .slice ra6 rn6 rc6, .int .i64 s'.power, .int .i64 (s'.n : Int)] (.agg #[.slice ra0 rn0 rc0, .slice ra1 rn1 rc1, .slice ra2 rn2 rc2, .slice ra3 rn3 rc3, .slice ra4 rn4 rc4, .int .i64 s'.room, .slice ra6 rn6 rc6, .int .i64 s'.power, .int .i64 (s'.n : Int)]) s' w1 w') ∧ (w'.cell? ⟨q, 0, none⟩ = some (.slice ra0 rn0 rc0) ∧ w'.cell? ⟨q, 1, none⟩ = some (.slice ra1 rn1 rc1) ∧ w'.cell? ⟨q, 2, none⟩ = some (.slice ra2 rn2 rc2) ∧ w'.cell? ⟨q, 3, none⟩ = some (.slice ra3 rn3 rc3) ∧ w'.cell? ⟨q, 4, none⟩ = some (.slice ra4 rn4 rc4) ∧ w'.cell? ⟨q, 5, none⟩ = some (.int .i64 s'.room) ∧ w'.cell? ⟨q, 6, none⟩ = some (.slice ra6 rn6 rc6) ∧ w'.cell? ⟨q, 7, none⟩ = some (.int .i64 s'.power) ∧ w'.cell? ⟨q, 8, none⟩ = some (.int .i64 (s'.n : Int))) ∧ (w'.cell? ⟨FB, 0, none⟩ = some (.int .i64 k1) ∧ w'.cell? ⟨FB, 1, none⟩ = some (.slice ka nk kc))) := fun Wx h => by
        refine (sd_leftR h.out 0 _ [] ⟨none, 0, rfl, fun _ => rfl, Nat.le_refl _, fun h => absurd rfl h⟩ (by decide) (fun z h => by cases h) BDk.out).mono ?_
        rintro e w' ⟨u, rfl, hu, hr⟩
        exact ⟨u, rfl, hu, hr, CEL.out w' hr⟩
      have CQ0 : Hid (∀ Wx a b, HoldsFi Wx a (s'.left 0 []) → HoldsFi Wx b (s'.left 0 []) → Hid (Std g q [.slice ra0 rn0 rc0, .slice ra1 rn1 rc1, .slice ra2 rn2 rc2, .slice ra3 rn3 rc3, .slice ra4 rn4 rc4, .int .i64 s'.room, .slice ra6 rn6 rc6, .int .i64 s'.power, .int .i64 (s'.n : Int)] (.agg #[.slice ra0 rn0 rc0, .slice ra1 rn1 rc1, .slice ra2 rn2 rc2, .slice ra3 rn3 rc3, .slice ra4 rn4 rc4, .int .i64 s'.room, .slice ra6 rn6 rc6, .int .i64 s'.power, .int .i64 (s'.n : Int)]) s' w1 Wx) → Calls Try.prog 12 #[a, b] Wx fun e w' => e = .returned (.bool true) ∧ Hid (Std g q [.slice ra0 rn0 rc0, .slice ra1 rn1 rc1, .slice ra2 rn2 rc2, .slice ra3 rn3 rc3, .slice ra4 rn4 rc4, .int .i64 s'.room, .slice ra6 rn6 rc6, .int .i64 s'.power, .int .i64 (s'.n : Int)] (.agg #[.slice ra0 rn0 rc0, .slice ra1 rn1 rc1, .slice ra2 rn2 rc2, .slice ra3 rn3 rc3, .slice ra4 rn4 rc4, .int .i64 s'.room, .slice ra6 rn6 rc6, .int .i64 s'.power, .int .i64 (s'.n : Int)]) s' w1 w') ∧ (w'.cell? ⟨q, 0, none⟩ = some (.slice ra0 rn0 rc0) ∧ w'.cell? ⟨q, 1, none⟩ = some (.slice ra1 rn1 rc1) ∧ w'.cell? ⟨q, 2, none⟩ = some (.slice ra2 rn2 rc2) ∧ w'.cell? ⟨q, 3, none⟩ = some (.slice ra3 rn3 rc3) ∧ w'.cell? ⟨q, 4, none⟩ = some (.slice ra4 rn4 rc4) ∧ w'.cell? ⟨q, 5, none⟩ = some (.int .i64 s'.room) ∧ w'.cell? ⟨q, 6, none⟩ = some (.slice ra6 rn6 rc6) ∧ w'.cell? ⟨q, 7, none⟩ = some (.int .i64 s'.power) ∧ w'.cell? ⟨q, 8, none⟩ = some (.int .i64 (s'.n : Int))) ∧ (w'.cell? ⟨FB, 0, none⟩ = some (.int .i64 k1) ∧ w'.cell? ⟨FB, 1, none⟩ = some (.slice ka nk kc))) := fun Wx a b ha hb h => by
        refine (sd_sameF h.out BDk.out 0 [] a b ha hb).mono ?_
        rintro e w' ⟨rfl, hr⟩
        exact ⟨rfl, hr, CEL.out w' hr⟩
      have CL9 : Hid (∀ Wx, Hid (Std g q [.slice ra0 rn0 rc0, .slice ra1 rn1 rc1, .slice ra2 rn2 rc2, .slice ra3 rn3 rc3, .slice ra4 rn4 rc4, .int .i64 s'.room, .slice ra6 rn6 rc6, .int .i64 s'.power, .int .i64 (s'.n : Int)] (.agg #[.slice ra0 rn0 rc0, .slice ra1 rn1 rc1, .slice ra2 rn2 rc2, .slice ra3 rn3 rc3, .slice ra4 rn4 rc4, .int .i64 s'.room, .slice ra6 rn6 rc6, .int .i64 s'.power, .int .i64 (s'.n : Int)]) s' w1 Wx) → Calls Try.prog 17 #[.pointer (some ⟨g, 0, none⟩)] Wx fun e w' => ∃ u, e = .returned u ∧ Hid (Holds w' u s'.list) ∧ Hid (Std g q [.slice ra0 rn0 rc0, .slice ra1 rn1 rc1, .slice ra2 rn2 rc2, .slice ra3 rn3 rc3, .slice ra4 rn4 rc4, .int .i64 s'.room, .slice ra6 rn6 rc6, .int .i64 s'.power, .int .i64 (s'.n : Int)] (.agg #[.slice ra0 rn0 rc0, .slice ra1 rn1 rc1, .slice ra2 rn2 rc2, .slice ra3 rn3 rc3, .slice ra4 rn4 rc4, .int .i64 s'.room, .slice ra6 rn6 rc6, .int .i64 s'.power, .int .i64 (s'.n : Int)]) s' w1 w') ∧ (w'.cell? ⟨q, 0, none⟩ = some (.slice ra0 rn0 rc0) ∧ w'.cell? ⟨q, 1, none⟩ = some (.slice ra1 rn1 rc1) ∧ w'.cell? ⟨q, 2, none⟩ = some (.slice ra2 rn2 rc2) ∧ w'.cell? ⟨q, 3, none⟩ = some (.slice ra3 rn3 rc3) ∧ w'.cell? ⟨q, 4, none⟩ = some (.slice ra4 rn4 rc4) ∧ w'.cell? ⟨q, 5, none⟩ = some (.int .i64 s'.room) ∧ w'.cell? ⟨q, 6, none⟩ = some (.slice ra6 rn6 rc6) ∧ w'.cell? ⟨q, 7, none⟩ = some (.int .i64 s'.power) ∧ w'.cell? ⟨q, 8, none⟩ = some (.int .i64 (s'.n : Int))) ∧ (w'.cell? ⟨FB, 0, none⟩ = some (.int .i64 k1) ∧ w'.cell? ⟨FB, 1, none⟩ = some (.slice ka nk kc))) := fun Wx h => by
        refine (sd_list h.out BDk.out).mono ?_
        rintro e w' ⟨u, rfl, hu, hr⟩
        exact ⟨u, rfl, hu, hr, CEL.out w' hr⟩
      have CM9 : Hid (∀ Wx, Hid (Std g q [.slice ra0 rn0 rc0, .slice ra1 rn1 rc1, .slice ra2 rn2 rc2, .slice ra3 rn3 rc3, .slice ra4 rn4 rc4, .int .i64 s'.room, .slice ra6 rn6 rc6, .int .i64 s'.power, .int .i64 (s'.n : Int)] (.agg #[.slice ra0 rn0 rc0, .slice ra1 rn1 rc1, .slice ra2 rn2 rc2, .slice ra3 rn3 rc3, .slice ra4 rn4 rc4, .int .i64 s'.room, .slice ra6 rn6 rc6, .int .i64 s'.power, .int .i64 (s'.n : Int)]) s' w1 Wx) → Calls Try.prog 18 #[.agg #[.slice ra0 rn0 rc0, .slice ra1 rn1 rc1, .slice ra2 rn2 rc2, .slice ra3 rn3 rc3, .slice ra4 rn4 rc4, .int .i64 s'.room, .slice ra6 rn6 rc6, .int .i64 s'.power, .int .i64 (s'.n : Int)]] Wx fun e w' => ∃ u, e = .returned u ∧ Hid (Holds w' u s'.list ∧ Below Wx.heap.size Wx w') ∧ Hid (Std g q [.slice ra0 rn0 rc0, .slice ra1 rn1 rc1, .slice ra2 rn2 rc2, .slice ra3 rn3 rc3, .slice ra4 rn4 rc4, .int .i64 s'.room, .slice ra6 rn6 rc6, .int .i64 s'.power, .int .i64 (s'.n : Int)] (.agg #[.slice ra0 rn0 rc0, .slice ra1 rn1 rc1, .slice ra2 rn2 rc2, .slice ra3 rn3 rc3, .slice ra4 rn4 rc4, .int .i64 s'.room, .slice ra6 rn6 rc6, .int .i64 s'.power, .int .i64 (s'.n : Int)]) s' w1 w') ∧ (w'.cell? ⟨q, 0, none⟩ = some (.slice ra0 rn0 rc0) ∧ w'.cell? ⟨q, 1, none⟩ = some (.slice ra1 rn1 rc1) ∧ w'.cell? ⟨q, 2, none⟩ = some (.slice ra2 rn2 rc2) ∧ w'.cell? ⟨q, 3, none⟩ = some (.slice ra3 rn3 rc3) ∧ w'.cell? ⟨q, 4, none⟩ = some (.slice ra4 rn4 rc4) ∧ w'.cell? ⟨q, 5, none⟩ = some (.int .i64 s'.room) ∧ w'.cell? ⟨q, 6, none⟩ = some (.slice ra6 rn6 rc6) ∧ w'.cell? ⟨q, 7, none⟩ = some (.int .i64 s'.power) ∧ w'.cell? ⟨q, 8, none⟩ = some (.int .i64 (s'.n : Int))) ∧ (w'.cell? ⟨FB, 0, none⟩ = some (.int .i64 k1) ∧ w'.cell? ⟨FB, 1, none⟩ = some (.slice ka nk kc))) := fun Wx h => by
        refine (sd_listR h.out BDk.out).mono ?_
        rintro e w' ⟨u, rfl, hu, hr⟩
        exact ⟨u, rfl, hu, hr, CEL.out w' hr⟩
      have CQ9 : Hid (∀ Wx a b, Holds Wx a s'.list → Holds Wx b s'.list → Hid (Std g q [.slice ra0 rn0 rc0, .slice ra1 rn1 rc1, .slice ra2 rn2 rc2, .slice ra3 rn3 rc3, .slice ra4 rn4 rc4, .int .i64 s'.room, .slice ra6 rn6 rc6, .int .i64 s'.power, .int .i64 (s'.n : Int)] (.agg #[.slice ra0 rn0 rc0, .slice ra1 rn1 rc1, .slice ra2 rn2 rc2, .slice ra3 rn3 rc3, .slice ra4 rn4 rc4, .int .i64 s'.room, .slice ra6 rn6 rc6, .int .i64 s'.power, .int .i64 (s'.n : Int)]) s' w1 Wx) → Calls Try.prog 16 #[a, b] Wx fun e w' => e = .returned (.bool true) ∧ Hid (Std g q [.slice ra0 rn0 rc0, .slice ra1 rn1 rc1, .slice ra2 rn2 rc2, .slice ra3 rn3 rc3, .slice ra4 rn4 rc4, .int .i64 s'.room, .slice ra6 rn6 rc6, .int .i64 s'.power, .int .i64 (s'.n : Int)] (.agg #[.slice ra0 rn0 rc0, .slice ra1 rn1 rc1, .slice ra2 rn2 rc2, .slice ra3 rn3 rc3, .slice ra4 rn4 rc4, .int .i64 s'.room, .slice ra6 rn6 rc6, .int .i64 s'.power, .int .i64 (s'.n : Int)]) s' w1 w') ∧ (w'.cell? ⟨q, 0, none⟩ = some (.slice ra0 rn0 rc0) ∧ w'.cell? ⟨q, 1, none⟩ = some (.slice ra1 rn1 rc1) ∧ w'.cell? ⟨q, 2, none⟩ = some (.slice ra2 rn2 rc2) ∧ w'.cell? ⟨q, 3, none⟩ = some (.slice ra3 rn3 rc3) ∧ w'.cell? ⟨q, 4, none⟩ = some (.slice ra4 rn4 rc4) ∧ w'.cell? ⟨q, 5, none⟩ = some (.int .i64 s'.room) ∧ w'.cell? ⟨q, 6, none⟩ = some (.slice ra6 rn6 rc6) ∧ w'.cell? ⟨q, 7, none⟩ = some (.int .i64 s'.power) ∧ w'.cell? ⟨q, 8, none⟩ = some (.int .i64 (s'.n : Int))) ∧ (w'.cell? ⟨FB, 0, none⟩ = some (.int .i64 k1) ∧ w'.cell? ⟨FB, 1, none⟩ = some (.slice ka nk kc))) := fun Wx a b ha hb h => by
        refine (sd_sameT h.out BDk.out a b ha hb).mono ?_
        rintro e w' ⟨rfl, hr⟩
        exact ⟨rfl, hr, CEL.out w' hr⟩
      obtain ⟨⟨kq0, kq1, kq2, kq3, kq4, kq5, kq6, kq7, kq8⟩, ⟨m0, m1⟩⟩ := CEL.out _ RX.out
      go_wp2_with fail
      go_region_held3 (fun w' => w'.cell? ⟨q, 0, none⟩ = some (.slice ra0 rn0 rc0) ∧ w'.cell? ⟨q, 1, none⟩ = some (.slice ra1 rn1 rc1) ∧ w'.cell? ⟨q, 2, none⟩ = some (.slice ra2 rn2 rc2) ∧ w'.cell? ⟨q, 3, none⟩ = some (.slice ra3 rn3 rc3) ∧ w'.cell? ⟨q, 4, none⟩ = some (.slice ra4 rn4 rc4) ∧ w'.cell? ⟨q, 5, none⟩ = some (.int .i64 s'.room) ∧ w'.cell? ⟨q, 6, none⟩ = some (.slice ra6 rn6 rc6) ∧ w'.cell? ⟨q, 7, none⟩ = some (.int .i64 s'.power) ∧ w'.cell? ⟨q, 8, none⟩ = some (.int .i64 (s'.n : Int)) ∧ w'.cell? ⟨FB, 0, none⟩ = some (.int .i64 k1) ∧ w'.cell? ⟨FB, 1, none⟩ = some (.slice ka nk kc)) (go_keep)
        (first
          | (go_at_call_of 13 (Value.agg #[Value.int .i64 0, Value.slice none 0 0]); refine (CL0.out _ HC4).mono ?_; rintro e wF ⟨u3, rfl, HU3, HC5, ⟨⟨kq0, kq1, kq2, kq3, kq4, kq5, kq6, kq7, kq8⟩, ⟨m0, m1⟩⟩⟩)
          | (go_at_call_of 15 (Value.agg #[Value.int .i64 0, Value.slice none 0 0]); refine (CM0.out _ HC5).mono ?_; rintro e wG ⟨u4, rfl, HU4, HC6, ⟨⟨kq0, kq1, kq2, kq3, kq4, kq5, kq6, kq7, kq8⟩, ⟨m0, m1⟩⟩⟩)
          | (go_at_call_of 12 (u4); refine (CQ0.out _ _ _ (holdsFi_mono HU3.out HU4.out.2) HU4.out.1 HC6).mono ?_; rintro e wH ⟨rfl, HC7, ⟨⟨kq0, kq1, kq2, kq3, kq4, kq5, kq6, kq7, kq8⟩, ⟨m0, m1⟩⟩⟩)
          | (go_at_call 17; refine (CL9.out _ HC7).mono ?_; rintro e wI ⟨u5, rfl, HU5, HC8, ⟨⟨kq0, kq1, kq2, kq3, kq4, kq5, kq6, kq7, kq8⟩, ⟨m0, m1⟩⟩⟩)
          | (go_at_call 18; refine (CM9.out _ HC8).mono ?_; rintro e wJ ⟨u6, rfl, HU6, HC9, ⟨⟨kq0, kq1, kq2, kq3, kq4, kq5, kq6, kq7, kq8⟩, ⟨m0, m1⟩⟩⟩)
          | (go_at_call 16; refine (CQ9.out _ _ _ (holds_mono HU5.out HU6.out.2) HU6.out.1 HC9).mono ?_; rintro e wK ⟨rfl, HC10, ⟨⟨kq0, kq1, kq2, kq3, kq4, kq5, kq6, kq7, kq8⟩, ⟨m0, m1⟩⟩⟩)
          | (go_at_call 14; refine (CF.out _ ?_).mono ?_; (first | exact RX | exact hide' (sd_below RX.out (Below.refl _ _).drew)); rintro e wB ⟨fu, rfl, HI1, HC1, ⟨⟨kq0, kq1, kq2, kq3, kq4, kq5, kq6, kq7, kq8⟩, ⟨m0, m1⟩⟩⟩)
          | (go_at_call_of 13 (Value.agg #[Value.int .i64 k1, fu]); refine (CL.out _ _ HI1 HC1).mono ?_; rintro e wC ⟨u1, rfl, HU1, HC2, ⟨⟨kq0, kq1, kq2, kq3, kq4, kq5, kq6, kq7, kq8⟩, ⟨m0, m1⟩⟩⟩)
          | (go_at_call_of 15 (Value.agg #[Value.int .i64 k1, .slice ka nk kc]); refine (CM.out _ HC2).mono ?_; rintro e wD ⟨u2, rfl, HU2, HC3, ⟨⟨kq0, kq1, kq2, kq3, kq4, kq5, kq6, kq7, kq8⟩, ⟨m0, m1⟩⟩⟩)
          | (go_at_call_of 12 (u2); refine (CQ.out _ _ _ (holdsFi_mono HU1.out HU2.out.2) HU2.out.1 HC3).mono ?_; rintro e wE ⟨rfl, HC4, ⟨⟨kq0, kq1, kq2, kq3, kq4, kq5, kq6, kq7, kq8⟩, ⟨m0, m1⟩⟩⟩))
      all_goals
        have NB := hide' (BW.out.trans ((sd_bel HC10.out).mono BW.out.size))
        go_wp2_with fail
        go_ret
        exact ⟨rfl, NB.out⟩
end Go.Proofs.Ytflmmdgkfboobaa
namespace Go.Proofs.Ytflmmdgkfboobaa
open Go.ChangeShapes Go.WideShapes Go.ChangeAt Go.RowKit
theorem num_wf {n : Int} (h : (Lit.int .i64 n).wf = true) : -9223372036854775808 ≤ n ∧ n ≤ 9223372036854775807 := i64_wf h
set_option maxRecDepth 100000 in
theorem open_start {H : Type} {enc : TypeId × Value → H} {W : World} {base : Nat} {v : Value} {d : DataW H} {p : List MemPlace} (hok : Value.okWide Try.prog W .any base 25 v) (h : DataW.Trod enc Try.prog W 0 (fun _ => true) true 25 v d p) :
    ∃ (fv : Value) (fs : FL) (room : Int) (zv : Value) (zs : List Int) (power : Int), v = .agg #[fv, .int .i64 room, zv, .int .i64 power] ∧ HoldsFi W fv fs ∧ HoldsI W zv zs ∧ bulkF fs + zs.length + 4 ≤ Rows.uptoBulk d ∧ (-9223372036854775808 ≤ room ∧ room ≤ 9223372036854775807) ∧ (-9223372036854775808 ≤ power ∧ power ≤ 9223372036854775807) ∧ ∀ z ∈ zs, -9223372036854775808 ≤ z ∧ z ≤ 9223372036854775807 := by
  obtain ⟨v0, v1, v2, v3, y0, y1, y2, y3, n, rfl, rfl, _, h0, h1, h2, h3⟩ := Joins.open_agg4 Try.underlying25 (by kernel_rfl) (by kernel_rfl) hok h
  obtain ⟨a, l, c, e0⟩ := Joins.slice_form Try.underlying22 h0
  obtain ⟨k, e1, x1, wf1⟩ := DataW.trod_int Try.underlying3 h1
  obtain ⟨a2, l2, c2, e2⟩ := Joins.slice_form Try.underlying23 h2
  obtain ⟨k3, e3, x3, wf3⟩ := DataW.trod_int Try.underlying3 h3
  simp only [List.cons.injEq, and_true] at e0 e1 e2 e3
  subst e0 e1 e2 e3 x1 x3
  obtain ⟨fs, hF, hb⟩ := open_files Try.underlying22 Try.underlying59 (by kernel_rfl) rfl rfl rfl rfl ⟨a, l, c, rfl⟩ (⟨n, h0⟩ : DataW.Trod enc Try.prog W 0 (fun _ => true) true 22 (.slice a l c) y0.1 y0.2)
  obtain ⟨zs, hZ, hzb, hzr⟩ := open_numsS ⟨a2, l2, c2, rfl⟩ (⟨n, h2⟩ : DataW.Trod enc Try.prog W 0 (fun _ => true) true 23 (.slice a2 l2 c2) y2.1 y2.2)
  refine ⟨_, fs, k, _, zs, k3, rfl, hF, hZ, ?_, num_wf wf1, num_wf wf3, hzr⟩
  simp only [Rows.uptoBulk, Rows.uptoBulkAll]
  omega
set_option maxRecDepth 100000 in
theorem open_fate {H : Type} {enc : TypeId × Value → H} {W : World} {base : Nat} {v : Value} {d : DataW H} {p : List MemPlace} (hok : Value.okWide Try.prog W .any base 28 v) (h : DataW.Trod enc Try.prog W 0 (fun _ => true) true 28 v d p) :
    ∃ (k : Int) (kv : Value) (zs : List Int), v = .agg #[.int .i64 k, kv] ∧ HoldsI W kv zs ∧ zs.length + 2 ≤ Rows.uptoBulk d ∧ (-9223372036854775808 ≤ k ∧ k ≤ 9223372036854775807) ∧ ∀ z ∈ zs, -9223372036854775808 ≤ z ∧ z ≤ 9223372036854775807 := by
  obtain ⟨v0, v1, y0, y1, n, rfl, rfl, _, h0, h1⟩ := Joins.open_agg2 Try.underlying28 (by kernel_rfl) (by kernel_rfl) hok h
  obtain ⟨k, e0, x0, wf0⟩ := DataW.trod_int Try.underlying3 h0
  obtain ⟨a, l, c, e1⟩ := Joins.slice_form Try.underlying23 h1
  simp only [List.cons.injEq, and_true] at e0 e1
  subst e0 e1 x0
  obtain ⟨zs, hZ, hzb, hzr⟩ := open_numsS ⟨a, l, c, rfl⟩ (⟨n, h1⟩ : DataW.Trod enc Try.prog W 0 (fun _ => true) true 23 (.slice a l c) y1.1 y1.2)
  refine ⟨k, _, zs, rfl, hZ, ?_, num_wf wf0, hzr⟩
  simp only [Rows.uptoBulk, Rows.uptoBulkAll]
  omega
set_option maxRecDepth 100000 in
theorem open_script {H : Type} {enc : TypeId × Value → H} {W : World} {base : Nat} {v : Value} {d : DataW H} {p : List MemPlace} (hok : Value.okWide Try.prog W .any base 26 v) (h : DataW.Trod enc Try.prog W 0 (fun _ => true) true 26 v d p) :
    ∃ os : List OpT, HoldsO W v os ∧ bulkO os + 1 ≤ Rows.uptoBulk d ∧ ∀ o ∈ os, -9223372036854775808 ≤ o.1 ∧ o.1 ≤ 9223372036854775807 :=
  open_ops Try.underlying26 Try.underlying44 (by kernel_rfl) rfl rfl rfl rfl rfl rfl rfl rfl (okWide_slice Try.underlying26 hok) h
end Go.Proofs.Ytflmmdgkfboobaa
namespace Go.Proofs.Ytflmmdgkfboobaa.diskLefts
open Go.ChangeShapes Go.WideShapes Go.ChangeAt Go.RowKit
open Go.ChangeMaps (open_string shut_string)

theorem own : ownKnob Try.prog.godebug = none := by kernel_rfl
set_option maxRecDepth 100000 in
theorem contract (H : Type) (enc : TypeId × Value → H) (W : World) (base : Nat) (args : Array Value) (ds gs : List (DataW H)) (before : List MemPlace)
    (hval : ∀ (j : Nat) t v, Try.f3.params[j]? = some t → args[j]? = some v → Value.okWide Try.prog W .any base t v)
    (hW : DataW.Whole enc Try.prog Try.f3.params.toList Rows.diskLeftsSpec.vars false W args.toList ds gs before) (hk0 : Rows.uptoSmall H (ds ++ gs) = true) :
    Calls Try.prog 3 args W fun e W' => ∃ v, e = .returned v ∧ Rows.diskLeftsSpec.post enc Try.prog Try.f3 false true false false W args v W' := by
  have hW' := hW
  obtain ⟨p, q, hA0, hV, rfl, hfz, hnd⟩ := hW
  have hA : DataW.TrodAll enc Try.prog W 0 (fun _ => true) true Try.f3.params.toList args.toList ds p := hA0
  rw [Try.params3] at hA hval
  obtain ⟨v0, vs0, d0, ds0, p0, q0, hargs, rfl, rfl, h0, r0⟩ := trodAll_cons hA
  obtain ⟨v1, vs1, d1, ds1, p1, q1, rfl, rfl, rfl, h1, r1⟩ := trodAll_cons r0
  obtain ⟨v2, vs2, d2, ds2, p2, q2, rfl, rfl, rfl, h2, r2⟩ := trodAll_cons r1
  obtain ⟨rfl, rfl, rfl⟩ := trodAll_nil r2
  obtain rfl : args = #[v0, v1, v2] := by cases args; simp_all
  obtain ⟨rfl, rfl⟩ := trodVars_none hV
  have hk := of_decide_eq_true hk0
  simp only [List.append_nil, Rows.uptoBulkAll] at hk
  have lt0 : ∀ x ∈ p0, x.block < W.heap.size := by obtain ⟨m, hm⟩ := h0; exact DataW.trod_lt m _ _ _ hm
  obtain ⟨fv0, fs0, rm0, zv0, zs0, pw0, rfl, H0, G0, K0, w0, x0, z0⟩ := open_start (hval 0 25 v0 rfl rfl) h0
  have lt1 : ∀ x ∈ p1, x.block < W.heap.size := by obtain ⟨m, hm⟩ := h1; exact DataW.trod_lt m _ _ _ hm
  obtain ⟨os1, H1, K1, w1⟩ := open_script (hval 1 26 v1 rfl rfl) h1
  have lt2 : ∀ x ∈ p2, x.block < W.heap.size := by obtain ⟨m, hm⟩ := h2; exact DataW.trod_lt m _ _ _ hm
  obtain ⟨k2, kv2, zs2, rfl, H2, K2, w2, z2⟩ := open_fate (hval 2 28 v2 rfl rfl) h2
  clear hA0
  refine (leftsLC rm0 pw0 k2 H0 G0 H1 H2 (by omega) (by omega) (by omega) (by omega) z0 z2 w2).mono fun e W' ⟨he, bel⟩ => ?_
  subst he
  exact ⟨_, rfl, _, _, _, [], _, [], hW', trodAll_mk1 (shut_bool Try.underlying4 _), (trodAll_cons_mk (Below.trod laidOut (by kernel_rfl) (of_decide_eq_true (by kernel_rfl)) h0 bel lt0) (trodAll_cons_mk (Below.trod laidOut (by kernel_rfl) (of_decide_eq_true (by kernel_rfl)) h1 bel lt1) (trodAll_cons_mk (Below.trod laidOut (by kernel_rfl) (of_decide_eq_true (by kernel_rfl)) h2 bel lt2) trodAll_mk0))), rfl, bel.frame _, fun h => by cases h⟩

/-- a world whose listed variables hold what their text lays -/
def laying (w : World) : World :=
  { w with heap := w.heap }
theorem laid_met (os : Os) : laidMet Try.prog Rows.diskLeftsUptoRow.laid ((laying (World.holding Try.prog os ⟨#[], #[], []⟩)).forCall (fun _ _ => 0) ⟨#[], #[.agg #[.slice none 0 0, .int .i64 0, .slice none 0 0, .int .i64 0], .slice none 0 0, .agg #[.int .i64 0, .slice none 0 0]], []⟩).memory :=
  laidMet_of_run' 8 (by kernel_rfl) (by kernel_rfl)
theorem reads (os : Os) {H : Type} (enc : TypeId × Value → H) : ∃ places, DataW.whole enc Try.prog ((laying (World.holding Try.prog os ⟨#[], #[], []⟩)).forCall (fun _ _ => 0) ⟨#[], #[.agg #[.slice none 0 0, .int .i64 0, .slice none 0 0, .int .i64 0], .slice none 0 0, .agg #[.int .i64 0, .slice none 0 0]], []⟩).memory Try.f3.params.toList Rows.diskLeftsSpec.vars false #[Value.agg #[.slice none 0 0, .int .i64 0, .slice none 0 0, .int .i64 0], Value.slice none 0 0, Value.agg #[.int .i64 0, .slice none 0 0]].toList 8 = some ([.agg [.nil, .lit (.int .i64 0), .nil, .lit (.int .i64 0)], .nil, .agg [.lit (.int .i64 0), .nil]], [], places) :=
  ⟨[], by kernel_rfl⟩

set_option maxRecDepth 100000 in
theorem lifted (os : Os) (started : os.Started) (H : Type) (enc : TypeId × Value → H) (F : Stop.Interp) :
    ReturnsInHanded {} Try.checked os 3 .any ((Rows.OpenSpec.upto Rows.diskLeftsSpec).preRow enc Try.prog Try.f3 Rows.diskLeftsUptoRow.domain false Rows.diskLeftsUptoRow.laid) (((Rows.OpenSpec.upto Rows.diskLeftsSpec).at F).post enc Try.prog Try.f3 false true false false) := by
  obtain ⟨places, hx⟩ := reads os enc
  refine returnsInHanded_of_row (C := Try.checked) (s := Rows.OpenSpec.upto Rows.diskLeftsSpec) own started (by kernel_rfl) Try.func3
    (witness_row_at (enc := enc) (C := Try.checked) false (laying (World.holding Try.prog os ⟨#[], #[], []⟩)) #[.agg #[.slice none 0 0, .int .i64 0, .slice none 0 0, .int .i64 0], .slice none 0 0, .agg #[.int .i64 0, .slice none 0 0]] rfl (by kernel_rfl) (by kernel_rfl) (by kernel_rfl)
      (OpenSpec.preRow_of_cond 8 hx (by kernel_rfl) (fun k hk => by cases hk; kernel_rfl) (by kernel_rfl) (laid_met os))) ?_
  intro W base args ds gs before hval hW _ hcond _ _ _ _
  exact contract H enc W base args ds gs before hval hW (hcond _ rfl)

theorem said : Rows.DiskLeftsUptoSaid :=
  OpenClaim.holds_of_cond 3 Try.f3 rfl rfl rfl rfl rfl rfl rfl ⟨rfl, rfl, rfl, rfl, rfl⟩ rfl rfl rfl rfl rfl (by kernel_rfl) Try.func3 (by kernel_rfl)
    (of_decide_eq_true (by kernel_rfl)) (by unfold Func.isWrapper; first | (rw [if_pos (by decide +kernel)]; kernel_rfl) | (rw [if_neg (by decide +kernel)]; exact ⟨rfl, rfl⟩))
    (fun os started H enc _ F => by rw [OpenClaim.pre_eq_preRow]; exact lifted os started H enc F)
end Go.Proofs.Ytflmmdgkfboobaa.diskLefts
namespace Go.Proofs.Ytflmmdgkfboobaa
theorem diskLefts_holds : Rows.DiskLeftsUptoSaid := diskLefts.said
#print axioms diskLefts_holds
end Go.Proofs.Ytflmmdgkfboobaa
