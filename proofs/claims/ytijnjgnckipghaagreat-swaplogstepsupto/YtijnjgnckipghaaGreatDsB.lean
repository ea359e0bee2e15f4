/- The calls of both disks, side by side, as the laws make them. -/
import Derived.Test.YtijnjgnckipghaaGreatDsA
import Derived.Test.YtijnjgnckipghaaGreatBdG
namespace Go.Proofs.YtijnjgnckipghaaGreat
open Go.RowKit
theorem no_mask (W : World) : Sub W (mask (fun _ => False) W) := ⟨by rw [mask_size]; exact Nat.le_refl _, fun a v h => by rw [mask_cell (S := fun _ => False) W (a := a) (fun e => e)]; exact h⟩
theorem agg9_inj {x0 x1 x2 x3 x4 x5 x6 x7 x8 y0 y1 y2 y3 y4 y5 y6 y7 y8 : Value} (h : Value.agg #[x0, x1, x2, x3, x4, x5, x6, x7, x8] = Value.agg #[y0, y1, y2, y3, y4, y5, y6, y7, y8]) : x0 = y0 ∧ x1 = y1 ∧ x2 = y2 ∧ x3 = y3 ∧ x4 = y4 ∧ x5 = y5 ∧ x6 = y6 ∧ x7 = y7 ∧ x8 = y8 := by
  simpa using h
section
variable {g q p : Nat} {vs cs : List Value} {v : Value} {s t : Dk} {w1 W : World}
theorem rg_steps (h : Reg g q p vs cs v s t w1 W) : Calls Tryz.prog 19 #[.pointer (some ⟨g, 0, none⟩)] W fun e W' => e = .returned (.int .i64 (s.n : Int)) ∧ Reg g q p vs cs v s t w1 W' := by
  obtain ⟨o, h1, h2⟩ := h
  refine (stepsC h1.liv.dsk).mono ?_
  rintro e W' ⟨rfl, rfl⟩
  exact ⟨rfl, o, h1, h2⟩
theorem rg_down (h : Reg g q p vs cs v s t w1 W) : Calls Tryz.prog 67 #[.pointer (some ⟨g, 0, none⟩)] W fun e W' => e = .returned (.bool s.down) ∧ Reg g q p vs cs v s t w1 W' := by
  have h0 := h
  obtain ⟨o, h1, h2⟩ := h
  refine (downC h1.liv.dsk).mono ?_
  rintro e W' ⟨rfl, n, rfl⟩
  exact ⟨rfl, reg_below h0 (below_drewN _ _)⟩
theorem rg_downR (h : Reg g q p vs cs v s t w1 W) : Calls Tryz.prog 62 #[v] W fun e W' => e = .returned (.bool t.down) ∧ Reg g q p vs cs v s t w1 W' := by
  have h0 := h
  obtain ⟨o, h1, h2⟩ := h
  refine (downRC (two_refS h1)).mono ?_
  rintro e W' ⟨rfl, hb⟩
  exact ⟨rfl, reg_below h0 hb⟩
theorem rg_used (h : Reg g q p vs cs v s t w1 W) (hB : Bd 1000000000 s) : Calls Tryz.prog 20 #[.pointer (some ⟨g, 0, none⟩)] W fun e W' => e = .returned (.int .i64 (s.used : Int)) ∧ Reg g q p vs cs v s t w1 W' := by
  have h0 := h
  obtain ⟨o, h1, h2⟩ := h
  refine (usedC h1.liv.dsk hB).mono ?_
  rintro e W' ⟨rfl, hb⟩
  exact ⟨rfl, reg_below h0 hb⟩
theorem rg_usedR (h : Reg g q p vs cs v s t w1 W) (hw : Wf t) (hl : t.now.length ≤ 1000000000) (hu : t.used ≤ 1000000000000000000) : Calls Tryz.prog 33 #[v] W fun e W' => e = .returned (.int .i64 (t.used : Int)) ∧ Reg g q p vs cs v s t w1 W' := by
  have h0 := h
  obtain ⟨o, h1, h2⟩ := h
  refine (usedRC (two_refS h1) hw hl hu).mono ?_
  rintro e W' ⟨rfl, hb⟩
  exact ⟨rfl, reg_below h0 hb⟩
theorem rg_list (h : Reg g q p vs cs v s t w1 W) (hB : Bd 1000000000 s) : Calls Tryz.prog 35 #[.pointer (some ⟨g, 0, none⟩)] W fun e W' => ∃ u, e = .returned u ∧ (Holds W' u s.list ∧ Below W.heap.size W W') ∧ Reg g q p vs cs v s t w1 W' := by
  have h0 := h
  obtain ⟨o, h1, h2⟩ := h
  refine (listC h1.liv.dsk hB).mono ?_
  rintro e W' ⟨u, rfl, ho⟩
  exact ⟨u, rfl, ⟨holds_own ho, ho.2⟩, reg_below h0 ho.2⟩
theorem rg_listR (h : Reg g q p vs cs v s t w1 W) (hl : t.now.length ≤ 1000000000) : Calls Tryz.prog 28 #[v] W fun e W' => ∃ u, e = .returned u ∧ (Holds W' u t.list ∧ Below W.heap.size W W') ∧ Reg g q p vs cs v s t w1 W' := by
  have h0 := h
  obtain ⟨o, h1, h2⟩ := h
  refine (listRC (two_refS h1) hl).mono ?_
  rintro e W' ⟨u, rfl, ho, hb⟩
  exact ⟨u, rfl, ⟨ho, hb⟩, reg_below h0 hb⟩
theorem rg_same (h : Reg g q p vs cs v s t w1 W) (ua ub : Value) (L : List (List UInt8)) (ha : Holds W ua L) (hb : Holds W ub L) (hl : L.length ≤ 1000000000000000) : Calls Tryz.prog 34 #[ua, ub] W fun e W' => e = .returned (.bool true) ∧ Reg g q p vs cs v s t w1 W' := by
  refine (sameTe ua ub L W ha hb hl).mono ?_
  rintro e W' ⟨rfl, hb⟩
  exact ⟨rfl, reg_below h hb⟩
end
theorem reg_cells {g q p : Nat} {v0 v1 v2 v3 v4 v5 v6 v7 v8 u0 u1 u2 u3 v : Value} {s t : Dk} {w1 W : World} (h : Reg g q p [v0, v1, v2, v3, v4, v5, v6, v7, v8] [u0, u1, u2, u3] v s t w1 W) :
    (W.cell? ⟨q, 0, none⟩ = some v0 ∧ W.cell? ⟨q, 1, none⟩ = some v1 ∧ W.cell? ⟨q, 2, none⟩ = some v2 ∧ W.cell? ⟨q, 3, none⟩ = some v3 ∧ W.cell? ⟨q, 4, none⟩ = some v4 ∧ W.cell? ⟨q, 5, none⟩ = some v5 ∧ W.cell? ⟨q, 6, none⟩ = some v6 ∧ W.cell? ⟨q, 7, none⟩ = some v7 ∧ W.cell? ⟨q, 8, none⟩ = some v8) ∧ (W.cell? ⟨p, 0, none⟩ = some u0 ∧ W.cell? ⟨p, 1, none⟩ = some u1 ∧ W.cell? ⟨p, 2, none⟩ = some u2 ∧ W.cell? ⟨p, 3, none⟩ = some u3) := by
  obtain ⟨o, h1, h2⟩ := h
  exact ⟨cells_9 h1.kp.blk, (cells_4 h2.blk).1⟩
theorem act_fails (s : Dk) (o : DOp) (k : Nat) : (s.act o k).1.fails = s.fails := by
  unfold Dk.act Dk.named
  repeat' split
  all_goals rfl
theorem step_fails (s : Dk) (o : DOp) : (s.step o).1.fails = s.fails := by
  unfold Dk.step
  repeat' split
  all_goals first | rfl | exact act_fails _ _ _
theorem run_fails : ∀ (os : List OpT) (s : Dk), (runD s os).fails = s.fails := by
  intro os
  induction os with
  | nil => intro s; rfl
  | cons o r ih =>
    intro s
    show (runD (s.step (dop o)).1 r).fails = s.fails
    rw [ih, step_fails]
theorem kp_put {o : Ow} {w1 W : World} {p q : Nat} {cs : List Value} (h : Kp o w1 p cs W) (hne : p ≠ q) (us : List Value) : Kp o w1 p cs (putFrom q 0 W us) := by
  have go : ∀ (us : List Value) (k : Nat) (W : World), Blk p W cs → Blk p (putFrom q k W us) cs := by
    intro us
    induction us with
    | nil => intro k W h; exact h
    | cons u r ih => intro k W h; exact ih (k + 1) _ (cells_other h hne u)
  exact ⟨h.out, h.lo, go us 0 W h.blk⟩
theorem step_dop (s : Dk) (op : OpT) : s.step ⟨meant op.1, (⟨op.2.1.toArray⟩ : ByteArray).data.toList, (⟨op.2.2.1.toArray⟩ : ByteArray).data.toList, op.2.2.2⟩ = s.step (dop op) := by simp [dop]
theorem list_lenB {s : Dk} {m : Nat} (h : Bd m s) : s.list.length ≤ m := by
  unfold Dk.list
  split
  · exact Nat.zero_le _
  · rw [List.length_map]; exact h.2.2.1
theorem used_bdM {s : Dk} (h : Bd 3000000 s) : s.used ≤ 1000000000000000000 := by
  have h1 := h.2.2.1
  have h2 := h.2.2.2.2.2
  have key : ∀ l : NL, (l.map (fun p => (s.data.getD p.2 []).length)).sum ≤ l.length * 3000000 := by
    intro l
    induction l with
    | nil => simp
    | cons x r ih => simp only [List.map_cons, List.sum_cons, List.length_cons]; have := h2 x.2; omega
  have := key s.now
  unfold Dk.used
  omega
theorem read_lenB {s : Dk} (h : Bd 3000000 s) (nm : Nm) : (s.read nm).1.length ≤ 1000000000000000 := by
  unfold Dk.read
  split
  · simp
  · split
    · simp
    · split
      · simp
      · have := h.2.2.2.2.2; rename_i k _; have := this k; simp only; omega
/-- both disks are s -/
def Sid (g q : Nat) (s : Dk) (w1 W : World) : Prop := ∃ o, ∃ x0 x1 x2 x3 x4 x6 : Sl, Two o g q [.slice x0.a x0.n x0.c, .slice x1.a x1.n x1.c, .slice x2.a x2.n x2.c, .slice x3.a x3.n x3.c, .slice x4.a x4.n x4.c, .int .i64 s.room, .slice x6.a x6.n x6.c, .int .i64 s.power, .int .i64 (s.n : Int)] (.agg #[.slice x0.a x0.n x0.c, .slice x1.a x1.n x1.c, .slice x2.a x2.n x2.c, .slice x3.a x3.n x3.c, .slice x4.a x4.n x4.c, .int .i64 s.room, .slice x6.a x6.n x6.c, .int .i64 s.power, .int .i64 (s.n : Int)]) s s w1 W
end Go.Proofs.YtijnjgnckipghaaGreat
