/- A list of records that came in: what the reading says of it. -/
import Derived.Test.YtijnjgnckipghaaGreatBw11
import Derived.Test.YtijnjgnckipghaaGreatRcO
import Derived.Deep.Slices
import Derived.Lib.SmallJoins
namespace Go.Proofs.YtijnjgnckipghaaGreat
open Go.ChangeShapes Go.WideShapes Go.ChangeAt Go.RowKit
def bulkQ : RL → Nat
  | [] => 0
  | o :: r => o.2.2.2.length + 4 + bulkQ r
theorem bulkQ_len (rs : RL) : rs.length * 4 ≤ bulkQ rs := by
  induction rs with
  | nil => exact Nat.zero_le _
  | cons r rs ih => simp only [List.length_cons, bulkQ]; omega
theorem bulkQ_id (rs : RL) : ∀ r ∈ rs, r.2.2.2.length ≤ bulkQ rs := by
  induction rs with
  | nil => intro r h; cases h
  | cons q rs ih =>
    intro r h
    simp only [bulkQ]
    rcases List.mem_cons.1 h with rfl | h
    · omega
    · have := ih r h; omega
theorem bulk_recs {H : Type} (f : Nat → Rc) (g : Nat → DataW H) : ∀ (ks : List Nat), (∀ k ∈ ks, (f k).2.2.2.length + 4 ≤ Rows.uptoBulk (g k)) → bulkQ (ks.map f) ≤ Rows.uptoBulkAll (ks.map g) := by
  intro ks
  induction ks with
  | nil => intro _; exact Nat.zero_le _
  | cons k r ih =>
    intro h
    have h1 := h k (by simp)
    have h2 := ih (fun k hk => h k (by simp [hk]))
    show (f k).2.2.2.length + 4 + bulkQ (r.map f) ≤ Rows.uptoBulk (g k) + Rows.uptoBulkAll (r.map g)
    omega
set_option maxRecDepth 100000 in
theorem open_recs0 {H : Type} {enc : TypeId × Value → H} {W : World} {v : Value} {d : DataW H} {p : List MemPlace} {t e : TypeId} {f0 f1 f2 f3 : Field} (ht : Tryz.prog.underlying t = some (.slice e)) (he : Tryz.prog.underlying e = some (.struct #[f0, f1, f2, f3])) (ce : Tryz.prog.cellsOf e = 4) (o0 : f0.offset = 0) (o1 : f1.offset = 1) (o2 : f2.offset = 2) (o3 : f3.offset = 3) (e0 : f0.type = 3) (e1 : f1.type = 3) (e2 : f2.type = 3) (e3 : f3.type = 9)
    (hform : ∃ a l c, v = .slice a l c) (h : DataW.Trod enc Tryz.prog W 0 (fun _ => true) true t v d p) : ∃ rs : RL, HoldsR W v rs ∧ bulkQ rs + 1 ≤ Rows.uptoBulk d := by
  have k0 : Tryz.prog.cellsOf 3 = 1 := by kernel_rfl
  have k1 : Tryz.prog.cellsOf 9 = 1 := by kernel_rfl
  obtain ⟨a0, len0, cap0, rfl⟩ := hform
  obtain ⟨fuel, hf⟩ := h
  rcases Go.Deep.open_slice ht hf with ⟨hcs, hx⟩ | ⟨a, len, cap, m, n, D, Pl, hcs, _, hl, hm, hmm, hx, hcell⟩
  · simp [Value.cells] at hcs
    obtain ⟨rfl, rfl, rfl⟩ := hcs
    simp only [Prod.mk.injEq] at hx
    obtain ⟨rfl, _⟩ := hx
    exact ⟨[], holdsR_nil W, by simp [bulkQ, Rows.uptoBulk]⟩
  · simp [Value.cells] at hcs
    obtain ⟨rfl, rfl, rfl⟩ := hcs
    simp only [Prod.mk.injEq] at hx
    obtain ⟨hd, _⟩ := hx
    have hmm' : m = cap0 := by simpa using hmm
    subst hmm'
    have E : ∀ i, ∃ q : Rc, i < m → (W.cell? (a.add (i * 4)) = some (.int .i64 q.1) ∧ W.cell? (a.add (i * 4 + 1)) = some (.int .i64 q.2.1) ∧ W.cell? (a.add (i * 4 + 2)) = some (.int .i64 q.2.2.1) ∧ W.cell? (a.add (i * 4 + 3)) = some (S q.2.2.2)) ∧ q.2.2.2.length + 4 ≤ Rows.uptoBulk (D i) := by
      intro i
      by_cases hi : i < m
      · obtain ⟨cs', h1, h2⟩ := hcell i hi
        rw [ce] at h1
        obtain ⟨_, hlen, hc⟩ := World.cells?_some h1
        obtain ⟨y0, y1, y2, y3, k, hxy, _, g0, g1, g2, g3⟩ := Go.Joins.trod_struct4 he h2
        match cs', hlen with
        | [v0, v1, v2, v3], _ =>
          rw [o0, e0, k0] at g0
          rw [o1, e1, k0] at g1
          rw [o2, e2, k0] at g2
          rw [o3, e3, k1] at g3
          simp only [List.drop_zero, List.drop_succ_cons, List.take_succ_cons, List.take_zero] at g0 g1 g2 g3
          obtain ⟨z0, q0, x0, _⟩ := DataW.trod_int Tryz.underlying3 g0
          obtain ⟨z1, q1, x1, _⟩ := DataW.trod_int Tryz.underlying3 g1
          obtain ⟨z2, q2, x2, _⟩ := DataW.trod_int Tryz.underlying3 g2
          obtain ⟨s3, q3, x3, _⟩ := DataW.trod_string Tryz.underlying9 g3
          simp only [List.cons.injEq, and_true] at q0 q1 q2 q3
          have c0 := hc 0 (by omega)
          have c1 := hc 1 (by omega)
          have c2 := hc 2 (by omega)
          have c3 := hc 3 (by omega)
          rw [Go.Deep.add_add] at c0 c1 c2 c3
          simp at c0 c1 c2 c3
          simp only [Prod.mk.injEq] at hxy
          refine ⟨(z0, z1, z2, s3.data.toList), fun _ => ⟨⟨by rw [c0, q0], by rw [c1, q1], by rw [c2, q2], by rw [c3, q3]; unfold S; simp⟩, ?_⟩⟩
          rw [hxy.1, x0, x1, x2, x3]
          simp only [Rows.uptoBulk, Rows.uptoBulkAll, Array.length_toList]
          omega
      · exact ⟨(0, 0, 0, []), fun h => absurd h hi⟩
    obtain ⟨q, hq⟩ := Classical.axiomOfChoice E
    have hlen : ((List.range len0).map q).length = len0 := by simp
    refine ⟨(List.range len0).map q, ⟨some a, m, by rw [hlen], (fun e => by cases e), by omega, fun hne => ?_⟩, ?_⟩
    · have hpos : 0 < len0 := by
        rcases Nat.eq_zero_or_pos len0 with h | h
        · subst h; simp at hne
        · exact h
      obtain ⟨b, off, rfl, hblt⟩ := addr_at (by have := (hq 0 (by omega)).1.1; rwa [Nat.zero_mul] at this)
      refine ⟨b, off, rfl, hblt, fun j hj => ?_⟩
      rw [hlen] at hj
      obtain ⟨⟨c0, c1, c2, c3⟩, _⟩ := hq j (by omega)
      rw [Go.WideShapes.add_plain] at c0 c1 c2 c3
      simp only [List.getElem_map, List.getElem_range]
      exact ⟨c0, by rw [Nat.add_assoc]; exact c1, by rw [Nat.add_assoc]; exact c2, by rw [Nat.add_assoc]; exact c3⟩
    · rw [hd]
      have := bulk_recs q D (List.range len0) (fun k hk => (hq k (by have := List.mem_range.1 hk; omega)).2)
      simp only [Rows.uptoBulk]
      omega
set_option maxRecDepth 100000 in
theorem open_recs {H : Type} {enc : TypeId × Value → H} {W : World} {base : Nat} {v : Value} {d : DataW H} {p : List MemPlace} (hok : Value.okWide Tryz.prog W .any base 42 v) (h : DataW.Trod enc Tryz.prog W 0 (fun _ => true) true 42 v d p) : ∃ rs : RL, HoldsR W v rs ∧ bulkQ rs + 1 ≤ Rows.uptoBulk d :=
  open_recs0 Tryz.underlying42 Tryz.underlying53 (by kernel_rfl) rfl rfl rfl rfl rfl rfl rfl rfl (okWide_slice Tryz.underlying42 hok) h
end Go.Proofs.YtijnjgnckipghaaGreat
