/- A list of steps (a number, two texts and bytes each) that came in: what the reading says of it; the types are given by their numbers. -/
import Derived.Test.YtaklfiipkjfjdaaOpnG
import Derived.Deep.Slices
import Derived.Lib.SmallJoins
namespace Go.Proofs.Ytaklfiipkjfjdaa
open Go.ChangeShapes Go.WideShapes Go.ChangeAt Go.RowKit
abbrev OpT := Int × List UInt8 × List UInt8 × List UInt8
/-- v is a slice whose elements are steps -/
def HoldsO (w : World) (v : Value) (os : List OpT) : Prop :=
  ∃ ao cap, v = .slice ao os.length cap ∧ (ao = none → cap = 0) ∧ os.length ≤ cap ∧ (os ≠ [] → ∃ b off, ao = some ⟨b, off, none⟩ ∧ b < w.heap.size ∧ ∀ j (h : j < os.length), w.cell? ⟨b, off + j * 4, none⟩ = some (.int .i64 os[j].1) ∧ w.cell? ⟨b, off + j * 4 + 1, none⟩ = some (S os[j].2.1) ∧ w.cell? ⟨b, off + j * 4 + 2, none⟩ = some (S os[j].2.2.1) ∧ ∃ u, w.cell? ⟨b, off + j * 4 + 3, none⟩ = some u ∧ HoldsB w u os[j].2.2.2)
theorem holdsO_mono {w w' : World} {v : Value} {os : List OpT} (h : HoldsO w v os) (hb : Below w.heap.size w w') : HoldsO w' v os := by
  obtain ⟨ao, cap, rfl, h0, hcp, hc⟩ := h
  refine ⟨ao, cap, rfl, h0, hcp, fun hne => ?_⟩
  obtain ⟨b, off, rfl, hlt, hcell⟩ := hc hne
  refine ⟨b, off, rfl, Nat.lt_of_lt_of_le hlt hb.size, fun j hj => ?_⟩
  obtain ⟨h1, h2, h3, u, h4, h5⟩ := hcell j hj
  have c : ∀ o, w'.cell? ⟨b, o, none⟩ = w.cell? ⟨b, o, none⟩ := fun o => hb.cell (p := ⟨b, o, none⟩) hlt
  exact ⟨by rw [c]; exact h1, by rw [c]; exact h2, by rw [c]; exact h3, u, by rw [c]; exact h4, holdsB_mono h5 hb⟩
def bulkO : List OpT → Nat
  | [] => 0
  | o :: r => o.2.1.length + o.2.2.1.length + o.2.2.2.length + 4 + bulkO r
theorem bulk_ops {H : Type} (f : Nat → OpT) (g : Nat → DataW H) : ∀ (ks : List Nat), (∀ k ∈ ks, (f k).2.1.length + (f k).2.2.1.length + (f k).2.2.2.length + 4 ≤ Rows.uptoBulk (g k)) → bulkO (ks.map f) ≤ Rows.uptoBulkAll (ks.map g) := by
  intro ks
  induction ks with
  | nil => intro _; exact Nat.zero_le _
  | cons k r ih =>
    intro h
    have h1 := h k (by simp)
    have h2 := ih (fun k hk => h k (by simp [hk]))
    show (f k).2.1.length + (f k).2.2.1.length + (f k).2.2.2.length + 4 + bulkO (r.map f) ≤ Rows.uptoBulk (g k) + Rows.uptoBulkAll (r.map g)
    omega
set_option maxRecDepth 100000 in
theorem open_ops {H : Type} {enc : TypeId × Value → H} {W : World} {v : Value} {d : DataW H} {p : List MemPlace} {t e : TypeId} {f0 f1 f2 f3 : Field} (ht : Try.prog.underlying t = some (.slice e)) (he : Try.prog.underlying e = some (.struct #[f0, f1, f2, f3])) (ce : Try.prog.cellsOf e = 4) (o0 : f0.offset = 0) (o1 : f1.offset = 1) (o2 : f2.offset = 2) (o3 : f3.offset = 3) (e0 : f0.type = 3) (e1 : f1.type = 9) (e2 : f2.type = 9) (e3 : f3.type = 41)
    (hform : ∃ a l c, v = .slice a l c) (h : DataW.Trod enc Try.prog W 0 (fun _ => true) true t v d p) : ∃ os : List OpT, HoldsO W v os ∧ bulkO os + 1 ≤ Rows.uptoBulk d ∧ ∀ o ∈ os, -9223372036854775808 ≤ o.1 ∧ o.1 ≤ 9223372036854775807 := by
  have k0 : Try.prog.cellsOf 3 = 1 := by kernel_rfl
  have k1 : Try.prog.cellsOf 9 = 1 := by kernel_rfl
  have k3 : Try.prog.cellsOf 41 = 1 := by kernel_rfl
  obtain ⟨a0, len0, cap0, rfl⟩ := hform
  obtain ⟨fuel, hf⟩ := h
  rcases Go.Deep.open_slice ht hf with ⟨hcs, hx⟩ | ⟨a, len, cap, m, n, D, Pl, hcs, _, hl, hm, hmm, hx, hcell⟩
  · simp [Value.cells] at hcs
    obtain ⟨rfl, rfl, rfl⟩ := hcs
    simp only [Prod.mk.injEq] at hx
    obtain ⟨rfl, _⟩ := hx
    exact ⟨[], ⟨none, 0, rfl, fun _ => rfl, Nat.le_refl _, fun h => absurd rfl h⟩, by simp [bulkO, Rows.uptoBulk], fun o ho => by cases ho⟩
  · simp [Value.cells] at hcs
    obtain ⟨rfl, rfl, rfl⟩ := hcs
    simp only [Prod.mk.injEq] at hx
    obtain ⟨hd, _⟩ := hx
    have hmm' : m = cap0 := by simpa using hmm
    subst hmm'
    have E : ∀ i, ∃ q : OpT, i < m → (W.cell? (a.add (i * 4)) = some (.int .i64 q.1) ∧ W.cell? (a.add (i * 4 + 1)) = some (S q.2.1) ∧ W.cell? (a.add (i * 4 + 2)) = some (S q.2.2.1) ∧ ∃ u, W.cell? (a.add (i * 4 + 3)) = some u ∧ HoldsB W u q.2.2.2) ∧ q.2.1.length + q.2.2.1.length + q.2.2.2.length + 4 ≤ Rows.uptoBulk (D i) ∧ (-9223372036854775808 ≤ q.1 ∧ q.1 ≤ 9223372036854775807) := by
      intro i
      by_cases hi : i < m
      · obtain ⟨cs', h1, h2⟩ := hcell i hi
        rw [ce] at h1
        obtain ⟨_, hlen, hc⟩ := World.cells?_some h1
        obtain ⟨y0, y1, y2, y3, k, hxy, _, g0, g1, g2, g3⟩ := Go.Joins.trod_struct4 he h2
        match cs', hlen with
        | [v0, v1, v2, v3], _ =>
          rw [o0, e0, k0] at g0
          rw [o1, e1, k1] at g1
          rw [o2, e2, k1] at g2
          rw [o3, e3, k3] at g3
          simp only [List.drop_zero, List.drop_succ_cons, List.take_succ_cons, List.take_zero] at g0 g1 g2 g3
          obtain ⟨z, q0, x0, hz⟩ := DataW.trod_int Try.underlying3 g0
          obtain ⟨s1, q1, x1, _⟩ := DataW.trod_string Try.underlying9 g1
          obtain ⟨s2, q2, x2, _⟩ := DataW.trod_string Try.underlying9 g2
          obtain ⟨bs, hb, hk⟩ := bytes_trod g3
          simp only [List.cons.injEq, and_true] at q0 q1 q2
          have c0 := hc 0 (by omega)
          have c1 := hc 1 (by omega)
          have c2 := hc 2 (by omega)
          have c3 := hc 3 (by omega)
          rw [Go.Deep.add_add] at c0 c1 c2 c3
          simp at c0 c1 c2 c3
          simp only [Prod.mk.injEq] at hxy
          have hw : -9223372036854775808 ≤ z ∧ z ≤ 9223372036854775807 := by
            have h1 : IntKind.i64.min = -9223372036854775808 := rfl
            have h2 : IntKind.i64.max = 9223372036854775807 := rfl
            simp only [Lit.wf, Bool.and_eq_true, decide_eq_true_eq] at hz
            omega
          refine ⟨(z, s1.data.toList, s2.data.toList, bs), fun _ => ⟨⟨by rw [c0, q0], by rw [c1, q1]; unfold S; simp, by rw [c2, q2]; unfold S; simp, v3, c3, hb⟩, ?_, hw⟩⟩
          rw [hxy.1, x0, x1, x2]
          simp only [Rows.uptoBulk, Rows.uptoBulkAll, Array.length_toList] at hk ⊢
          omega
      · exact ⟨(0, [], [], []), fun h => absurd h hi⟩
    obtain ⟨q, hq⟩ := Classical.axiomOfChoice E
    have hlen : ((List.range len0).map q).length = len0 := by simp
    refine ⟨(List.range len0).map q, ⟨some a, m, by rw [hlen], (fun e => by cases e), by omega, fun hne => ?_⟩, ?_, fun o ho => ?_⟩
    · have hpos : 0 < len0 := by
        rcases Nat.eq_zero_or_pos len0 with h | h
        · subst h; simp at hne
        · exact h
      obtain ⟨b, off, rfl, hblt⟩ := addr_at (by have := (hq 0 (by omega)).1.1; rwa [Nat.zero_mul] at this)
      refine ⟨b, off, rfl, hblt, fun j hj => ?_⟩
      rw [hlen] at hj
      obtain ⟨⟨c0, c1, c2, u, c3, g⟩, _⟩ := hq j (by omega)
      rw [Go.WideShapes.add_plain] at c0 c1 c2 c3
      simp only [List.getElem_map, List.getElem_range]
      exact ⟨c0, by rw [Nat.add_assoc]; exact c1, by rw [Nat.add_assoc]; exact c2, u, by rw [Nat.add_assoc]; exact c3, g⟩
    · rw [hd]
      have := bulk_ops q D (List.range len0) (fun k hk => (hq k (by have := List.mem_range.1 hk; omega)).2.1)
      simp only [Rows.uptoBulk]
      omega
    · obtain ⟨k, hk, rfl⟩ := List.mem_map.1 ho
      exact (hq k (by have := List.mem_range.1 hk; omega)).2.2
end Go.Proofs.Ytaklfiipkjfjdaa
