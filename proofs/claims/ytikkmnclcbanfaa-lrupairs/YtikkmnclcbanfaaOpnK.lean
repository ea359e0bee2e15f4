/- Steps of a table that came in, a list of them and one by itself: what the reading says of them. -/
import Derived.Test.YtikkmnclcbanfaaOpnA
import Derived.Test.YtikkmnclcbanfaaLrM
import Derived.Deep.Slices
import Derived.Lib.SmallJoins
import Derived.SizedLaws
import Derived.ChangeOld
import Derived.OpenShut
namespace Go.Proofs.Ytikkmnclcbanfaa
open Go.ChangeShapes Go.WideShapes Go.ChangeAt Go.RowKit
/-- a step: what it does, a key, a value, a size -/
structure KOp where
  what : Int
  key : Nm
  v : Int
  size : Int
abbrev KL := List KOp
def kV (o : KOp) : Value := .agg #[.int .i64 o.what, .string ⟨o.key.toArray⟩, .int .i64 o.v, .int .i64 o.size]
/-- the four cells of a step at block b, from off on -/
def KAt (w : World) (b off : Nat) (p : KOp) : Prop := w.cell? ⟨b, off, none⟩ = some (.int .i64 p.what) ∧ w.cell? ⟨b, off + 1, none⟩ = some (.string ⟨p.key.toArray⟩) ∧ w.cell? ⟨b, off + 2, none⟩ = some (.int .i64 p.v) ∧ w.cell? ⟨b, off + 3, none⟩ = some (.int .i64 p.size)
/-- v is a slice whose elements are the steps ps -/
def HoldsK (w : World) (v : Value) (ps : KL) : Prop :=
  ∃ ao cap, v = .slice ao ps.length cap ∧ (ao = none → cap = 0) ∧ ps.length ≤ cap ∧ (ps ≠ [] → ∃ b off, ao = some ⟨b, off, none⟩ ∧ b < w.heap.size ∧ ∀ j (h : j < ps.length), KAt w b (off + j * 4) ps[j])
theorem holdsK_mono {w w' : World} {v : Value} {ps : KL} (h : HoldsK w v ps) (hb : Below w.heap.size w w') : HoldsK w' v ps := by
  obtain ⟨ao, cap, rfl, h0, hcp, hc⟩ := h
  refine ⟨ao, cap, rfl, h0, hcp, fun hne => ?_⟩
  obtain ⟨b, off, rfl, hlt, hcell⟩ := hc hne
  have := hb.size
  exact ⟨b, off, rfl, by omega, fun j hj => ⟨(hb.cell (p := ⟨b, _, none⟩) hlt).trans (hcell j hj).1, (hb.cell (p := ⟨b, _, none⟩) hlt).trans (hcell j hj).2.1, (hb.cell (p := ⟨b, _, none⟩) hlt).trans (hcell j hj).2.2.1, (hb.cell (p := ⟨b, _, none⟩) hlt).trans (hcell j hj).2.2.2⟩⟩
/-- the beginning of a list of steps -/
theorem holdsK_take {w : World} {ao : Option Addr} {n cap : Nat} {ps : KL} (h : HoldsK w (.slice ao n cap) ps) (k : Nat) (hk : k ≤ n) : HoldsK w (.slice ao k cap) (ps.take k) := by
  obtain ⟨ao', cap', e, h0, hcp, hc⟩ := h
  simp only [Value.slice.injEq] at e
  obtain ⟨rfl, rfl, rfl⟩ := e
  have hl : (ps.take k).length = k := by rw [List.length_take]; omega
  refine ⟨ao, cap, by rw [hl], h0, by omega, fun hne => ?_⟩
  obtain ⟨b, off, rfl, hlt, hcell⟩ := hc (fun e => hne (by rw [e]; simp))
  refine ⟨b, off, rfl, hlt, fun j hj => ?_⟩
  have := hcell j (by omega)
  rw [List.getElem_take]
  exact this
def bulkK : KL → Nat
  | [] => 0
  | o :: r => o.key.length + 4 + bulkK r
def kD {H : Type} (q : KOp) : DataW H := .agg [.lit (.int .i64 q.what), .lit (.string q.key), .lit (.int .i64 q.v), .lit (.int .i64 q.size)]
theorem bulk_kD {H : Type} (ps : KL) : bulkK ps ≤ Rows.uptoBulkAll (H := H) (ps.map kD) := by
  induction ps with
  | nil => exact Nat.zero_le _
  | cons p r ih =>
    show p.key.length + 4 + bulkK r ≤ Rows.uptoBulk (kD p) + Rows.uptoBulkAll (r.map kD)
    have : p.key.length + 4 ≤ Rows.uptoBulk (H := H) (kD p) := by
      simp only [kD, Rows.uptoBulk, Rows.uptoBulkAll]; omega
    omega
set_option maxRecDepth 100000 in
theorem open_ops {H : Type} {enc : TypeId × Value → H} {W : World} {base : Nat} {v : Value} {d : DataW H} {p : List MemPlace} (hok : Value.okWide Try.prog W .any base 22 v) (h : DataW.Trod enc Try.prog W 0 (fun _ => true) true 22 v d p) : ∃ rs : KL, HoldsK W v rs ∧ bulkK rs + 1 ≤ Rows.uptoBulk d ∧ ((∀ n ∈ d.weights Try.prog 22, n ≤ reachBytes) → rs.length * 40 ≤ reachBytes ∧ ∀ f ∈ rs, f.key.length ≤ reachBytes) := by
  have k0 : Try.prog.cellsOf 3 = 1 := by kernel_rfl
  have k1 : Try.prog.cellsOf 9 = 1 := by kernel_rfl
  have ce : Try.prog.cellsOf 32 = 4 := by kernel_rfl
  obtain ⟨a0, len0, cap0, rfl⟩ := okWide_slice Try.underlying22 hok
  obtain ⟨fuel, hf⟩ := h
  rcases Go.Deep.open_slice Try.underlying22 hf with ⟨hcs, hx⟩ | ⟨a, len, cap, m, n, D, Pl, hcs, _, hl, hm, hmm, hx, hcell⟩
  · simp [Value.cells] at hcs
    obtain ⟨rfl, rfl, rfl⟩ := hcs
    simp only [Prod.mk.injEq] at hx
    obtain ⟨rfl, _⟩ := hx
    exact ⟨[], ⟨none, 0, rfl, fun _ => rfl, Nat.le_refl _, fun h => absurd rfl h⟩, by simp [bulkK, Rows.uptoBulk], fun _ => ⟨by simp, fun f hf => by cases hf⟩⟩
  · simp [Value.cells] at hcs
    obtain ⟨rfl, rfl, rfl⟩ := hcs
    simp only [Prod.mk.injEq] at hx
    obtain ⟨hd, _⟩ := hx
    have hmm' : m = cap0 := by simpa using hmm
    subst hmm'
    have E : ∀ i, ∃ q : KOp, i < m → (W.cell? (a.add (i * 4)) = some (.int .i64 q.what) ∧ W.cell? (a.add (i * 4 + 1)) = some (.string ⟨q.key.toArray⟩) ∧ W.cell? (a.add (i * 4 + 2)) = some (.int .i64 q.v) ∧ W.cell? (a.add (i * 4 + 3)) = some (.int .i64 q.size)) ∧ D i = kD q := by
      intro i
      by_cases hi : i < m
      · obtain ⟨cs', h1, h2⟩ := hcell i hi
        rw [ce] at h1
        obtain ⟨_, hlen, hc⟩ := World.cells?_some h1
        obtain ⟨y0, y1, y2, y3, k, hxy, _, g0, g1, g2, g3⟩ := Go.Joins.trod_struct4 Try.underlying32 h2
        match cs', hlen with
        | [v0, v1, v2, v3], _ =>
          simp only [k0, k1, List.drop_zero, List.drop_succ_cons, List.take_succ_cons, List.take_zero] at g0 g1 g2 g3
          obtain ⟨z0, q0, x0, _⟩ := DataW.trod_int Try.underlying3 g0
          obtain ⟨s1, q1, x1, _⟩ := DataW.trod_string Try.underlying9 g1
          obtain ⟨z2, q2, x2, _⟩ := DataW.trod_int Try.underlying3 g2
          obtain ⟨z3, q3, x3, _⟩ := DataW.trod_int Try.underlying3 g3
          simp only [List.cons.injEq, and_true] at q0 q1 q2 q3
          have c0 := hc 0 (by omega)
          have c1 := hc 1 (by omega)
          have c2 := hc 2 (by omega)
          have c3 := hc 3 (by omega)
          rw [Go.Deep.add_add] at c0 c1 c2 c3
          simp at c0 c1 c2 c3
          simp only [Prod.mk.injEq] at hxy
          refine ⟨⟨z0, s1.data.toList, z2, z3⟩, fun _ => ⟨⟨by rw [c0, q0], by rw [c1, q1], by rw [c2, q2], by rw [c3, q3]⟩, ?_⟩⟩
          rw [hxy.1, x0, x1, x2, x3]
          rfl
      · exact ⟨⟨0, [], 0, 0⟩, fun h => absurd h hi⟩
    obtain ⟨q, hq⟩ := Classical.axiomOfChoice E
    have hlen : ((List.range len0).map q).length = len0 := by simp
    have hDq : (List.range len0).map D = ((List.range len0).map q).map kD := by
      rw [List.map_map]
      apply List.map_congr_left
      intro i hi
      exact (hq i (by have := List.mem_range.1 hi; omega)).2
    rw [hDq] at hd
    refine ⟨(List.range len0).map q, ⟨some a, m, by rw [hlen], (fun e => by cases e), by omega, fun hne => ?_⟩, ?_, ?_⟩
    · have hpos : 0 < len0 := by
        rcases Nat.eq_zero_or_pos len0 with h | h
        · subst h; simp at hne
        · exact h
      obtain ⟨b, off, rfl, hblt⟩ := addr_at (by have := (hq 0 (by omega)).1.1; rwa [Nat.zero_mul] at this)
      refine ⟨b, off, rfl, hblt, fun j hj => ?_⟩
      rw [hlen] at hj
      obtain ⟨⟨c0, c1, c2, c3⟩, _⟩ := hq j (by omega)
      rw [Go.WideShapes.add_plain] at c0 c1 c2 c3
      simp only [List.getElem_map, List.getElem_range]
      exact ⟨c0, by rw [Nat.add_assoc]; exact c1, by rw [Nat.add_assoc]; exact c2, by rw [Nat.add_assoc]; exact c3⟩
    · rw [hd]
      have := bulk_kD (H := H) ((List.range len0).map q)
      simp only [Rows.uptoBulk]
      omega
    · intro hw
      have hub : Try.prog.bytesOf 32 = 40 := by kernel_rfl
      rw [hd] at hw
      simp only [DataW.weights, Try.underlying22, List.mem_cons, List.mem_append, forall_eq_or_imp, hub] at hw
      obtain ⟨hw1, hw2⟩ := hw
      refine ⟨?_, fun f hf => ?_⟩
      · rw [List.length_map] at hw1
        omega
      · have mem : kD f ∈ ((List.range len0).map q).map (kD (H := H)) := List.mem_map.2 ⟨f, hf, rfl⟩
        refine hw2 _ (Or.inl (weight_all ?_ mem))
        simp [kD, DataW.weights, Try.underlying32, DataW.weightsEach]
set_option maxRecDepth 100000 in
theorem open_op {H : Type} {enc : TypeId × Value → H} {W : World} {base : Nat} {v : Value} {d : DataW H} {p : List MemPlace} (hok : Value.okWide Try.prog W .any base 32 v) (h : DataW.Trod enc Try.prog W 0 (fun _ => true) true 32 v d p) :
    ∃ o : KOp, v = kV o ∧ o.key.length + 5 ≤ Rows.uptoBulk d ∧ ((∀ n ∈ d.weights Try.prog 32, n ≤ reachBytes) → o.key.length ≤ reachBytes) := by
  obtain ⟨v0, v1, v2, v3, y0, y1, y2, y3, n, rfl, rfl, _, h0, h1, h2, h3⟩ := Joins.open_agg4 Try.underlying32 (by kernel_rfl) (by kernel_rfl) hok h
  obtain ⟨s, e0, x0, wf0⟩ := DataW.trod_int Try.underlying3 h0
  obtain ⟨t, e1, x1, _⟩ := DataW.trod_string Try.underlying9 h1
  obtain ⟨k, e2, x2, wf2⟩ := DataW.trod_int Try.underlying3 h2
  obtain ⟨o, e3, x3, wf3⟩ := DataW.trod_int Try.underlying3 h3
  simp only [List.cons.injEq, and_true] at e0 e1 e2 e3
  subst e0 e1 e2 e3 x0 x1 x2 x3
  have lt : t.data.toList.length = t.size := by simp
  refine ⟨⟨s, t.data.toList, k, o⟩, by unfold kV; rw [show (⟨t.data.toList.toArray⟩ : ByteArray) = t by cases t; simp], ?_, ?_⟩
  · simp only [Rows.uptoBulk, Rows.uptoBulkAll]
    omega
  · intro hw
    have w0 := hw t.data.toList.length (by simp [DataW.weights, Try.underlying32, DataW.weightsEach])
    exact w0
end Go.Proofs.Ytikkmnclcbanfaa
