/- A list of files (a text and bytes each) that came in: what the reading says of it; the types are given by their numbers. -/
import Derived.Test.YtaklfiipkjfjdaaOpnA
import Derived.Test.YtaklfiipkjfjdaaHolB
import Derived.Test.YtaklfiipkjfjdaaOwnS
namespace Go.Proofs.Ytaklfiipkjfjdaa
open Go.ChangeShapes Go.WideShapes Go.ChangeAt Go.RowKit
set_option maxRecDepth 100000 in
theorem bytes_trod {H : Type} {enc : TypeId × Value → H} {W : World} {n : Nat} {v : Value} {y : DataW H × List MemPlace} (hf : DataW.trod enc Try.prog W 0 (fun _ => true) true n 41 [v] = some y) :
    ∃ bs : List UInt8, HoldsB W v bs ∧ bs.length + 1 ≤ Rows.uptoBulk y.1 := by
  rcases open_ints Try.underlying41 Try.underlying5 (by kernel_rfl) hf with ⟨hcs, hx⟩ | ⟨x, len0, cap0, zs, hcs, _, hl, hm, hz, hx, hcell, hws⟩
  · simp only [List.cons.injEq, and_true] at hcs
    subst hcs hx
    exact ⟨[], ⟨none, 0, rfl, fun _ => rfl, Nat.le_refl _, fun h => absurd rfl h⟩, by simp [Rows.uptoBulk]⟩
  · simp only [List.cons.injEq, and_true] at hcs
    subst hcs hx
    have hz' : zs.length = cap0 := by simpa using hz
    have hlen : ((zs.take len0).map (fun z : Int => UInt8.ofNat z.toNat)).length = len0 := by rw [List.length_map, List.length_take, Nat.min_eq_left (by omega)]
    refine ⟨(zs.take len0).map (fun z : Int => UInt8.ofNat z.toNat), ⟨some x, cap0, by rw [hlen], (fun e => by cases e), by omega, ?_⟩, ?_⟩
    · intro hne
      have hpos : 0 < len0 := by
        rcases Nat.eq_zero_or_pos len0 with h | h
        · subst h; simp at hne
        · exact h
      obtain ⟨b, off, rfl, hblt⟩ := addr_at (hcell 0 (by omega))
      refine ⟨b, off, rfl, hblt, fun j hj => ?_⟩
      rw [hlen] at hj
      have hc := hcell j (by omega)
      rw [Go.WideShapes.add_plain] at hc
      rw [hc]
      have hjz : j < zs.length := by omega
      simp only [List.getElem_map, List.getElem_take]
      rw [List.getD_eq_getElem?_getD, List.getElem?_eq_getElem hjz]
      have hw := hws _ (List.getElem_mem hjz)
      have hb : 0 ≤ zs[j] ∧ zs[j] < 256 := byte_wf hw
      show some (Value.int .u8 zs[j]) = some (B _)
      unfold B
      simp only [Option.some.injEq, Value.int.injEq, true_and]
      rw [UInt8.toNat_ofNat']
      omega
    · rw [hlen]
      simp only [Rows.uptoBulk]
      rw [bulk_lits, List.length_take, Nat.min_eq_left (by omega)]
      omega
/-- v is a slice whose elements are files: a text and bytes each -/
def HoldsFi (w : World) (v : Value) (fs : FL) : Prop :=
  ∃ ao cap, v = .slice ao fs.length cap ∧ (ao = none → cap = 0) ∧ fs.length ≤ cap ∧ (fs ≠ [] → ∃ b off, ao = some ⟨b, off, none⟩ ∧ b < w.heap.size ∧ ∀ j (h : j < fs.length), w.cell? ⟨b, off + j * 2, none⟩ = some (S fs[j].1) ∧ ∃ u, w.cell? ⟨b, off + j * 2 + 1, none⟩ = some u ∧ HoldsB w u fs[j].2)
theorem holdsFi_mono {w w' : World} {v : Value} {fs : FL} (h : HoldsFi w v fs) (hb : Below w.heap.size w w') : HoldsFi w' v fs := by
  obtain ⟨ao, cap, rfl, h0, hcp, hc⟩ := h
  refine ⟨ao, cap, rfl, h0, hcp, fun hne => ?_⟩
  obtain ⟨b, off, rfl, hlt, hcell⟩ := hc hne
  refine ⟨b, off, rfl, Nat.lt_of_lt_of_le hlt hb.size, fun j hj => ?_⟩
  obtain ⟨h1, u, h2, h3⟩ := hcell j hj
  exact ⟨by rw [hb.cell (p := ⟨b, off + j * 2, none⟩) hlt]; exact h1, u, by rw [hb.cell (p := ⟨b, off + j * 2 + 1, none⟩) hlt]; exact h2, holdsB_mono h3 hb⟩
theorem bulk_files {H : Type} (f : Nat → List UInt8 × List UInt8) (g : Nat → DataW H) : ∀ (ks : List Nat), (∀ k ∈ ks, (f k).1.length + (f k).2.length + 3 ≤ Rows.uptoBulk (g k)) → bulkF (ks.map f) ≤ Rows.uptoBulkAll (ks.map g) := by
  intro ks
  induction ks with
  | nil => intro _; exact Nat.zero_le _
  | cons k r ih =>
    intro h
    have h1 := h k (by simp)
    have h2 := ih (fun k hk => h k (by simp [hk]))
    show (f k).1.length + (f k).2.length + 3 + bulkF (r.map f) ≤ Rows.uptoBulk (g k) + Rows.uptoBulkAll (r.map g)
    omega
set_option maxRecDepth 100000 in
theorem open_files {H : Type} {enc : TypeId × Value → H} {W : World} {v : Value} {d : DataW H} {p : List MemPlace} {t e : TypeId} {f0 f1 : Field} (ht : Try.prog.underlying t = some (.slice e)) (he : Try.prog.underlying e = some (.struct #[f0, f1])) (ce : Try.prog.cellsOf e = 2) (o0 : f0.offset = 0) (o1 : f1.offset = 1) (e0 : f0.type = 9) (e1 : f1.type = 41)
    (hform : ∃ a l c, v = .slice a l c) (h : DataW.Trod enc Try.prog W 0 (fun _ => true) true t v d p) : ∃ fs : FL, HoldsFi W v fs ∧ bulkF fs + 1 ≤ Rows.uptoBulk d := by
  obtain ⟨a0, len0, cap0, rfl⟩ := hform
  obtain ⟨fuel, hf⟩ := h
  rcases Go.Deep.open_slice_pairs ht he ce o0 o1 (by rw [e0]; kernel_rfl) (by rw [e1]; kernel_rfl) hf with ⟨hcs, hx⟩ | ⟨a, len, cap, m, n, V0, V1, D0, D1, P0, P1, hcs, _, hl, hm, hmm, hx, hcell⟩
  · simp [Value.cells] at hcs
    obtain ⟨rfl, rfl, rfl⟩ := hcs
    simp only [Prod.mk.injEq] at hx
    obtain ⟨rfl, _⟩ := hx
    exact ⟨[], ⟨none, 0, rfl, fun _ => rfl, Nat.le_refl _, fun h => absurd rfl h⟩, by simp [bulkF, Rows.uptoBulk]⟩
  · simp [Value.cells] at hcs
    obtain ⟨rfl, rfl, rfl⟩ := hcs
    simp only [Prod.mk.injEq] at hx
    obtain ⟨hd, _⟩ := hx
    have hmm' : m = cap0 := by simpa using hmm
    subst hmm'
    have E : ∀ i, ∃ q : List UInt8 × List UInt8, i < m → V0 i = S q.1 ∧ HoldsB W (V1 i) q.2 ∧ q.1.length + q.2.length + 3 ≤ Rows.uptoBulk (DataW.agg (H := H) [D0 i, D1 i]) := by
      intro i
      by_cases hi : i < m
      · obtain ⟨_, _, t0, t1⟩ := hcell i hi
        rw [e0] at t0
        rw [e1] at t1
        obtain ⟨s0, q0, x0, _⟩ := DataW.trod_string Try.underlying9 t0
        obtain ⟨bs, hb, hk⟩ := bytes_trod t1
        simp only [List.cons.injEq, and_true] at q0
        simp only [Prod.mk.injEq] at x0
        refine ⟨(s0.data.toList, bs), fun _ => ⟨?_, hb, ?_⟩⟩
        · rw [q0]; unfold S; simp
        · rw [x0.1]
          simp only [Rows.uptoBulk, Rows.uptoBulkAll] at hk ⊢
          simp only [Array.length_toList] at *
          omega
      · exact ⟨([], []), fun h => absurd h hi⟩
    have CH := Classical.axiomOfChoice E
    obtain ⟨q, hq⟩ := CH
    have hlen : ((List.range len0).map q).length = len0 := by simp
    refine ⟨(List.range len0).map q, ⟨some a, m, by rw [hlen], (fun e => by cases e), by omega, fun hne => ?_⟩, ?_⟩
    · have hpos : 0 < len0 := by
        rcases Nat.eq_zero_or_pos len0 with h | h
        · subst h; simp at hne
        · exact h
      obtain ⟨b, off, rfl, hblt⟩ := addr_at (by have := (hcell 0 (by omega)).1; rwa [Nat.zero_mul] at this)
      refine ⟨b, off, rfl, hblt, fun j hj => ?_⟩
      rw [hlen] at hj
      obtain ⟨c0, c1, _, _⟩ := hcell j (by omega)
      obtain ⟨g0, g1, _⟩ := hq j (by omega)
      rw [Go.WideShapes.add_plain] at c0 c1
      simp only [List.getElem_map, List.getElem_range]
      exact ⟨by rw [c0, g0], V1 j, by rw [Nat.add_assoc]; exact c1, g1⟩
    · rw [hd]
      have := bulk_files q (fun i => DataW.agg (H := H) [D0 i, D1 i]) (List.range len0) (fun k hk => (hq k (by have := List.mem_range.1 hk; omega)).2.2)
      simp only [Rows.uptoBulk]
      omega
end Go.Proofs.Ytaklfiipkjfjdaa
