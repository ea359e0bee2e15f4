/- A row of bytes of the call's own whose block may bear a mark (as a text that was converted leaves it); more appended to it. -/
import Derived.Test.YtobkmepamgdccaaGreatDoorBa
import Derived.Test.YtobkmepamgdccaaGreatDoorBb
import Derived.Laws.IdiomCopy
import Derived.Deep.MidRow
import Derived.Lib.AppendZeros
namespace Go.Proofs.YtobkmepamgdccaaGreatDoor
open Go.RowKit
/-- v holds just the bytes bs, in a block of the call's own of which no cell is frozen -/
def OwnM (w0 : World) (v : Value) (bs : List UInt8) (w : World) : Prop :=
  ∃ g cap, v = .slice (some ⟨g, 0, none⟩) bs.length cap ∧ w0.heap.size ≤ g ∧ g < w.heap.size ∧ bs.length ≤ cap ∧ (∀ j, j < cap → (w.cell? ⟨g, j, none⟩).isSome = true ∧ w.frozen? ⟨g, j, none⟩ = false) ∧ (∀ j (h : j < bs.length), w.cell? ⟨g, j, none⟩ = some (B bs[j])) ∧ Below w0.heap.size w0 w
theorem ownM_mono {w0 w w' : World} {v : Value} {bs : List UInt8} (h : OwnM w0 v bs w) (hb : Below w.heap.size w w') : OwnM w0 v bs w' := by
  obtain ⟨g, cap, e, hg, hlt, hc, h1, h2, hB⟩ := h
  exact ⟨g, cap, e, hg, Nat.lt_of_lt_of_le hlt hb.size, hc, fun j hj => ⟨by rw [hb.cell (p := ⟨g, j, none⟩) hlt]; exact (h1 j hj).1, by rw [hb.frozen (p := ⟨g, j, none⟩) hlt]; exact (h1 j hj).2⟩, fun j hj => by rw [hb.cell (p := ⟨g, j, none⟩) hlt]; exact h2 j hj, hB.trans (hb.mono hB.size)⟩
theorem ownM_base {w w1 w2 : World} {v : Value} {bs : List UInt8} (h : OwnM w1 v bs w2) (hb : Below w.heap.size w w1) : OwnM w v bs w2 := by
  obtain ⟨g, cap, e, hg, hlt, hc, h1, h2, hB⟩ := h
  have := hb.size
  exact ⟨g, cap, e, by omega, hlt, hc, h1, h2, hb.trans (hB.mono this)⟩
theorem ownM_holds {w0 w : World} {v : Value} {bs : List UInt8} (h : OwnM w0 v bs w) : HoldsB w v bs := by
  obtain ⟨g, cap, e, hg, hlt, hc, h1, h2, hB⟩ := h
  exact ⟨_, cap, e, (fun e => by cases e), hc, fun _ => ⟨g, 0, rfl, hlt, fun j hj => by rw [Nat.zero_add]; exact h2 j hj⟩⟩
theorem ownM_conv (s : ByteArray) (w : World) : ∃ (v : Value) (w1 : World), Sem.run Tryz.prog (convert 9 22 (.string s)) w = .ok v w1 ∧ OwnM w v s.data.toList w1 := by
  have hl : s.data.toList.length = s.size := by simp
  have hge := grownCap_ge w s.size 0 5
  have hsz : (bytesRow s (grownCap w s.size 0 5)).size = grownCap w s.size 0 5 := by
    unfold bytesRow; simp; omega
  refine ⟨_, _, run_bytes_of_string w 9 22 5 s Tryz.underlying9 Tryz.underlying22 Tryz.underlying5, ?_⟩
  have hcell := fun j => cell_of_row (w.drew.alloc (.cells (bytesRow s (grownCap w s.size 0 5)) 5 ((bytesRow s (grownCap w s.size 0 5)).size, (bytesRow s (grownCap w s.size 0 5)).size + 1))) w.heap.size j _ 5 _ (heap_alloc_new w.drew _)
  refine ⟨w.heap.size, grownCap w s.size 0 5, by rw [hl], Nat.le_refl _, by simp, by rw [hl]; exact hge, fun j hj => ⟨?_, ?_⟩, fun j hj => ?_, ((Below.refl _ _).drew).alloc (Nat.le_refl _) _⟩
  · rw [hcell j, Array.getElem?_eq_getElem (by rw [hsz]; exact hj)]; rfl
  · unfold World.frozen?
    rw [show (w.drew.alloc (.cells (bytesRow s (grownCap w s.size 0 5)) 5 ((bytesRow s (grownCap w s.size 0 5)).size, (bytesRow s (grownCap w s.size 0 5)).size + 1))).heap[w.heap.size]? = _ from heap_alloc_new w.drew _]
    simp
    omega
  · rw [hcell j, bytesRow_at s _ j (by omega)]
    rfl
theorem below_setCells {B g : Nat} {a : World} (hg : B ≤ g) : ∀ (vs : List Value) (o : Nat) (w : World), Below B a w → Below B a (w.setCells g o vs) := by
  intro vs
  induction vs with
  | nil => intro o w h; exact h
  | cons v r ih => intro o w h; exact ih (o + 1) _ (h.setCell hg v)
theorem size_setCells (g : Nat) : ∀ (vs : List Value) (o : Nat) (w : World), (w.setCells g o vs).heap.size = w.heap.size := by
  intro vs
  induction vs with
  | nil => intro o w; rfl
  | cons v r ih => intro o w; rw [World.setCells, ih]; simp
theorem appM (W w0 : World) (v u : Value) (ps qs : List UInt8) (ty : TypeId) (hown : OwnM w0 v ps W) (hu : HoldsB W u qs) (hlen : ps.length + qs.length ≤ 1000000000) :
    ∃ v' w', (Builtin.append_ #[22, 22] ty #[v, u]).run Tryz.prog W = .ok v' w' ∧ OwnM w0 v' (ps ++ qs) w' := by
  obtain ⟨i0, hi, hz0, hz1, hz2⟩ := info_parts Tryz.info5
  obtain ⟨g, cap, rfl, hg, hlt, hc, h1, h2, hB⟩ := hown
  have hsize := hB.size
  obtain ⟨ao, uc, rfl, hn0, hucp, hcell⟩ := hu
  by_cases hq : qs = []
  · subst hq
    rw [List.append_nil]
    refine ⟨.slice (some ⟨g, 0, none⟩) ps.length cap, W, ?_, ⟨g, cap, rfl, hg, hlt, hc, h1, h2, hB⟩⟩
    cases ao with
    | none =>
      obtain rfl := hn0 rfl
      simp [Builtin.append_, run_underlying Tryz.underlying22, sizeOf, typeInfo, hi, Builtin.lenOf, hc, Builtin.firstCells, storeCells]
    | some a =>
      have hf := run_firstCells_some (P := Tryz.prog) W i0.size 0 a 0 uc [] (by simp) (by simp)
      simp [Builtin.append_, run_underlying Tryz.underlying22, sizeOf, typeInfo, hi, Builtin.lenOf, hc, hf, storeCells]
  · obtain ⟨b, off, rfl, hblt, hcl⟩ := hcell hq
    have hnews : ∀ j x, (qs.map B)[j]? = some x → W.cell? ((⟨b, off, none⟩ : Addr).add j) = some x := by
      intro j x hj
      rw [Go.WideShapes.add_plain]
      obtain ⟨hj1, hj2⟩ := List.getElem?_eq_some_iff.1 hj
      rw [List.length_map] at hj1
      rw [hcl j hj1, ← hj2]
      simp
    have hone : ∀ x ∈ qs.map B, x.oneCell' = true := by intro x hx; obtain ⟨y, _, rfl⟩ := List.mem_map.1 hx; rfl
    by_cases hroom : ps.length + qs.length ≤ cap
    · have hf := run_firstCells_some (P := Tryz.prog) W i0.size qs.length ⟨b, off, none⟩ qs.length uc (qs.map B) (by rw [hz1]; simp) hnews
      have hst := run_storeCells_cells (P := Tryz.prog) g ps.length (qs.map B) 0 W (fun j hj => (h1 (ps.length + 0 + j) (by rw [List.length_map] at hj; omega)).1) (fun j hj => (h1 (ps.length + 0 + j) (by rw [List.length_map] at hj; omega)).2) hone
      simp only [Nat.add_zero] at hst
      refine ⟨.slice (some ⟨g, 0, none⟩) (ps.length + qs.length) cap, W.setCells g ps.length (qs.map B), ?_, ⟨g, cap, by rw [List.length_append], hg, by rw [size_setCells]; exact hlt, by rw [List.length_append]; exact hroom, fun j hj => ⟨World.isSome_setCells _ _ _ _ _ (h1 j hj).1, by rw [World.frozen?_setCells]; exact (h1 j hj).2⟩, fun j hj => ?_, below_setCells hg _ _ _ hB⟩⟩
      · rw [hz1] at hf
        simp [Builtin.append_, run_underlying Tryz.underlying22, sizeOf, typeInfo, hi, hz1, Builtin.lenOf, hroom, hf, Addr.add_lit, hst]
      · rw [List.length_append] at hj
        by_cases hjp : j < ps.length
        · rw [World.cell?_setCells_out _ _ _ _ _ (fun _ _ => Or.inl hjp), h2 j hjp, List.getElem_append_left hjp]
        · have hin := World.cell?_setCells_in g (qs.map B) ps.length W (fun i hi => (h1 (ps.length + i) (by rw [List.length_map] at hi; omega)).1) (j - ps.length) (by rw [List.length_map]; omega)
          rw [show ps.length + (j - ps.length) = j by omega] at hin
          rw [hin, List.getElem_append_right (by omega)]
          simp
    · have holds : ∀ j x, (ps.map B)[j]? = some x → W.cell? ((⟨g, 0, none⟩ : Addr).add j) = some x := by
        intro j x hj
        rw [Go.WideShapes.add_plain, Nat.zero_add]
        obtain ⟨hj1, hj2⟩ := List.getElem?_eq_some_iff.1 hj
        rw [List.length_map] at hj1
        rw [h2 j hj1, ← hj2]
        simp
      have hr := run_append_grow (P := Tryz.prog) W 22 ty 5 i0 (.int .u8 0) Tryz.underlying22 hi hz0 ⟨g, 0, none⟩ ps.length cap (ps.map B) (by rw [hz1]; simp) holds ⟨b, off, none⟩ qs.length uc (qs.map B) (by rw [hz1]; simp) hnews (by omega) (by omega) (by rw [hz2]; exact growslice_fits (by omega) (by omega))
      have hge := grownCap_ge W (ps.length + qs.length) cap 5
      have hcell := fun j => cell_of_row (W.drew.alloc (.cells ((ps.map B).toArray ++ (qs.map B).toArray ++ Builtin.zeroCells (Value.int .u8 0).cells (grownCap W (ps.length + qs.length) cap 5 - (ps.length + qs.length))) 5)) W.heap.size j _ 5 _ (heap_alloc_new W.drew _)
      have hcz : (Value.int .u8 0).cells.size = 1 := rfl
      have hsz : ((ps.map B).toArray ++ (qs.map B).toArray ++ Builtin.zeroCells (Value.int .u8 0).cells (grownCap W (ps.length + qs.length) cap 5 - (ps.length + qs.length))).size = grownCap W (ps.length + qs.length) cap 5 := by
        rw [Array.size_append, Array.size_append, size_zeroCells, hcz, List.size_toArray, List.size_toArray, List.length_map, List.length_map]
        omega
      refine ⟨_, _, hr, ⟨W.heap.size, _, by rw [List.length_append], hsize, by simp, by rw [List.length_append]; exact hge, fun j hj => ⟨?_, ?_⟩, fun j hj => ?_, (hB.drew).alloc hsize _⟩⟩
      · rw [hcell j, Array.getElem?_eq_getElem (by rw [hsz]; exact hj)]; rfl
      · unfold World.frozen?
        rw [show (W.drew.alloc (.cells ((ps.map B).toArray ++ (qs.map B).toArray ++ Builtin.zeroCells (Value.int .u8 0).cells (grownCap W (ps.length + qs.length) cap 5 - (ps.length + qs.length))) 5)).heap[W.heap.size]? = _ from heap_alloc_new W.drew _]
        simp
      · rw [hcell j, Array.getElem?_append_left (by rw [Array.size_append, List.size_toArray, List.size_toArray, List.length_map, List.length_map]; rw [List.length_append] at hj; exact hj)]
        rw [List.append_toArray, ← List.map_append, List.getElem?_toArray, List.getElem?_map, List.getElem?_eq_getElem hj]
        rfl
end Go.Proofs.YtobkmepamgdccaaGreatDoor
