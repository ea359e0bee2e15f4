/- A byte, and 600 zeros, appended to a row of bytes while another slice of the same row stands. Rows of bytes that are appended to while other bytes stand beside them. -/
import Derived.Lib.AppendZerosOnto
import Derived.Deep.MidRow
import Derived.Test.YtibjcofbhldenaaGreatDoorZ01
namespace Go.Proofs.YtibjcofbhldenaaGreatDoor
open Go.RowKit
abbrev RowB (v : Value) (n : Nat) (ys : List Value) (w : World) : Prop := w.ownsRow 0 5 1 v n ys
theorem rowB_far {v : Value} {n : Nat} {ys : List Value} {w w' : World} {S : Nat → Prop} (h : RowB v n ys w) (hf : Far S w w') (hn : ∀ k, v.ownBlock = some k → ¬ S k) : RowB v n ys w' := by
  have hlt := h.lt
  obtain ⟨hl, h1 | ⟨g, cap, cur, rfl, hb, hg, hr⟩⟩ := h
  · exact ⟨hl, .inl h1⟩
  · exact ⟨hl, .inr ⟨g, cap, cur, rfl, hb, by rw [hf.2.2.2.2 g (hlt g rfl).2 (hn g rfl)]; exact hg, hr⟩⟩
end Go.Proofs.YtibjcofbhldenaaGreatDoor
namespace Go.Proofs.YtibjcofbhldenaaGreatDoor
open Go.RowKit
/-- but for v's block and new blocks all is as it was, and u lies in v's block or in a new one -/
def AppT (v : Value) (w : World) (u : Value) (w' : World) : Prop :=
  Far (fun k => v.ownBlock = some k) w w' ∧ ∀ k, u.ownBlock = some k → v.ownBlock = some k ∨ w.heap.size ≤ k
theorem appT_refl (v : Value) (w : World) : AppT v w v w := ⟨far_refl _ _, fun _ h => .inl h⟩
theorem appT_trans {v u x : Value} {w w1 w2 : World} (h : AppT v w u w1) (g : AppT u w1 x w2) : AppT v w x w2 := by
  have hs := h.1.2.2.2.1
  refine ⟨far_trans h.1 g.1 (fun k hk e => ?_), fun k e => ?_⟩
  · rcases h.2 k e with q | q
    · exact q
    · omega
  · rcases g.2 k e with q | q
    · exact h.2 k q
    · exact .inr (by omega)
/-- what was laid ahead of it -/
theorem appT_below {v u : Value} {w w1 w2 : World} (hb : Below w.heap.size w w1) (h : AppT v w1 u w2) : AppT v w u w2 := by
  have hs := hb.size
  refine ⟨far_trans (S := fun k => v.ownBlock = some k) (T := fun k => v.ownBlock = some k) ?_ h.1 (fun k _ e => e), fun k e => ?_⟩
  · have := far_of_below hb
    exact ⟨this.1, this.2.1, this.2.2.1, this.2.2.2.1, fun k hk _ => this.2.2.2.2 k hk (fun x => x)⟩
  · rcases h.2 k e with q | q
    · exact .inl q
    · exact .inr (by omega)
/-- v holds just the bytes bs, in a row of one's own -/
abbrev Rw (v : Value) (bs : List UInt8) (w : World) : Prop := RowB v bs.length (bs.map B) w
theorem rw_own {w0 w : World} {v : Value} {bs : List UInt8} (h : Own w0 v bs w) : Rw v bs w := by
  obtain ⟨hl, h1 | ⟨g, cap, cur, rfl, hb, hg, hr⟩⟩ := h.1
  · exact ⟨hl, .inl h1⟩
  · exact ⟨hl, .inr ⟨g, cap, cur, rfl, Nat.zero_le _, hg, hr⟩⟩
theorem own_rw {w0 w : World} {v : Value} {bs : List UInt8} (h : Rw v bs w) (hb : Below w0.heap.size w0 w) (hk : ∀ k, v.ownBlock = some k → w0.heap.size ≤ k) : Own w0 v bs w := by
  obtain ⟨hl, h1 | ⟨g, cap, cur, rfl, _, hg, hr⟩⟩ := h
  · exact ⟨⟨hl, .inl h1⟩, hb⟩
  · exact ⟨⟨hl, .inr ⟨g, cap, cur, rfl, hk g rfl, hg, hr⟩⟩, hb⟩
theorem rw_nil (w : World) : Rw (.slice none 0 0) [] w := World.ownsRow_nil w 0 _ 1
theorem rw_far {v : Value} {bs : List UInt8} {w w' : World} {S : Nat → Prop} (h : Rw v bs w) (hf : Far S w w') (hn : ∀ k, v.ownBlock = some k → ¬ S k) : Rw v bs w' := rowB_far h hf hn
theorem rw_below {v : Value} {bs : List UInt8} {w w' : World} (h : Rw v bs w) (hb : Below w.heap.size w w') : Rw v bs w' := rw_far h (far_of_below hb) (fun _ _ e => e)
theorem holdsB_far {w w' : World} {d : Value} {qs : List UInt8} {S : Nat → Prop} (h : HoldsB w d qs) (hf : Far S w w') (hn : ∀ k, d.ownBlock = some k → ¬ S k) : HoldsB w' d qs := by
  obtain ⟨ao, cap, rfl, h0, hcp, hc⟩ := h
  refine ⟨ao, cap, rfl, h0, hcp, fun hne => ?_⟩
  obtain ⟨b, off, rfl, hlt, hcell⟩ := hc hne
  have hs := hf.2.2.2.1
  exact ⟨b, off, rfl, by omega, fun j hj => by rw [World.cell?_of_block (a := ⟨b, off + j, none⟩) (hf.2.2.2.2 b hlt (hn b rfl))]; exact hcell j hj⟩
/-- d lies in another block than v -/
def Oth (d v : Value) : Prop := ∀ k, d.ownBlock = some k → ¬ v.ownBlock = some k
theorem oth_app {d v u : Value} {w w' : World} {qs : List UInt8} (h : Oth d v) (hd : HoldsB w d qs) (hq : qs ≠ []) (g : AppT v w u w') : Oth d u := by
  intro k e f
  obtain ⟨ao, cap, rfl, h0, hcp, hc⟩ := hd
  obtain ⟨b, off, rfl, hlt, hcell⟩ := hc hq
  obtain rfl : b = k := Option.some.inj e
  rcases g.2 b f with q | q
  · exact h b e q
  · omega
theorem holdsB_app {d v u : Value} {w w' : World} {qs : List UInt8} (hd : HoldsB w d qs) (h : qs ≠ [] → Oth d v) (g : AppT v w u w') : HoldsB w' d qs ∧ (qs ≠ [] → Oth d u) := by
  refine ⟨?_, fun hq => oth_app (h hq) hd hq g⟩
  by_cases hq : qs = []
  · obtain ⟨ao, cp, e, h0, hcp, hcc⟩ := hd
    exact ⟨ao, cp, e, h0, hcp, fun x => absurd hq x⟩
  · exact holdsB_far hd g.1 (h hq)
theorem own_app {W0 wr w' : World} {vb u : Value} {L : List UInt8} (hb : Below W0.heap.size W0 wr) (hlo : ∀ k, vb.ownBlock = some k → W0.heap.size ≤ k) (hA : AppT vb wr u w') (hr : Rw u L w') : Own W0 u L w' := by
  refine own_rw hr (hb.trans (below_far hA.1 _ hb.size hlo)) (fun k e => ?_)
  rcases hA.2 k e with h | h
  · exact hlo k h
  · have := hb.size; omega
theorem oth_new {d v : Value} {n : Nat} (hd : ∀ k, d.ownBlock = some k → n ≤ k) (hv : ∀ k, v.ownBlock = some k → k < n) : Oth d v := by
  intro k e f
  have := hd k e
  have := hv k f
  omega
theorem oth_old {w : World} {d v : Value} {qs : List UInt8} (hd : HoldsB w d qs) (hv : ∀ k, v.ownBlock = some k → w.heap.size ≤ k) (hq : qs ≠ []) : Oth d v := by
  intro k e f
  obtain ⟨ao, cap, rfl, h0, hcp, hc⟩ := hd
  obtain ⟨b, off, rfl, hlt, hcell⟩ := hc hq
  obtain rfl : b = k := Option.some.inj e
  have := hv b f
  omega
/-- one byte can be appended to v, and that gives a row -/
def Ext (v : Value) (bs : List UInt8) (w : World) : Prop := ∀ (c : UInt8) (n : Int) (ty : TypeId), n = (c.toNat : Int) → ∃ v' w', (Builtin.append_ #[57, 57] ty #[v, .slice (some ⟨w.heap.size, 0, none⟩) 1 1]).run Tryz.prog (w.alloc (.cells #[.int .u8 n] 5)) = .ok v' w' ∧ Rw v' (bs ++ [c]) w' ∧ AppT v w v' w'
theorem ext_row {v : Value} {bs : List UInt8} {w : World} (h : Rw v bs w) (hl : bs.length ≤ 100000000) : Ext v bs w := by
  intro c n ty hn
  subst hn
  obtain ⟨i0, hi, hz0, hz1, hz2⟩ := info_parts Tryz.info5
  have hb := below_alloc' w (.cells #[.int .u8 (c.toNat : Int)] 5)
  have h1 := rw_below h hb
  obtain ⟨v', w', hr, h2, h3, _, h5⟩ := run_append_own_at (P := Tryz.prog) (w.alloc (.cells #[.int .u8 (c.toNat : Int)] 5)) 0 57 ty 5 i0 (.int .u8 0) 1 1 Tryz.underlying57 hi hz0 hz1 hz2 rfl (by decide) v bs.length (bs.map B) h1 ⟨w.heap.size, 0, none⟩ 1 1 [.int .u8 (c.toNat : Int)] rfl (cell_one_new _ _ _) (by intro u hu; obtain rfl := List.mem_singleton.1 hu; rfl) (by unfold maxLen; omega) (by omega) (Nat.zero_le _)
  refine ⟨v', w', hr, ?_, appT_below hb ⟨far_grown h3, fun k e => ?_⟩⟩
  · show w'.ownsRow 0 5 1 v' (bs ++ [c]).length ((bs ++ [c]).map B)
    rw [List.length_append, List.map_append]
    exact h2
  · rcases h5 with q | q
    · exact .inl (q ▸ e)
    · rw [q] at e
      obtain rfl := Option.some.inj e
      exact .inr (Nat.le_refl _)
/-- a slice with no room left, whatever its block bears -/
theorem ext_full {g : Nat} {bs : List UInt8} {w : World} (hc : ∀ j (h : j < bs.length), w.cell? ⟨g, j, none⟩ = some (B bs[j])) (hlt : g < w.heap.size) (hl : bs.length ≤ 100000000) : Ext (.slice (some ⟨g, 0, none⟩) bs.length bs.length) bs w := by
  intro c n ty hn
  subst hn
  obtain ⟨i0, hi, hz0, hz1, hz2⟩ := info_parts Tryz.info5
  have hb := below_alloc' w (.cells #[.int .u8 (c.toNat : Int)] 5)
  have hz := hb.size
  have holds : ∀ j x, (bs.map B)[j]? = some x → (w.alloc (.cells #[.int .u8 (c.toNat : Int)] 5)).cell? ((⟨g, 0, none⟩ : Addr).add j) = some x := by
    intro j x hj
    rw [Go.WideShapes.add_plain, Nat.zero_add]
    obtain ⟨hj1, hj2⟩ := List.getElem?_eq_some_iff.1 hj
    rw [List.length_map] at hj1
    rw [hb.cell (p := ⟨g, j, none⟩) hlt, hc j hj1, ← hj2]
    simp
  have hr := run_append_grow (P := Tryz.prog) (w.alloc (.cells #[.int .u8 (c.toNat : Int)] 5)) 57 ty 5 i0 (.int .u8 0) Tryz.underlying57 hi hz0 ⟨g, 0, none⟩ bs.length bs.length (bs.map B) (by rw [hz1]; simp) holds ⟨w.heap.size, 0, none⟩ 1 1 [.int .u8 (c.toNat : Int)] (by rw [hz1]; rfl) (cell_one_new _ _ _) (by omega) (by omega) (by rw [hz2]; exact growslice_fits (by omega) (by omega))
  generalize w.alloc (.cells #[.int .u8 (c.toNat : Int)] 5) = W at hr hb hz
  have hge := grownCap_ge W (bs.length + 1) bs.length 5
  have hcm : grownCap W (bs.length + 1) bs.length 5 ≤ maxLen := grownCap_le_maxLen W (bs.length + 1) bs.length 5 (by unfold maxLen; omega)
  have hzs : (Value.int .u8 0).cells.size = 1 := rfl
  refine ⟨_, _, hr, ⟨by simp, .inr ⟨W.heap.size, _, _, by rw [List.length_append]; rfl, Nat.zero_le _, heap_alloc_new W.drew _, by rw [List.length_append]; exact hge, hcm, ?_, ?_⟩⟩, appT_below hb ⟨⟨rfl, rfl, rfl, by simp, fun k hk _ => heap_alloc_old W.drew _ hk⟩, fun k e => ?_⟩⟩
  · simp only [Array.size_append, List.size_toArray, size_zeroCells, hzs, List.length_map, List.length_singleton]
    omega
  · simp only [Array.toList_append, List.append_assoc]
    rw [← List.append_assoc]
    refine List.take_left' ?_ |>.trans ?_
    · simp
    · rw [List.map_append]; rfl
  · obtain rfl := Option.some.inj e
    exact .inr (Nat.le_refl _)
/-- bytes that stand elsewhere, appended -/
theorem app_rw {v d : Value} {bs qs : List UInt8} {w : World} (h : Rw v bs w) (hd : HoldsB w d qs) (hl : bs.length + qs.length ≤ 100000000) (ty : TypeId) :
    ∃ v' w', (Builtin.append_ #[57, 57] ty #[v, d]).run Tryz.prog w = .ok v' w' ∧ Rw v' (bs ++ qs) w' ∧ AppT v w v' w' := by
  obtain ⟨i0, hi, hz0, hz1, hz2⟩ := info_parts Tryz.info5
  obtain ⟨ao, cap, rfl, h0, hcp, hc⟩ := hd
  have key : ∀ (ad : Addr), ao = some ad → (∀ j x, (qs.map B)[j]? = some x → w.cell? (ad.add j) = some x) → ∃ v' w', (Builtin.append_ #[57, 57] ty #[v, .slice ao qs.length cap]).run Tryz.prog w = .ok v' w' ∧ Rw v' (bs ++ qs) w' ∧ AppT v w v' w' := by
    intro ad e hnews
    subst e
    obtain ⟨v', w', hr, h2, h3, _, h5⟩ := run_append_own_at (P := Tryz.prog) w 0 57 ty 5 i0 (.int .u8 0) 1 1 Tryz.underlying57 hi hz0 hz1 hz2 rfl (by decide) v bs.length (bs.map B) h ad qs.length cap (qs.map B) (by simp) hnews (by intro u hu; obtain ⟨x, _, rfl⟩ := List.mem_map.1 hu; rfl) (by unfold maxLen; omega) (by omega) (Nat.zero_le _)
    refine ⟨v', w', hr, ?_, ⟨far_grown h3, fun k e => ?_⟩⟩
    · show w'.ownsRow 0 5 1 v' (bs ++ qs).length ((bs ++ qs).map B)
      rw [List.length_append, List.map_append]
      exact h2
    · rcases h5 with q | q
      · exact .inl (q ▸ e)
      · rw [q] at e
        obtain rfl := Option.some.inj e
        exact .inr (Nat.le_refl _)
  by_cases hq : qs = []
  · subst hq
    cases ao with
    | none =>
      obtain rfl := h0 rfl
      rw [List.append_nil]
      refine ⟨v, w, ?_, h, appT_refl _ _⟩
      obtain ⟨hl, h1 | ⟨g, cap, cur, rfl, _, hg, hr⟩⟩ := h
      · obtain ⟨rfl, hn⟩ := h1
        simp [Builtin.append_, run_underlying Tryz.underlying57, sizeOf, typeInfo, hi, Builtin.lenOf, Builtin.firstCells]
      · simp [Builtin.append_, run_underlying Tryz.underlying57, sizeOf, typeInfo, hi, Builtin.lenOf, hr.1, Builtin.firstCells, storeCells]
    | some ad => exact key ad rfl (fun j x hj => by simp at hj)
  · obtain ⟨b, off, rfl, hlt, hcell⟩ := hc hq
    refine key ⟨b, off, none⟩ rfl (fun j x hj => ?_)
    rw [Go.WideShapes.add_plain]
    obtain ⟨hj1, hj2⟩ := List.getElem?_eq_some_iff.1 hj
    rw [List.length_map] at hj1
    rw [hcell j hj1, ← hj2]
    simp
end Go.Proofs.YtibjcofbhldenaaGreatDoor
