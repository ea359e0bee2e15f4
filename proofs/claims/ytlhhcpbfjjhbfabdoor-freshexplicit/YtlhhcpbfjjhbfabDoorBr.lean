/- Copies of requests and responses; two that are alike are told as such. A whole list of bytes appended; the contracts of CopyBytes and SameBytes. The contracts of CopyEntry and SameEntry. A request and a response that came in: what the reading says of them. A list of bytes that came in: what the reading says of it. An entry that came in: what the reading says of it. A policy and a Control that came in: what the reading says of them. -/
import Derived.Test.YtlhhcpbfjjhbfabDoorBm
import Derived.Test.YtlhhcpbfjjhbfabDoorBk
import Derived.Laws.AppendOwnNone
import Derived.WideShapes
import Derived.Lib.SmallJoins
import Derived.ChangeSlices
namespace Go.Proofs.YtlhhcpbfjjhbfabDoor
open Go.RowKit
set_option maxRecDepth 20000 in
set_option maxHeartbeats 4000000 in
theorem copyRq (m t : List UInt8) (k : Int) (fs : FL) (lv : Value) (w : World) (hv : HoldsF w lv fs) (hl : fs.length ≤ 2000000) :
    Calls Tryd.prog 6 #[.agg #[.string ⟨m.toArray⟩, .string ⟨t.toArray⟩, .int .i64 k, lv]] w fun e w' => ∃ u, e = .returned (.agg #[.string ⟨m.toArray⟩, .string ⟨t.toArray⟩, .int .i64 k, u]) ∧ OwnF w u fs w' := by
  obtain ⟨la, lc, lb, lo, hlv, _⟩ := holdsF_parts hv
  subst hlv
  have b1 := below_alloc' w (.cells #[.string ⟨m.toArray⟩, .string ⟨t.toArray⟩, .int .i64 k, .slice la fs.length lc] 24)
  have b2 := below_alloc' (w.alloc (.cells #[.string ⟨m.toArray⟩, .string ⟨t.toArray⟩, .int .i64 k, .slice la fs.length lc] 24)) (.cells #[.string ⟨#[]⟩, .string ⟨#[]⟩, .int .i64 0, .slice none 0 0] 24)
  have Q1 := quad_below (quad_lit w (.string ⟨m.toArray⟩) (.string ⟨t.toArray⟩) (.int .i64 k) (.slice la fs.length lc) 24) b2
  have Q2 := quad_lit (w.alloc (.cells #[.string ⟨m.toArray⟩, .string ⟨t.toArray⟩, .int .i64 k, .slice la fs.length lc] 24)) (.string ⟨#[]⟩) (.string ⟨#[]⟩) (.int .i64 0) (.slice none 0 0) 24
  have z1 : (w.alloc (.cells #[.string ⟨m.toArray⟩, .string ⟨t.toArray⟩, .int .i64 k, .slice la fs.length lc] 24)).heap.size = w.heap.size + 1 := by simp
  rw [z1] at Q2
  have hv2 := holdsF_mono hv (bt' b1 b2)
  have B2 := hide' (bt' b1 b2)
  obtain ⟨W2, hW2⟩ : ∃ W2, W2 = (w.alloc (.cells #[.string ⟨m.toArray⟩, .string ⟨t.toArray⟩, .int .i64 k, .slice la fs.length lc] 24)).alloc (.cells #[.string ⟨#[]⟩, .string ⟨#[]⟩, .int .i64 0, .slice none 0 0] 24) := ⟨_, rfl⟩
  have HW2 := hide' hW2
  have zs : Hid (W2.heap.size = w.heap.size + 2) := by unfold Hid; rw [hW2]; simp
  rw [← hW2] at Q1 Q2 hv2 B2
  have HQ1 := hide' Q1
  have HQ2 := hide' Q2
  have cC := hide' (copyF _ fs _ hv2 (by omega))
  obtain ⟨i0, i1, i2, i3, _⟩ := Q1
  clear hv b1 b2 Q2 hv2 hW2 z1
  go_enter Tryd.func6, Tryd.ntmps6
  go_wp2_with fail
  rw [← HW2.out]
  refine cC.out.mono ?_
  rintro e w3 ⟨u, rfl, ho⟩
  obtain ⟨ua, uc, ub, uo, hu, _⟩ := holdsF_parts (holdsF_own ho)
  subst hu
  have P3 := hide' (quad_below HQ1.out ho.2)
  have Q3 := hide' (quad_below HQ2.out ho.2)
  have B3 := hide' (bt' B2.out ho.2)
  have R3 := hide' ho.1
  clear ho i0 i1 i2 i3 cC HQ1 HQ2
  have P4 := hide' (quad_set3 P3.out (.slice ua fs.length uc))
  have Q4 := hide' (quad_other (o := 3) Q3.out (show w.heap.size + 1 ≠ w.heap.size by omega) (.slice ua fs.length uc))
  have B4 := hide' (B3.out.setCell (p := ⟨w.heap.size, 3, none⟩) (Nat.le_refl _) (.slice ua fs.length uc))
  have R4 := hide' (row_poke (o := 3) (x := .slice ua fs.length uc) R3.out (b := w.heap.size) (by rw [zs.out]; omega))
  obtain ⟨h0, h1, h2, h3, e0, e1, e2, e3, hz⟩ := P3.out
  obtain ⟨k0, k1, k2, k3, d0, d1, d2, d3, dz⟩ := P4.out
  obtain ⟨j0, j1, j2, j3, f0, f1, f2, f3, fz⟩ := Q4.out
  go_wp2_with fail
  obtain ⟨q0, q1, q2, q3⟩ := quad_store Q4.out (.string ⟨m.toArray⟩) (.string ⟨t.toArray⟩) (.int .i64 k) (.slice ua fs.length uc)
  have qb := put4_below B4.out (Nat.le_succ _) (.string ⟨m.toArray⟩) (.string ⟨t.toArray⟩) (.int .i64 k) (.slice ua fs.length uc)
  have qr := row_base (row_put (v0 := .string ⟨m.toArray⟩) (v1 := .string ⟨t.toArray⟩) (v2 := .int .i64 k) (v3 := .slice ua fs.length uc) R4.out (b := w.heap.size + 1) (by rw [zs.out]; omega)) B2.out.size
  unfold put4 at q0 q1 q2 q3 qb qr
  exact bodyPost_ret (v := .agg #[.string ⟨m.toArray⟩, .string ⟨t.toArray⟩, .int .i64 k, .slice ua fs.length uc]) (by simp [results, Tryd.results6, go_sem, q0, q1, q2, q3]) rfl ⟨.slice ua fs.length uc, rfl, qr, qb⟩
set_option maxRecDepth 20000 in
set_option maxHeartbeats 4000000 in
theorem copyRs (s k : Int) (r : List UInt8) (fs : FL) (lv : Value) (w : World) (hv : HoldsF w lv fs) (hl : fs.length ≤ 2000000) :
    Calls Tryd.prog 7 #[.agg #[.int .i64 s, .string ⟨r.toArray⟩, .int .i64 k, lv]] w fun e w' => ∃ u, e = .returned (.agg #[.int .i64 s, .string ⟨r.toArray⟩, .int .i64 k, u]) ∧ OwnF w u fs w' := by
  obtain ⟨la, lc, lb, lo, hlv, _⟩ := holdsF_parts hv
  subst hlv
  have b1 := below_alloc' w (.cells #[.int .i64 s, .string ⟨r.toArray⟩, .int .i64 k, .slice la fs.length lc] 26)
  have b2 := below_alloc' (w.alloc (.cells #[.int .i64 s, .string ⟨r.toArray⟩, .int .i64 k, .slice la fs.length lc] 26)) (.cells #[.int .i64 0, .string ⟨#[]⟩, .int .i64 0, .slice none 0 0] 26)
  have Q1 := quad_below (quad_lit w (.int .i64 s) (.string ⟨r.toArray⟩) (.int .i64 k) (.slice la fs.length lc) 26) b2
  have Q2 := quad_lit (w.alloc (.cells #[.int .i64 s, .string ⟨r.toArray⟩, .int .i64 k, .slice la fs.length lc] 26)) (.int .i64 0) (.string ⟨#[]⟩) (.int .i64 0) (.slice none 0 0) 26
  have z1 : (w.alloc (.cells #[.int .i64 s, .string ⟨r.toArray⟩, .int .i64 k, .slice la fs.length lc] 26)).heap.size = w.heap.size + 1 := by simp
  rw [z1] at Q2
  have hv2 := holdsF_mono hv (bt' b1 b2)
  have B2 := hide' (bt' b1 b2)
  obtain ⟨W2, hW2⟩ : ∃ W2, W2 = (w.alloc (.cells #[.int .i64 s, .string ⟨r.toArray⟩, .int .i64 k, .slice la fs.length lc] 26)).alloc (.cells #[.int .i64 0, .string ⟨#[]⟩, .int .i64 0, .slice none 0 0] 26) := ⟨_, rfl⟩
  have HW2 := hide' hW2
  have zs : Hid (W2.heap.size = w.heap.size + 2) := by unfold Hid; rw [hW2]; simp
  rw [← hW2] at Q1 Q2 hv2 B2
  have HQ1 := hide' Q1
  have HQ2 := hide' Q2
  have cC := hide' (copyF _ fs _ hv2 (by omega))
  obtain ⟨i0, i1, i2, i3, _⟩ := Q1
  clear hv b1 b2 Q2 hv2 hW2 z1
  go_enter Tryd.func7, Tryd.ntmps7
  go_wp2_with fail
  rw [← HW2.out]
  refine cC.out.mono ?_
  rintro e w3 ⟨u, rfl, ho⟩
  obtain ⟨ua, uc, ub, uo, hu, _⟩ := holdsF_parts (holdsF_own ho)
  subst hu
  have P3 := hide' (quad_below HQ1.out ho.2)
  have Q3 := hide' (quad_below HQ2.out ho.2)
  have B3 := hide' (bt' B2.out ho.2)
  have R3 := hide' ho.1
  clear ho i0 i1 i2 i3 cC HQ1 HQ2
  have P4 := hide' (quad_set3 P3.out (.slice ua fs.length uc))
  have Q4 := hide' (quad_other (o := 3) Q3.out (show w.heap.size + 1 ≠ w.heap.size by omega) (.slice ua fs.length uc))
  have B4 := hide' (B3.out.setCell (p := ⟨w.heap.size, 3, none⟩) (Nat.le_refl _) (.slice ua fs.length uc))
  have R4 := hide' (row_poke (o := 3) (x := .slice ua fs.length uc) R3.out (b := w.heap.size) (by rw [zs.out]; omega))
  obtain ⟨h0, h1, h2, h3, e0, e1, e2, e3, hz⟩ := P3.out
  obtain ⟨k0, k1, k2, k3, d0, d1, d2, d3, dz⟩ := P4.out
  obtain ⟨j0, j1, j2, j3, f0, f1, f2, f3, fz⟩ := Q4.out
  go_wp2_with fail
  obtain ⟨q0, q1, q2, q3⟩ := quad_store Q4.out (.int .i64 s) (.string ⟨r.toArray⟩) (.int .i64 k) (.slice ua fs.length uc)
  have qb := put4_below B4.out (Nat.le_succ _) (.int .i64 s) (.string ⟨r.toArray⟩) (.int .i64 k) (.slice ua fs.length uc)
  have qr := row_base (row_put (v0 := .int .i64 s) (v1 := .string ⟨r.toArray⟩) (v2 := .int .i64 k) (v3 := .slice ua fs.length uc) R4.out (b := w.heap.size + 1) (by rw [zs.out]; omega)) B2.out.size
  unfold put4 at q0 q1 q2 q3 qb qr
  exact bodyPost_ret (v := .agg #[.int .i64 s, .string ⟨r.toArray⟩, .int .i64 k, .slice ua fs.length uc]) (by simp [results, Tryd.results7, go_sem, q0, q1, q2, q3]) rfl ⟨.slice ua fs.length uc, rfl, qr, qb⟩
end Go.Proofs.YtlhhcpbfjjhbfabDoor
namespace Go.Proofs.YtlhhcpbfjjhbfabDoor
open Go.RowKit
/-- a whole list of bytes appended -/
theorem appAllB {ops : Array Oper} {rest : List Oper} {o : Oper} {a : Act} {Q : Exit → Act → World → Prop} {wr : World} (hgd : o.guard = none) (s z : Operand)
    (ho : o.op = .call { callee := .builtin .append, args := #[s, z], argTypes := #[37, 37] }) (w0 : World) (v : Value) (ps : List UInt8) (hs : a.eval s = v) (hown : Own w0 v ps wr)
    (u : Value) (qs : List UInt8) (hz : a.eval z = u) (hu : HoldsB wr u qs) (hlen : ps.length + qs.length ≤ 140737488355328)
    (h : ∀ v' w', Own w0 v' (ps ++ qs) w' → wpList Tryd.prog ops Q rest (a.put o.dst v') w') : wpList Tryd.prog ops Q (o :: rest) a wr := by
  obtain ⟨i0, hi, hz0, hz1, hz2⟩ := info_parts Tryd.info5
  have hsz := hown.2.size
  obtain ⟨ao, cap, rfl, h0, hcp, hc⟩ := hu
  have key : ∀ (ad : Addr), ao = some ad → (∀ j x, (qs.map B)[j]? = some x → wr.cell? (ad.add j) = some x) → wpList Tryd.prog ops Q (o :: rest) a wr := by
    intro ad e hnews
    subst e
    refine wpList_append_own _ hgd s z 37 ho w0.heap.size 5 i0 (.int .u8 0) 1 1 Tryd.underlying37 hi hz0 hz1 hz2 rfl (by decide) v ps.length (ps.map B) hs hown.1 ad qs.length cap (qs.map B) hz (by simp) hnews ?_ (by unfold maxLen; omega) (by omega) hsz ?_
    · intro u hu; obtain ⟨x, _, rfl⟩ := List.mem_map.1 hu; rfl
    · intro v' w' h1 h2 _
      refine h v' w' ⟨by rw [List.map_append, List.length_append]; exact h1, ?_⟩
      refine Below.grown hown.2 h2 (by omega) ?_
      intro k hk
      exact (hown.1.lt k hk).1
  by_cases hq : qs = []
  · subst hq
    cases ao with
    | none =>
      obtain rfl := h0 rfl
      refine wpList_append_own_none hgd s z 37 ho w0.heap.size 5 i0 1 Tryd.underlying37 hi v ps.length (ps.map B) hs hown.1 hz ?_
      exact h v wr (by rw [List.append_nil]; exact hown)
    | some ad => exact key ad rfl (fun j x hj => by simp at hj)
  · obtain ⟨b, off, rfl, hlt, hcell⟩ := hc hq
    refine key ⟨b, off, none⟩ rfl (fun j x hj => ?_)
    have e : (⟨b, off, none⟩ : Addr).add j = ⟨b, off + j, none⟩ := Go.WideShapes.add_plain _ _ _
    rw [e]
    obtain ⟨hj1, hj2⟩ := List.getElem?_eq_some_iff.1 hj
    rw [List.length_map] at hj1
    rw [hcell j hj1, ← hj2]
    simp
theorem own_mono {w0 w w' : World} {v : Value} {ps : List UInt8} (h : Own w0 v ps w) (hb : Below w.heap.size w w') : Own w0 v ps w' := by
  have hz := h.2.size
  refine ⟨?_, h.2.trans (hb.mono hz)⟩
  obtain ⟨hl, h1 | ⟨g, cap, cur, rfl, hg, hh, hr⟩⟩ := h.1
  · exact ⟨hl, .inl h1⟩
  · have hlt : g < w.heap.size := by
      rcases Nat.lt_or_ge g w.heap.size with h | h
      · exact h
      · rw [Array.getElem?_eq_none (by omega)] at hh; cases hh
    exact ⟨hl, .inr ⟨g, cap, cur, rfl, hg, by rw [hb.block g hlt]; exact hh, hr⟩⟩
theorem own_base {w w1 w2 : World} {v : Value} {ps : List UInt8} (h : Own w1 v ps w2) (hb : Below w.heap.size w w1) : Own w v ps w2 := by
  have hz := hb.size
  refine ⟨?_, hb.trans (h.2.mono hz)⟩
  obtain ⟨hl, h1 | ⟨g, cap, cur, hv, hg, hr⟩⟩ := h.1
  · exact ⟨hl, .inl h1⟩
  · exact ⟨hl, .inr ⟨g, cap, cur, hv, by omega, hr⟩⟩
end Go.Proofs.YtlhhcpbfjjhbfabDoor
namespace Go.Proofs.YtlhhcpbfjjhbfabDoor
open Go.RowKit
end Go.Proofs.YtlhhcpbfjjhbfabDoor
namespace Go.Proofs.YtlhhcpbfjjhbfabDoor
open Go.ChangeShapes Go.WideShapes Go.ChangeAt Go.RowKit
theorem int_wf {n : Int} (h : (Lit.int .i64 n).wf = true) : -9223372036854775808 ≤ n ∧ n ≤ 9223372036854775807 := by
  have h1 : IntKind.i64.min = -9223372036854775808 := rfl
  have h2 : IntKind.i64.max = 9223372036854775807 := rfl
  simp only [Lit.wf, Bool.and_eq_true, decide_eq_true_eq] at h
  omega
theorem ba_list (s : ByteArray) : s = ⟨s.data.toList.toArray⟩ := by cases s; simp
set_option maxRecDepth 100000 in
theorem open_rq {H : Type} {enc : TypeId × Value → H} {W : World} {base : Nat} {v : Value} {d : DataW H} {p : List MemPlace} (hok : Value.okWide Tryd.prog W .any base 24 v) (h : DataW.Trod enc Tryd.prog W 0 (fun _ => true) true 24 v d p) :
    ∃ (m t : List UInt8) (k : Int) (lv : Value) (fs : FL), v = .agg #[.string ⟨m.toArray⟩, .string ⟨t.toArray⟩, .int .i64 k, lv] ∧ HoldsF W lv fs ∧ m.length + t.length + bulkF fs + 5 ≤ Rows.uptoBulk d ∧ (-9223372036854775808 ≤ k ∧ k ≤ 9223372036854775807) := by
  obtain ⟨v0, v1, v2, v3, y0, y1, y2, y3, n, rfl, rfl, _, h0, h1, h2, h3⟩ := Joins.open_agg4 Tryd.underlying24 (by kernel_rfl) (by kernel_rfl) hok h
  obtain ⟨s0, e0, x0, _⟩ := DataW.trod_string Tryd.underlying9 h0
  obtain ⟨s1, e1, x1, _⟩ := DataW.trod_string Tryd.underlying9 h1
  obtain ⟨k, e2, x2, wf⟩ := DataW.trod_int Tryd.underlying3 h2
  obtain ⟨a, l, c, e3⟩ := Joins.slice_form Tryd.underlying22 h3
  simp only [List.cons.injEq, and_true] at e0 e1 e2 e3
  subst e0 e1 e2 e3 x0 x1 x2
  obtain ⟨fs, hF, hb, _⟩ := open_fieldsS ⟨a, l, c, rfl⟩ (⟨n, h3⟩ : DataW.Trod enc Tryd.prog W 0 (fun _ => true) true 22 (.slice a l c) y3.1 y3.2)
  refine ⟨s0.data.toList, s1.data.toList, k, _, fs, by rw [← ba_list, ← ba_list], hF, ?_, int_wf wf⟩
  simp only [Rows.uptoBulk, Rows.uptoBulkAll]
  omega
set_option maxRecDepth 100000 in
theorem open_rs {H : Type} {enc : TypeId × Value → H} {W : World} {base : Nat} {v : Value} {d : DataW H} {p : List MemPlace} (hok : Value.okWide Tryd.prog W .any base 26 v) (h : DataW.Trod enc Tryd.prog W 0 (fun _ => true) true 26 v d p) :
    ∃ (s : Int) (r : List UInt8) (k : Int) (lv : Value) (fs : FL), v = .agg #[.int .i64 s, .string ⟨r.toArray⟩, .int .i64 k, lv] ∧ HoldsF W lv fs ∧ r.length + bulkF fs + 5 ≤ Rows.uptoBulk d ∧ (-9223372036854775808 ≤ s ∧ s ≤ 9223372036854775807) ∧ (-9223372036854775808 ≤ k ∧ k ≤ 9223372036854775807) := by
  obtain ⟨v0, v1, v2, v3, y0, y1, y2, y3, n, rfl, rfl, _, h0, h1, h2, h3⟩ := Joins.open_agg4 Tryd.underlying26 (by kernel_rfl) (by kernel_rfl) hok h
  obtain ⟨s, e0, x0, wf0⟩ := DataW.trod_int Tryd.underlying3 h0
  obtain ⟨s1, e1, x1, _⟩ := DataW.trod_string Tryd.underlying9 h1
  obtain ⟨k, e2, x2, wf2⟩ := DataW.trod_int Tryd.underlying3 h2
  obtain ⟨a, l, c, e3⟩ := Joins.slice_form Tryd.underlying22 h3
  simp only [List.cons.injEq, and_true] at e0 e1 e2 e3
  subst e0 e1 e2 e3 x0 x1 x2
  obtain ⟨fs, hF, hb, _⟩ := open_fieldsS ⟨a, l, c, rfl⟩ (⟨n, h3⟩ : DataW.Trod enc Tryd.prog W 0 (fun _ => true) true 22 (.slice a l c) y3.1 y3.2)
  refine ⟨s, s1.data.toList, k, _, fs, by rw [← ba_list], hF, ?_, int_wf wf0, int_wf wf2⟩
  simp only [Rows.uptoBulk, Rows.uptoBulkAll]
  omega
end Go.Proofs.YtlhhcpbfjjhbfabDoor
namespace Go.Proofs.YtlhhcpbfjjhbfabDoor
open Go.ChangeShapes Go.WideShapes Go.ChangeAt Go.RowKit
set_option maxRecDepth 100000 in
theorem open_bytes {H : Type} {enc : TypeId × Value → H} {W : World} {base : Nat} {v : Value} {d : DataW H} {p : List MemPlace} (hok : Value.okWide Tryd.prog W .any base 37 v) (h : DataW.Trod enc Tryd.prog W 0 (fun _ => true) true 37 v d p) :
    ∃ bs : List UInt8, HoldsB W v bs ∧ bs.length + 1 ≤ Rows.uptoBulk d ∧ ((∀ n ∈ d.weights Tryd.prog 37, n ≤ reachBytes) → bs.length ≤ reachBytes) := by
  obtain ⟨a0, len0, cap0, rfl⟩ := okWide_slice Tryd.underlying37 hok
  obtain ⟨fuel, hf⟩ := h
  rcases open_ints Tryd.underlying37 Tryd.underlying5 (by kernel_rfl) hf with ⟨hcs, hx⟩ | ⟨x, l, c, zs, hcs, _, hl, hm, hz, hx, hcell, hws⟩
  · simp [Value.cells] at hcs
    obtain ⟨rfl, rfl, rfl⟩ := hcs
    simp only [Prod.mk.injEq] at hx
    obtain ⟨rfl, _⟩ := hx
    exact ⟨[], ⟨none, 0, rfl, fun _ => rfl, Nat.le_refl _, fun h => absurd rfl h⟩, by simp [Rows.uptoBulk], fun _ => by simp⟩
  · simp [Value.cells] at hcs
    obtain ⟨rfl, rfl, rfl⟩ := hcs
    simp only [Prod.mk.injEq] at hx
    obtain ⟨hd, _⟩ := hx
    have hz' : zs.length = cap0 := by simpa using hz
    have hlen : ((zs.take len0).map (fun z : Int => UInt8.ofNat z.toNat)).length = len0 := by rw [List.length_map, List.length_take, Nat.min_eq_left (by omega)]
    refine ⟨(zs.take len0).map (fun z : Int => UInt8.ofNat z.toNat), ⟨some x, cap0, by rw [hlen], (fun e => by cases e), by omega, ?_⟩, ?_, ?_⟩
    · intro hne
      have hpos : 0 < len0 := by
        rcases Nat.eq_zero_or_pos len0 with h | h
        · subst h; simp at hne
        · exact h
      obtain ⟨b, off, rfl, hblt⟩ := addr_at (hcell 0 (by omega))
      refine ⟨b, off, rfl, hblt, fun j hj => ?_⟩
      rw [hlen] at hj
      have hc := hcell j (by omega)
      rw [Go.WideShapes.add_plain] at hc
      rw [hc]
      have hjz : j < zs.length := by omega
      simp only [List.getElem_map, List.getElem_take]
      rw [List.getD_eq_getElem?_getD, List.getElem?_eq_getElem hjz]
      have hw := hws _ (List.getElem_mem hjz)
      have hb : 0 ≤ zs[j] ∧ zs[j] < 256 := byte_wf hw
      show some (Value.int .u8 zs[j]) = some (B _)
      unfold B
      simp only [Option.some.injEq, Value.int.injEq, true_and]
      rw [UInt8.toNat_ofNat']
      omega
    · rw [hd, hlen]
      simp only [Rows.uptoBulk]
      rw [bulk_lits, List.length_take, Nat.min_eq_left (by omega)]
      omega
    · intro hw
      have hub : Tryd.prog.bytesOf 5 = 1 := by kernel_rfl
      rw [hd] at hw
      simp only [DataW.weights, Tryd.underlying37, List.mem_cons, List.mem_append, forall_eq_or_imp, hub] at hw
      obtain ⟨hw1, hw2⟩ := hw
      rw [hlen]
      have e : (lits (H := H) .u8 (zs.take len0)).length = len0 := by unfold lits; rw [List.length_map, List.length_take, Nat.min_eq_left (by omega)]
      rw [e] at hw1
      omega
end Go.Proofs.YtlhhcpbfjjhbfabDoor
namespace Go.Proofs.YtlhhcpbfjjhbfabDoor
open Go.ChangeShapes Go.WideShapes Go.ChangeAt Go.RowKit
theorem array9 {α : Type} {cs : Array α} (h : cs.size = 9) : ∃ c0 c1 c2 c3 c4 c5 c6 c7 c8, cs = #[c0, c1, c2, c3, c4, c5, c6, c7, c8] := by
  obtain ⟨l⟩ := cs
  match l, h with
  | [c0, c1, c2, c3, c4, c5, c6, c7, c8], _ => exact ⟨c0, c1, c2, c3, c4, c5, c6, c7, c8, rfl⟩
theorem list6 {α : Type} {xs : List α} (h : xs.length = 6) : ∃ c0 c1 c2 c3 c4 c5, xs = [c0, c1, c2, c3, c4, c5] := by
  match xs, h with
  | [c0, c1, c2, c3, c4, c5], _ => exact ⟨c0, c1, c2, c3, c4, c5, rfl⟩
/-- bytes in a slice whose form is known -/
theorem open_bytesS {H : Type} {enc : TypeId × Value → H} {W : World} {v : Value} {d : DataW H} {p : List MemPlace} (hform : ∃ a l c, v = .slice a l c) (h : DataW.Trod enc Tryd.prog W 0 (fun _ => true) true 37 v d p) :
    ∃ bs : List UInt8, HoldsB W v bs ∧ bs.length + 1 ≤ Rows.uptoBulk d := by
  obtain ⟨a0, len0, cap0, rfl⟩ := hform
  obtain ⟨fuel, hf⟩ := h
  rcases open_ints Tryd.underlying37 Tryd.underlying5 (by kernel_rfl) hf with ⟨hcs, hx⟩ | ⟨x, l, c, zs, hcs, _, hl, hm, hz, hx, hcell, hws⟩
  · simp [Value.cells] at hcs
    obtain ⟨rfl, rfl, rfl⟩ := hcs
    simp only [Prod.mk.injEq] at hx
    obtain ⟨rfl, _⟩ := hx
    exact ⟨[], ⟨none, 0, rfl, fun _ => rfl, Nat.le_refl _, fun h => absurd rfl h⟩, by simp [Rows.uptoBulk]⟩
  · simp [Value.cells] at hcs
    obtain ⟨rfl, rfl, rfl⟩ := hcs
    simp only [Prod.mk.injEq] at hx
    obtain ⟨hd, _⟩ := hx
    have hz' : zs.length = cap0 := by simpa using hz
    have hlen : ((zs.take len0).map (fun z : Int => UInt8.ofNat z.toNat)).length = len0 := by rw [List.length_map, List.length_take, Nat.min_eq_left (by omega)]
    refine ⟨(zs.take len0).map (fun z : Int => UInt8.ofNat z.toNat), ⟨some x, cap0, by rw [hlen], (fun e => by cases e), by omega, ?_⟩, ?_⟩
    · intro hne
      have hpos : 0 < len0 := by
        rcases Nat.eq_zero_or_pos len0 with h | h
        · subst h; simp at hne
        · exact h
      obtain ⟨b, off, rfl, hblt⟩ := addr_at (hcell 0 (by omega))
      refine ⟨b, off, rfl, hblt, fun j hj => ?_⟩
      rw [hlen] at hj
      have hc := hcell j (by omega)
      rw [Go.WideShapes.add_plain] at hc
      rw [hc]
      have hjz : j < zs.length := by omega
      simp only [List.getElem_map, List.getElem_take]
      rw [List.getD_eq_getElem?_getD, List.getElem?_eq_getElem hjz]
      have hw := hws _ (List.getElem_mem hjz)
      have hb : 0 ≤ zs[j] ∧ zs[j] < 256 := byte_wf hw
      show some (Value.int .u8 zs[j]) = some (B _)
      unfold B
      simp only [Option.some.injEq, Value.int.injEq, true_and]
      rw [UInt8.toNat_ofNat']
      omega
    · rw [hd, hlen]
      simp only [Rows.uptoBulk]
      rw [bulk_lits, List.length_take, Nat.min_eq_left (by omega)]
      omega
set_option maxRecDepth 100000 in
theorem open_entry {H : Type} {enc : TypeId × Value → H} {W : World} {base : Nat} {v : Value} {d : DataW H} {p : List MemPlace} (hok : Value.okWide Tryd.prog W .any base 39 v) (h : DataW.Trod enc Tryd.prog W 0 (fun _ => true) true 39 v d p) :
    ∃ (e : En) (lv bv : Value), v = entV e lv bv ∧ HoldsF W lv e.r.fs ∧ HoldsB W bv e.body ∧ e.key.length + e.vary.length + e.r.r.length + bulkF e.r.fs + e.body.length + 5 ≤ Rows.uptoBulk d := by
  obtain ⟨cs, rfl, hsz⟩ := okWide_struct Tryd.underlying39 hok
  have hC : Tryd.prog.cellsOf 39 = 9 := by kernel_rfl
  have k1 : Tryd.prog.cellsOf 9 = 1 := by kernel_rfl
  have k2 : Tryd.prog.cellsOf 26 = 4 := by kernel_rfl
  have k3 : Tryd.prog.cellsOf 37 = 1 := by kernel_rfl
  have k4 : Tryd.prog.cellsOf 3 = 1 := by kernel_rfl
  have k5 : Tryd.prog.cellsOf 22 = 1 := by kernel_rfl
  obtain ⟨c0, c1, c2, c3, c4, c5, c6, c7, c8, rfl⟩ := array9 (hsz.trans hC)
  obtain ⟨fuel, hf⟩ := h
  obtain ⟨xs, n, _, hx, _, hlen, hfl⟩ := DataW.trod_struct Tryd.underlying39 hf
  obtain ⟨y0, y1, y2, y3, y4, y5, rfl⟩ := list6 hlen
  have h0 := hfl 0 _ rfl
  have h1 := hfl 1 _ rfl
  have h2 := hfl 2 _ rfl
  have h3 := hfl 3 _ rfl
  have h4 := hfl 4 _ rfl
  have h5 := hfl 5 _ rfl
  simp [Value.cells, k1, k2, k3, k4] at h0 h1 h2 h3 h4 h5
  simp only [Prod.mk.injEq] at hx
  obtain ⟨rfl, _⟩ := hx
  obtain ⟨s0, e0, x0, _⟩ := DataW.trod_string Tryd.underlying9 h0
  obtain ⟨s1, e1, x1, _⟩ := DataW.trod_string Tryd.underlying9 h1
  obtain ⟨z0, z1, z2, z3, n2, hr, _, g0, g1, g2, g3⟩ := Joins.trod_struct4 Tryd.underlying26 h2
  simp [k1, k4, k5] at g0 g1 g2 g3
  obtain ⟨st, e2, x2, _⟩ := DataW.trod_int Tryd.underlying3 g0
  obtain ⟨s3, e3, x3, _⟩ := DataW.trod_string Tryd.underlying9 g1
  obtain ⟨mi, e4, x4, _⟩ := DataW.trod_int Tryd.underlying3 g2
  obtain ⟨fa, fl, fc, e5⟩ := Joins.slice_form Tryd.underlying22 g3
  obtain ⟨ba, bl, bc, e6⟩ := Joins.slice_form Tryd.underlying37 h3
  obtain ⟨as1, e7, x7, _⟩ := DataW.trod_int Tryd.underlying3 h4
  obtain ⟨gt, e8, x8, _⟩ := DataW.trod_int Tryd.underlying3 h5
  simp only [List.cons.injEq, and_true] at e0 e1 e2 e3 e4 e5 e6 e7 e8
  subst e0 e1 e2 e3 e4 e5 e6 e7 e8 x0 x1 x2 x3 x4 x7 x8
  obtain ⟨fs, hF, hb, _⟩ := open_fieldsS ⟨fa, fl, fc, rfl⟩ (⟨n2, g3⟩ : DataW.Trod enc Tryd.prog W 0 (fun _ => true) true 22 (.slice fa fl fc) z3.1 z3.2)
  obtain ⟨bs, hB, hb2⟩ := open_bytesS ⟨ba, bl, bc, rfl⟩ (⟨n, h3⟩ : DataW.Trod enc Tryd.prog W 0 (fun _ => true) true 37 (.slice ba bl bc) y3.1 y3.2)
  refine ⟨⟨s0.data.toList, s1.data.toList, ⟨st, s3.data.toList, mi, fs⟩, bs, as1, gt⟩, .slice fa fl fc, .slice ba bl bc, by unfold entV; rw [← ba_list, ← ba_list, ← ba_list], hF, hB, ?_⟩
  subst hr
  simp only [Rows.uptoBulk, Rows.uptoBulkAll, List.map_cons, List.map_nil]
  omega
end Go.Proofs.YtlhhcpbfjjhbfabDoor
namespace Go.Proofs.YtlhhcpbfjjhbfabDoor
open Go.ChangeShapes Go.WideShapes Go.ChangeAt Go.RowKit
set_option maxRecDepth 100000 in
theorem open_pol {H : Type} {enc : TypeId × Value → H} {W : World} {base : Nat} {v : Value} {d : DataW H} {p : List MemPlace} (hok : Value.okWide Tryd.prog W .any base 35 v) (h : DataW.Trod enc Tryd.prog W 0 (fun _ => true) true 35 v d p) :
    ∃ (p0 p1 p2 p3 : Int), v = .agg #[.int .i64 p0, .int .i64 p1, .int .i64 p2, .int .i64 p3] := by
  obtain ⟨v0, v1, v2, v3, y0, y1, y2, y3, n, rfl, rfl, _, h0, h1, h2, h3⟩ := Joins.open_agg4 Tryd.underlying35 (by kernel_rfl) (by kernel_rfl) hok h
  obtain ⟨k0, e0, _, _⟩ := DataW.trod_int Tryd.underlying3 h0
  obtain ⟨k1, e1, _, _⟩ := DataW.trod_int Tryd.underlying3 h1
  obtain ⟨k2, e2, _, _⟩ := DataW.trod_int Tryd.underlying3 h2
  obtain ⟨k3, e3, _, _⟩ := DataW.trod_int Tryd.underlying3 h3
  simp only [List.cons.injEq, and_true] at e0 e1 e2 e3
  subst e0 e1 e2 e3
  exact ⟨k0, k1, k2, k3, rfl⟩
theorem array10 {α : Type} {cs : Array α} (h : cs.size = 10) : ∃ c0 c1 c2 c3 c4 c5 c6 c7 c8 c9, cs = #[c0, c1, c2, c3, c4, c5, c6, c7, c8, c9] := by
  obtain ⟨l⟩ := cs
  match l, h with
  | [c0, c1, c2, c3, c4, c5, c6, c7, c8, c9], _ => exact ⟨c0, c1, c2, c3, c4, c5, c6, c7, c8, c9, rfl⟩
theorem list10 {α : Type} {xs : List α} (h : xs.length = 10) : ∃ c0 c1 c2 c3 c4 c5 c6 c7 c8 c9, xs = [c0, c1, c2, c3, c4, c5, c6, c7, c8, c9] := by
  match xs, h with
  | [c0, c1, c2, c3, c4, c5, c6, c7, c8, c9], _ => exact ⟨c0, c1, c2, c3, c4, c5, c6, c7, c8, c9, rfl⟩
set_option maxRecDepth 100000 in
theorem open_ctl {H : Type} {enc : TypeId × Value → H} {W : World} {base : Nat} {v : Value} {d : DataW H} {p : List MemPlace} (hok : Value.okWide Tryd.prog W .any base 31 v) (h : DataW.Trod enc Tryd.prog W 0 (fun _ => true) true 31 v d p) :
    ∃ (b0 b1 b2 b3 b4 b5 : Bool) (n6 n7 n8 n9 : Int), v = .agg #[.bool b0, .bool b1, .bool b2, .bool b3, .bool b4, .bool b5, .int .i64 n6, .int .i64 n7, .int .i64 n8, .int .i64 n9] := by
  obtain ⟨cs, rfl, hsz⟩ := okWide_struct Tryd.underlying31 hok
  have hC : Tryd.prog.cellsOf 31 = 10 := by kernel_rfl
  have k1 : Tryd.prog.cellsOf 4 = 1 := by kernel_rfl
  have k2 : Tryd.prog.cellsOf 3 = 1 := by kernel_rfl
  obtain ⟨c0, c1, c2, c3, c4, c5, c6, c7, c8, c9, rfl⟩ := array10 (hsz.trans hC)
  obtain ⟨fuel, hf⟩ := h
  obtain ⟨xs, n, _, hx, _, hlen, hfl⟩ := DataW.trod_struct Tryd.underlying31 hf
  obtain ⟨y0, y1, y2, y3, y4, y5, y6, y7, y8, y9, rfl⟩ := list10 hlen
  have h0 := hfl 0 _ rfl
  have h1 := hfl 1 _ rfl
  have h2 := hfl 2 _ rfl
  have h3 := hfl 3 _ rfl
  have h4 := hfl 4 _ rfl
  have h5 := hfl 5 _ rfl
  have h6 := hfl 6 _ rfl
  have h7 := hfl 7 _ rfl
  have h8 := hfl 8 _ rfl
  have h9 := hfl 9 _ rfl
  simp [Value.cells, k1, k2] at h0 h1 h2 h3 h4 h5 h6 h7 h8 h9
  clear hx hfl hlen hf
  obtain ⟨x0, e0, _⟩ := DataW.trod_bool Tryd.underlying4 h0
  obtain ⟨x1, e1, _⟩ := DataW.trod_bool Tryd.underlying4 h1
  obtain ⟨x2, e2, _⟩ := DataW.trod_bool Tryd.underlying4 h2
  obtain ⟨x3, e3, _⟩ := DataW.trod_bool Tryd.underlying4 h3
  obtain ⟨x4, e4, _⟩ := DataW.trod_bool Tryd.underlying4 h4
  obtain ⟨x5, e5, _⟩ := DataW.trod_bool Tryd.underlying4 h5
  obtain ⟨x6, e6, _, _⟩ := DataW.trod_int Tryd.underlying3 h6
  obtain ⟨x7, e7, _, _⟩ := DataW.trod_int Tryd.underlying3 h7
  obtain ⟨x8, e8, _, _⟩ := DataW.trod_int Tryd.underlying3 h8
  obtain ⟨x9, e9, _, _⟩ := DataW.trod_int Tryd.underlying3 h9
  simp only [List.cons.injEq, and_true] at e0 e1 e2 e3 e4 e5 e6 e7 e8 e9
  subst e0 e1 e2 e3 e4 e5 e6 e7 e8 e9
  exact ⟨x0, x1, x2, x3, x4, x5, x6, x7, x8, x9, rfl⟩
end Go.Proofs.YtlhhcpbfjjhbfabDoor
