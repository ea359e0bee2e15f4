/- A request and a response that came in: what the reading says of them. -/
import Derived.Test.YtipcmbonhkelbabGreatDoorBm
import Derived.Lib.SmallJoins
namespace Go.Proofs.YtipcmbonhkelbabGreatDoor
open Go.ChangeShapes Go.WideShapes Go.ChangeAt Go.RowKit
theorem int_wf {n : Int} (h : (Lit.int .i64 n).wf = true) : -9223372036854775808 ≤ n ∧ n ≤ 9223372036854775807 := by
  have h1 : IntKind.i64.min = -9223372036854775808 := rfl
  have h2 : IntKind.i64.max = 9223372036854775807 := rfl
  simp only [Lit.wf, Bool.and_eq_true, decide_eq_true_eq] at h
  omega
theorem ba_list (s : ByteArray) : s = ⟨s.data.toList.toArray⟩ := by cases s; simp
set_option maxRecDepth 100000 in
theorem open_rs {H : Type} {enc : TypeId × Value → H} {W : World} {base : Nat} {v : Value} {d : DataW H} {p : List MemPlace} (hok : Value.okWide Tryz.prog W .any base 24 v) (h : DataW.Trod enc Tryz.prog W 0 (fun _ => true) true 24 v d p) :
    ∃ (s : Int) (r : List UInt8) (k : Int) (lv : Value) (fs : FL), v = .agg #[.int .i64 s, .string ⟨r.toArray⟩, .int .i64 k, lv] ∧ HoldsF W lv fs ∧ r.length + bulkF fs + 5 ≤ Rows.uptoBulk d ∧ (-9223372036854775808 ≤ s ∧ s ≤ 9223372036854775807) ∧ (-9223372036854775808 ≤ k ∧ k ≤ 9223372036854775807) := by
  obtain ⟨v0, v1, v2, v3, y0, y1, y2, y3, n, rfl, rfl, _, h0, h1, h2, h3⟩ := Joins.open_agg4 Tryz.underlying24 (by kernel_rfl) (by kernel_rfl) hok h
  obtain ⟨s, e0, x0, wf0⟩ := DataW.trod_int Tryz.underlying3 h0
  obtain ⟨s1, e1, x1, _⟩ := DataW.trod_string Tryz.underlying9 h1
  obtain ⟨k, e2, x2, wf2⟩ := DataW.trod_int Tryz.underlying3 h2
  obtain ⟨a, l, c, e3⟩ := Joins.slice_form Tryz.underlying22 h3
  simp only [List.cons.injEq, and_true] at e0 e1 e2 e3
  subst e0 e1 e2 e3 x0 x1 x2
  obtain ⟨fs, hF, hb, _⟩ := open_fieldsS ⟨a, l, c, rfl⟩ (⟨n, h3⟩ : DataW.Trod enc Tryz.prog W 0 (fun _ => true) true 22 (.slice a l c) y3.1 y3.2)
  refine ⟨s, s1.data.toList, k, _, fs, by rw [← ba_list], hF, ?_, int_wf wf0, int_wf wf2⟩
  simp only [Rows.uptoBulk, Rows.uptoBulkAll]
  omega
end Go.Proofs.YtipcmbonhkelbabGreatDoor
