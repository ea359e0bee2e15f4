/- A disk's beginning that came in, as conduitlaw11 has it: what the reading says of it. -/
import Derived.Test.YtijnjgnckipghaaGreatOpnS
namespace Go.Proofs.YtijnjgnckipghaaGreat
open Go.ChangeShapes Go.WideShapes Go.ChangeAt Go.RowKit
set_option maxRecDepth 100000 in
theorem open_start11 {H : Type} {enc : TypeId × Value → H} {W : World} {base : Nat} {v : Value} {d : DataW H} {p : List MemPlace} (hok : Value.okWide Tryz.prog W .any base 25 v) (h : DataW.Trod enc Tryz.prog W 0 (fun _ => true) true 25 v d p) :
    ∃ (fv : Value) (fs : FL) (room : Int) (zv : Value) (zs : List Int) (power : Int), v = .agg #[fv, .int .i64 room, zv, .int .i64 power] ∧ HoldsFi W fv fs ∧ HoldsI W zv zs ∧ bulkF fs + zs.length + 4 ≤ Rows.uptoBulk d ∧ (-9223372036854775808 ≤ room ∧ room ≤ 9223372036854775807) ∧ (-9223372036854775808 ≤ power ∧ power ≤ 9223372036854775807) ∧ ∀ z ∈ zs, -9223372036854775808 ≤ z ∧ z ≤ 9223372036854775807 := by
  obtain ⟨v0, v1, v2, v3, y0, y1, y2, y3, n, rfl, rfl, _, h0, h1, h2, h3⟩ := Joins.open_agg4 Tryz.underlying25 (by kernel_rfl) (by kernel_rfl) hok h
  obtain ⟨a, l, c, e0⟩ := Joins.slice_form Tryz.underlying22 h0
  obtain ⟨k, e1, x1, wf1⟩ := DataW.trod_int Tryz.underlying3 h1
  obtain ⟨a2, l2, c2, e2⟩ := Joins.slice_form Tryz.underlying23 h2
  obtain ⟨k3, e3, x3, wf3⟩ := DataW.trod_int Tryz.underlying3 h3
  simp only [List.cons.injEq, and_true] at e0 e1 e2 e3
  subst e0 e1 e2 e3 x1 x3
  obtain ⟨fs, hF, hb⟩ := open_files Tryz.underlying22 Tryz.underlying69 (by kernel_rfl) rfl rfl rfl rfl ⟨a, l, c, rfl⟩ (⟨n, h0⟩ : DataW.Trod enc Tryz.prog W 0 (fun _ => true) true 22 (.slice a l c) y0.1 y0.2)
  obtain ⟨zs, hZ, hzb, hzr⟩ := open_numsS ⟨a2, l2, c2, rfl⟩ (⟨n, h2⟩ : DataW.Trod enc Tryz.prog W 0 (fun _ => true) true 23 (.slice a2 l2 c2) y2.1 y2.2)
  refine ⟨_, fs, k, _, zs, k3, rfl, hF, hZ, ?_, num_wf wf1, num_wf wf3, hzr⟩
  simp only [Rows.uptoBulk, Rows.uptoBulkAll]
  omega
end Go.Proofs.YtijnjgnckipghaaGreat
