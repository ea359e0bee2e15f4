/- A disk's beginning, a script of steps and a fate that came in: what the reading says of them. -/
import Derived.Test.YtijnjgnckipghaaGreatBw11
import Derived.Lib.SmallJoins
namespace Go.Proofs.YtijnjgnckipghaaGreat
open Go.ChangeShapes Go.WideShapes Go.ChangeAt Go.RowKit
theorem num_wf {n : Int} (h : (Lit.int .i64 n).wf = true) : -9223372036854775808 ≤ n ∧ n ≤ 9223372036854775807 := i64_wf h
set_option maxRecDepth 100000 in
theorem open_fate {H : Type} {enc : TypeId × Value → H} {W : World} {base : Nat} {v : Value} {d : DataW H} {p : List MemPlace} (hok : Value.okWide Tryz.prog W .any base 28 v) (h : DataW.Trod enc Tryz.prog W 0 (fun _ => true) true 28 v d p) :
    ∃ (k : Int) (kv : Value) (zs : List Int), v = .agg #[.int .i64 k, kv] ∧ HoldsI W kv zs ∧ zs.length + 2 ≤ Rows.uptoBulk d ∧ (-9223372036854775808 ≤ k ∧ k ≤ 9223372036854775807) ∧ ∀ z ∈ zs, -9223372036854775808 ≤ z ∧ z ≤ 9223372036854775807 := by
  obtain ⟨v0, v1, y0, y1, n, rfl, rfl, _, h0, h1⟩ := Joins.open_agg2 Tryz.underlying28 (by kernel_rfl) (by kernel_rfl) hok h
  obtain ⟨k, e0, x0, wf0⟩ := DataW.trod_int Tryz.underlying3 h0
  obtain ⟨a, l, c, e1⟩ := Joins.slice_form Tryz.underlying23 h1
  simp only [List.cons.injEq, and_true] at e0 e1
  subst e0 e1 x0
  obtain ⟨zs, hZ, hzb, hzr⟩ := open_numsS ⟨a, l, c, rfl⟩ (⟨n, h1⟩ : DataW.Trod enc Tryz.prog W 0 (fun _ => true) true 23 (.slice a l c) y1.1 y1.2)
  refine ⟨k, _, zs, rfl, hZ, ?_, num_wf wf0, hzr⟩
  simp only [Rows.uptoBulk, Rows.uptoBulkAll]
  omega
set_option maxRecDepth 100000 in
theorem open_script {H : Type} {enc : TypeId × Value → H} {W : World} {base : Nat} {v : Value} {d : DataW H} {p : List MemPlace} (hok : Value.okWide Tryz.prog W .any base 88 v) (h : DataW.Trod enc Tryz.prog W 0 (fun _ => true) true 88 v d p) :
    ∃ os : List OpT, HoldsO W v os ∧ bulkO os + 1 ≤ Rows.uptoBulk d ∧ ∀ o ∈ os, -9223372036854775808 ≤ o.1 ∧ o.1 ≤ 9223372036854775807 :=
  open_ops Tryz.underlying88 Tryz.underlying83 (by kernel_rfl) rfl rfl rfl rfl rfl rfl rfl rfl (okWide_slice Tryz.underlying88 hok) h
end Go.Proofs.YtijnjgnckipghaaGreat
