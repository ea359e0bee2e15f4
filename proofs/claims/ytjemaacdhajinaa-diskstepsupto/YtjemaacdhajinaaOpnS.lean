/- A disk's beginning, a script of steps and a fate that came in: what the reading says of them. -/
import Derived.Test.YtjemaacdhajinaaOpnI
import Derived.Test.YtjemaacdhajinaaOpnO
import Derived.Lib.SmallJoins
namespace Go.Proofs.Ytjemaacdhajinaa
open Go.ChangeShapes Go.WideShapes Go.ChangeAt Go.RowKit
theorem num_wf {n : Int} (h : (Lit.int .i64 n).wf = true) : -9223372036854775808 ≤ n ∧ n ≤ 9223372036854775807 := i64_wf h
set_option maxRecDepth 100000 in
theorem open_start {H : Type} {enc : TypeId × Value → H} {W : World} {base : Nat} {v : Value} {d : DataW H} {p : List MemPlace} (hok : Value.okWide Try.prog W .any base 25 v) (h : DataW.Trod enc Try.prog W 0 (fun _ => true) true 25 v d p) :
    ∃ (fv : Value) (fs : FL) (room : Int) (zv : Value) (zs : List Int) (power : Int), v = .agg #[fv, .int .i64 room, zv, .int .i64 power] ∧ HoldsFi W fv fs ∧ HoldsI W zv zs ∧ bulkF fs + zs.length + 4 ≤ Rows.uptoBulk d ∧ (-9223372036854775808 ≤ room ∧ room ≤ 9223372036854775807) ∧ (-9223372036854775808 ≤ power ∧ power ≤ 9223372036854775807) ∧ ∀ z ∈ zs, -9223372036854775808 ≤ z ∧ z ≤ 9223372036854775807 := by
  obtain ⟨v0, v1, v2, v3, y0, y1, y2, y3, n, rfl, rfl, _, h0, h1, h2, h3⟩ := Joins.open_agg4 Try.underlying25 (by kernel_rfl) (by kernel_rfl) hok h
  obtain ⟨a, l, c, e0⟩ := Joins.slice_form Try.underlying22 h0
  obtain ⟨k, e1, x1, wf1⟩ := DataW.trod_int Try.underlying3 h1
  obtain ⟨a2, l2, c2, e2⟩ := Joins.slice_form Try.underlying23 h2
  obtain ⟨k3, e3, x3, wf3⟩ := DataW.trod_int Try.underlying3 h3
  simp only [List.cons.injEq, and_true] at e0 e1 e2 e3
  subst e0 e1 e2 e3 x1 x3
  obtain ⟨fs, hF, hb⟩ := open_files Try.underlying22 Try.underlying64 (by kernel_rfl) rfl rfl rfl rfl ⟨a, l, c, rfl⟩ (⟨n, h0⟩ : DataW.Trod enc Try.prog W 0 (fun _ => true) true 22 (.slice a l c) y0.1 y0.2)
  obtain ⟨zs, hZ, hzb, hzr⟩ := open_numsS ⟨a2, l2, c2, rfl⟩ (⟨n, h2⟩ : DataW.Trod enc Try.prog W 0 (fun _ => true) true 23 (.slice a2 l2 c2) y2.1 y2.2)
  refine ⟨_, fs, k, _, zs, k3, rfl, hF, hZ, ?_, num_wf wf1, num_wf wf3, hzr⟩
  simp only [Rows.uptoBulk, Rows.uptoBulkAll]
  omega
set_option maxRecDepth 100000 in
theorem open_fate {H : Type} {enc : TypeId × Value → H} {W : World} {base : Nat} {v : Value} {d : DataW H} {p : List MemPlace} (hok : Value.okWide Try.prog W .any base 55 v) (h : DataW.Trod enc Try.prog W 0 (fun _ => true) true 55 v d p) :
    ∃ (k : Int) (kv : Value) (zs : List Int), v = .agg #[.int .i64 k, kv] ∧ HoldsI W kv zs ∧ zs.length + 2 ≤ Rows.uptoBulk d ∧ (-9223372036854775808 ≤ k ∧ k ≤ 9223372036854775807) ∧ ∀ z ∈ zs, -9223372036854775808 ≤ z ∧ z ≤ 9223372036854775807 := by
  obtain ⟨v0, v1, y0, y1, n, rfl, rfl, _, h0, h1⟩ := Joins.open_agg2 Try.underlying55 (by kernel_rfl) (by kernel_rfl) hok h
  obtain ⟨k, e0, x0, wf0⟩ := DataW.trod_int Try.underlying3 h0
  obtain ⟨a, l, c, e1⟩ := Joins.slice_form Try.underlying23 h1
  simp only [List.cons.injEq, and_true] at e0 e1
  subst e0 e1 x0
  obtain ⟨zs, hZ, hzb, hzr⟩ := open_numsS ⟨a, l, c, rfl⟩ (⟨n, h1⟩ : DataW.Trod enc Try.prog W 0 (fun _ => true) true 23 (.slice a l c) y1.1 y1.2)
  refine ⟨k, _, zs, rfl, hZ, ?_, num_wf wf0, hzr⟩
  simp only [Rows.uptoBulk, Rows.uptoBulkAll]
  omega
set_option maxRecDepth 100000 in
theorem open_script {H : Type} {enc : TypeId × Value → H} {W : World} {base : Nat} {v : Value} {d : DataW H} {p : List MemPlace} (hok : Value.okWide Try.prog W .any base 26 v) (h : DataW.Trod enc Try.prog W 0 (fun _ => true) true 26 v d p) :
    ∃ os : List OpT, HoldsO W v os ∧ bulkO os + 1 ≤ Rows.uptoBulk d ∧ ∀ o ∈ os, -9223372036854775808 ≤ o.1 ∧ o.1 ≤ 9223372036854775807 :=
  open_ops Try.underlying26 Try.underlying42 (by kernel_rfl) rfl rfl rfl rfl rfl rfl rfl rfl (okWide_slice Try.underlying26 hok) h
end Go.Proofs.Ytjemaacdhajinaa
