/- A target that came in: what the reading says of it. -/
import Derived.Test.YtddbemleialpbaaDoorRows
import Derived.Lib.SmallJoins
import Derived.SizedLaws
import Derived.ChangeOld
import Derived.OpenShut
import Derived.WalkKit
import Derived.ProofKit
namespace Go.Proofs.YtddbemleialpbaaDoor
open Go.ChangeShapes Go.WideShapes Go.ChangeAt Go.RowKit
theorem laidOut : laidOutB Tryd.prog = true := by kernel_rfl
theorem int_wf {n : Int} (h : (Lit.int .i64 n).wf = true) : -9223372036854775808 ≤ n ∧ n ≤ 9223372036854775807 := by
  have h1 : IntKind.i64.min = -9223372036854775808 := rfl
  have h2 : IntKind.i64.max = 9223372036854775807 := rfl
  simp only [Lit.wf, Bool.and_eq_true, decide_eq_true_eq] at h
  omega
set_option maxRecDepth 100000 in
theorem open_target {H : Type} {enc : TypeId × Value → H} {W : World} {base : Nat} {v : Value} {d : DataW H} {p : List MemPlace} (hok : Value.okWide Tryd.prog W .any base 23 v) (h : DataW.Trod enc Tryd.prog W 0 (fun _ => true) true 23 v d p) :
    ∃ (x : ByteArray) (n : Int) (y : ByteArray), v = .agg #[.string x, .int .i64 n, .string y] ∧ x.size + y.size + 4 ≤ Rows.uptoBulk d ∧ ((∀ n ∈ d.weights Tryd.prog 23, n ≤ reachBytes) → x.size ≤ reachBytes ∧ y.size ≤ reachBytes) ∧ (-9223372036854775808 ≤ n ∧ n ≤ 9223372036854775807) := by
  obtain ⟨v0, v1, v2, y0, y1, y2, fu, rfl, rfl, _, h0, h1, h2⟩ := Joins.open_agg3 Tryd.underlying23 (by kernel_rfl) (by kernel_rfl) hok h
  obtain ⟨s0, e0, x0, _⟩ := DataW.trod_string Tryd.underlying9 h0
  obtain ⟨k, e1, x1, wf⟩ := DataW.trod_int Tryd.underlying3 h1
  obtain ⟨s2, e2, x2, _⟩ := DataW.trod_string Tryd.underlying9 h2
  simp only [List.cons.injEq, and_true] at e0 e1 e2
  subst e0 e1 e2 x0 x1 x2
  have l0 : s0.data.toList.length = s0.size := by simp
  have l2 : s2.data.toList.length = s2.size := by simp
  refine ⟨s0, k, s2, rfl, ?_, ?_, int_wf wf⟩
  · simp only [Rows.uptoBulk, Rows.uptoBulkAll]
    omega
  · intro hw
    have w0 := hw s0.data.toList.length (by simp [DataW.weights, Tryd.underlying23, DataW.weightsEach])
    have w2 := hw s2.data.toList.length (by simp [DataW.weights, Tryd.underlying23, DataW.weightsEach])
    omega
end Go.Proofs.YtddbemleialpbaaDoor
