/- A record that came in: what the reading says of it. -/
import Derived.Test.YtnbidckmekmcfabRcE
import Derived.Test.YtnbidckmekmcfabOpnA
import Derived.Lib.SmallJoins
import Derived.SizedLaws
import Derived.ChangeOld
import Derived.OpenShut
namespace Go.Proofs.Ytnbidckmekmcfab
open Go.ChangeShapes Go.WideShapes Go.ChangeAt Go.RowKit
theorem int_wfC {n : Int} (h : (Lit.int .i64 n).wf = true) : -9223372036854775808 ≤ n ∧ n ≤ 9223372036854775807 := by
  have h1 : IntKind.i64.min = -9223372036854775808 := rfl
  have h2 : IntKind.i64.max = 9223372036854775807 := rfl
  simp only [Lit.wf, Bool.and_eq_true, decide_eq_true_eq] at h
  omega
set_option maxRecDepth 100000 in
theorem open_record {H : Type} {enc : TypeId × Value → H} {W : World} {base : Nat} {v : Value} {d : DataW H} {p : List MemPlace} (hok : Value.okWide Try.prog W .any base 23 v) (h : DataW.Trod enc Try.prog W 0 (fun _ => true) true 23 v d p) :
    ∃ (seq op no : Int) (id : List UInt8), v = recV seq op no id ∧ id.length + 5 ≤ Rows.uptoBulk d ∧ ((∀ n ∈ d.weights Try.prog 23, n ≤ reachBytes) → id.length ≤ reachBytes) := by
  obtain ⟨v0, v1, v2, v3, y0, y1, y2, y3, n, rfl, rfl, _, h0, h1, h2, h3⟩ := Joins.open_agg4 Try.underlying23 (by kernel_rfl) (by kernel_rfl) hok h
  obtain ⟨s, e0, x0, wf0⟩ := DataW.trod_int Try.underlying3 h0
  obtain ⟨o, e1, x1, wf1⟩ := DataW.trod_int Try.underlying3 h1
  obtain ⟨k, e2, x2, wf2⟩ := DataW.trod_int Try.underlying3 h2
  obtain ⟨t, e3, x3, _⟩ := DataW.trod_string Try.underlying9 h3
  simp only [List.cons.injEq, and_true] at e0 e1 e2 e3
  subst e0 e1 e2 e3 x0 x1 x2 x3
  have lt : t.data.toList.length = t.size := by simp
  refine ⟨s, o, k, t.data.toList, by unfold recV; rw [show (⟨t.data.toList.toArray⟩ : ByteArray) = t by cases t; simp], ?_, ?_⟩
  · simp only [Rows.uptoBulk, Rows.uptoBulkAll]
    omega
  · intro hw
    have w0 := hw t.data.toList.length (by simp [DataW.weights, Try.underlying23, DataW.weightsEach])
    exact w0
end Go.Proofs.Ytnbidckmekmcfab
