/- What is told of a response's message. -/
import Derived.Test.YtmikgpmnffdnnabGreatDoorInM
namespace Go.Proofs.YtmikgpmnffdnnabGreatDoor
open Go.RowKit
/-- a response's message, as a value: the head's fields, the body and the trailers are rows of the call's own -/
def mrV (r : Rs) (lv bv tv : Value) : Value := .agg #[.string ⟨#[]⟩, .string ⟨#[]⟩, .int .i64 0, .slice none 0 0, .int .i64 r.s, .string ⟨r.r.toArray⟩, .int .i64 r.k, lv, bv, tv]
def AnsR (w : World) (X : Rs × List UInt8 × FL × Nat × Int) (e : Ending) (w' : World) : Prop :=
  ∃ lv bv tv, e = .returned (tellV (mrV X.1 lv bv tv) X.2.2.2.1 X.2.2.2.2) ∧ OwnF w lv X.1.fs w' ∧ Own w bv X.2.1 w' ∧ OwnF w tv X.2.2.1 w'
theorem ansR_none {w w' : World} (er : Int) (hb : Below w.heap.size w w') : AnsR w (Rs.zero, [], [], 0, er) (.returned (tellV mzV 0 er)) w' :=
  ⟨.slice none 0 0, .slice none 0 0, .slice none 0 0, rfl, ownF_nil _ _ hb, own_nil _ _ hb, ownF_nil _ _ hb⟩
end Go.Proofs.YtmikgpmnffdnnabGreatDoor
