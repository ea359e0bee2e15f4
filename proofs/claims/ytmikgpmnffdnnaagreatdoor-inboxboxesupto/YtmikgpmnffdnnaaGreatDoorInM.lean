/- What is told of a request's message. -/
import Derived.Test.YtmikgpmnffdnnaaGreatDoorInV
import Derived.Test.YtmikgpmnffdnnaaGreatDoorBf
namespace Go.Proofs.YtmikgpmnffdnnaaGreatDoor
open Go.RowKit
/-- a request's message, as a value: the head's fields, the body and the trailers are rows of the call's own -/
def mqV (r : Rq) (lv bv tv : Value) : Value := .agg #[.string ⟨r.m.toArray⟩, .string ⟨r.t.toArray⟩, .int .i64 r.k, lv, .int .i64 0, .string ⟨#[]⟩, .int .i64 0, .slice none 0 0, bv, tv]
def AnsQ (w : World) (X : Rq × List UInt8 × FL × Nat × Int) (e : Ending) (w' : World) : Prop :=
  ∃ lv bv tv, e = .returned (tellV (mqV X.1 lv bv tv) X.2.2.2.1 X.2.2.2.2) ∧ OwnF w lv X.1.fs w' ∧ Own w bv X.2.1 w' ∧ OwnF w tv X.2.2.1 w'
theorem ansQ_none {w w' : World} (er : Int) (hb : Below w.heap.size w w') : AnsQ w (Rq.zero, [], [], 0, er) (.returned (tellV mzV 0 er)) w' :=
  ⟨.slice none 0 0, .slice none 0 0, .slice none 0 0, rfl, ownF_nil _ _ hb, own_nil _ _ hb, ownF_nil _ _ hb⟩
theorem own_from {w w1 w2 : World} {v : Value} {ps : List UInt8} (h : Own w1 v ps w2) (hb : Below w.heap.size w w1) : Own w v ps w2 := own_base h hb
theorem ownF_from {w w1 w2 : World} {v : Value} {ps : FL} (h : OwnF w1 v ps w2) (hb : Below w.heap.size w w1) : OwnF w v ps w2 :=
  ⟨row_base h.1 hb.size, hb.trans (h.2.mono hb.size)⟩
theorem ownF_keep {w0 w w' : World} {v : Value} {ps : FL} (h : OwnF w0 v ps w) (hb : Below w.heap.size w w') : OwnF w0 v ps w' :=
  ⟨row_below h.1 hb, h.2.trans (hb.mono h.2.size)⟩
end Go.Proofs.YtmikgpmnffdnnaaGreatDoor
