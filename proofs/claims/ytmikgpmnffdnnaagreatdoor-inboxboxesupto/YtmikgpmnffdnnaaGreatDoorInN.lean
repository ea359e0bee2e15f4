/- What is told of a request's message, opened; two of them told alike. -/
import Derived.Test.YtmikgpmnffdnnaaGreatDoorInM
import Derived.Test.YtmikgpmnffdnnaaGreatDoorInS
namespace Go.Proofs.YtmikgpmnffdnnaaGreatDoor
open Go.RowKit
def MsgQ (W : World) (lv bv tv : Value) (X : Rq × List UInt8 × FL × Nat × Int) : Prop := HoldsF W lv X.1.fs ∧ HoldsB W bv X.2.1 ∧ HoldsF W tv X.2.2.1
theorem msgQ_mono {W W' : World} {lv bv tv : Value} {X : Rq × List UInt8 × FL × Nat × Int} (h : MsgQ W lv bv tv X) (hb : Below W.heap.size W W') : MsgQ W' lv bv tv X :=
  ⟨holdsF_mono h.1 hb, holdsB_mono h.2.1 hb, holdsF_mono h.2.2 hb⟩
theorem ansQ_open {w w' : World} {X : Rq × List UInt8 × FL × Nat × Int} {e : Ending} (h : AnsQ w X e w') : ∃ la lc ba bc ta tc,
    e = .returned (.tuple #[.agg #[.string ⟨X.1.m.toArray⟩, .string ⟨X.1.t.toArray⟩, .int .i64 X.1.k, .slice la X.1.fs.length lc, .int .i64 0, .string ⟨#[]⟩, .int .i64 0, .slice none 0 0, .slice ba X.2.1.length bc, .slice ta X.2.2.1.length tc], .int .i64 (X.2.2.2.1 : Int), .int .i64 X.2.2.2.2]) ∧
    MsgQ w' (.slice la X.1.fs.length lc) (.slice ba X.2.1.length bc) (.slice ta X.2.2.1.length tc) X ∧ Below w.heap.size w w' ∧
    OwnF w (.slice la X.1.fs.length lc) X.1.fs w' ∧ Own w (.slice ba X.2.1.length bc) X.2.1 w' ∧ OwnF w (.slice ta X.2.2.1.length tc) X.2.2.1 w' := by
  obtain ⟨lv, bv, tv, rfl, oL, oB, oF⟩ := h
  obtain ⟨la, lc, _, _, e1, _⟩ := holdsF_parts (holdsF_own oL)
  obtain ⟨ba, bc, e2, _⟩ := holdsB_parts (holdsB_own oB)
  obtain ⟨ta, tc, _, _, e3, _⟩ := holdsF_parts (holdsF_own oF)
  subst e1 e2 e3
  exact ⟨la, lc, ba, bc, ta, tc, rfl, ⟨holdsF_own oL, holdsB_own oB, holdsF_own oF⟩, oL.2, oL, oB, oF⟩
theorem sameQ {m t : List UInt8} {k : Int} {fs : FL} {bd : List UInt8} {tl : FL} {n : Nat} {er : Int} {lva lvb bva bvb tva tvb : Value} {w : World}
    (ha : MsgQ w lva bva tva (⟨m, t, k, fs⟩, bd, tl, n, er)) (hb : MsgQ w lvb bvb tvb (⟨m, t, k, fs⟩, bd, tl, n, er)) (h1 : fs.length ≤ 8192) (h3 : bd.length ≤ 1000000000000000) (h4 : tl.length ≤ 100) :
    Calls Tryz.prog 13 #[.agg #[.string ⟨m.toArray⟩, .string ⟨t.toArray⟩, .int .i64 k, lva, .int .i64 0, .string ⟨#[]⟩, .int .i64 0, .slice none 0 0, bva, tva], .agg #[.string ⟨m.toArray⟩, .string ⟨t.toArray⟩, .int .i64 k, lvb, .int .i64 0, .string ⟨#[]⟩, .int .i64 0, .slice none 0 0, bvb, tvb]] w fun e w' => e = .returned (.bool true) ∧ Below w.heap.size w w' :=
  sameMg m t k fs 0 [] 0 [] bd tl lva lvb _ _ bva bvb tva tvb w ha.1 hb.1 (holdsF_nil w) (holdsF_nil w) ha.2.1 hb.2.1 ha.2.2 hb.2.2 (by omega) (by simp) h3 (by omega)
end Go.Proofs.YtmikgpmnffdnnaaGreatDoor
