/- What is told of a response's message, opened; two of them told alike. -/
import Derived.Test.YtmikgpmnffdnnabGreatDoorIrM
import Derived.Test.YtmikgpmnffdnnabGreatDoorInS
namespace Go.Proofs.YtmikgpmnffdnnabGreatDoor
open Go.RowKit
def MsgR (W : World) (lv bv tv : Value) (X : Rs × List UInt8 × FL × Nat × Int) : Prop := HoldsF W lv X.1.fs ∧ HoldsB W bv X.2.1 ∧ HoldsF W tv X.2.2.1
theorem msgR_mono {W W' : World} {lv bv tv : Value} {X : Rs × List UInt8 × FL × Nat × Int} (h : MsgR W lv bv tv X) (hb : Below W.heap.size W W') : MsgR W' lv bv tv X :=
  ⟨holdsF_mono h.1 hb, holdsB_mono h.2.1 hb, holdsF_mono h.2.2 hb⟩
theorem ansR_open {w w' : World} {X : Rs × List UInt8 × FL × Nat × Int} {e : Ending} (h : AnsR w X e w') : ∃ la lc ba bc ta tc,
    e = .returned (.tuple #[.agg #[.string ⟨#[]⟩, .string ⟨#[]⟩, .int .i64 0, .slice none 0 0, .int .i64 X.1.s, .string ⟨X.1.r.toArray⟩, .int .i64 X.1.k, .slice la X.1.fs.length lc, .slice ba X.2.1.length bc, .slice ta X.2.2.1.length tc], .int .i64 (X.2.2.2.1 : Int), .int .i64 X.2.2.2.2]) ∧
    MsgR w' (.slice la X.1.fs.length lc) (.slice ba X.2.1.length bc) (.slice ta X.2.2.1.length tc) X ∧ Below w.heap.size w w' ∧
    OwnF w (.slice la X.1.fs.length lc) X.1.fs w' ∧ Own w (.slice ba X.2.1.length bc) X.2.1 w' ∧ OwnF w (.slice ta X.2.2.1.length tc) X.2.2.1 w' := by
  obtain ⟨lv, bv, tv, rfl, oL, oB, oF⟩ := h
  obtain ⟨la, lc, _, _, e1, _⟩ := holdsF_parts (holdsF_own oL)
  obtain ⟨ba, bc, e2, _⟩ := holdsB_parts (holdsB_own oB)
  obtain ⟨ta, tc, _, _, e3, _⟩ := holdsF_parts (holdsF_own oF)
  subst e1 e2 e3
  exact ⟨la, lc, ba, bc, ta, tc, rfl, ⟨holdsF_own oL, holdsB_own oB, holdsF_own oF⟩, oL.2, oL, oB, oF⟩
theorem sameR {s : Int} {r : List UInt8} {k : Int} {fs : FL} {bd : List UInt8} {tl : FL} {n : Nat} {er : Int} {lva lvb bva bvb tva tvb : Value} {w : World}
    (ha : MsgR w lva bva tva (⟨s, r, k, fs⟩, bd, tl, n, er)) (hb : MsgR w lvb bvb tvb (⟨s, r, k, fs⟩, bd, tl, n, er)) (h1 : fs.length ≤ 8192) (h3 : bd.length ≤ 1000000000000000) (h4 : tl.length ≤ 100) :
    Calls Tryz.prog 8 #[.agg #[.string ⟨#[]⟩, .string ⟨#[]⟩, .int .i64 0, .slice none 0 0, .int .i64 s, .string ⟨r.toArray⟩, .int .i64 k, lva, bva, tva], .agg #[.string ⟨#[]⟩, .string ⟨#[]⟩, .int .i64 0, .slice none 0 0, .int .i64 s, .string ⟨r.toArray⟩, .int .i64 k, lvb, bvb, tvb]] w fun e w' => e = .returned (.bool true) ∧ Below w.heap.size w w' :=
  sameMg [] [] 0 [] s r k fs bd tl _ _ lva lvb bva bvb tva tvb w (holdsF_nil w) (holdsF_nil w) ha.1 hb.1 ha.2.1 hb.2.1 ha.2.2 hb.2.2 (by simp) (by omega) h3 (by omega)
end Go.Proofs.YtmikgpmnffdnnabGreatDoor
