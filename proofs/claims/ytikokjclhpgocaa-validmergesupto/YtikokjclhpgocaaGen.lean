/- Small things that every text uses. -/
import Derived.Test.YtikokjclhpgocaaPlain
import Derived.Test.YtikokjclhpgocaaRows
import Derived.Handy
namespace Go.Proofs.Ytikokjclhpgocaa
open Go.RowKit
theorem hide' {p : Prop} (h : p) : Hid p := h
theorem size_l (l : List UInt8) : (⟨l.toArray⟩ : ByteArray).size = l.length := by show l.toArray.size = _; rw [List.size_toArray]
theorem bcell {W w1 : World} (hb : Below W.heap.size W w1) : (∀ b o, b < W.heap.size → w1.cell? ⟨b, o, none⟩ = W.cell? ⟨b, o, none⟩) ∧ (∀ b o, b < W.heap.size → w1.frozen? ⟨b, o, none⟩ = W.frozen? ⟨b, o, none⟩) :=
  ⟨fun b o h => hb.cell (p := ⟨b, o, none⟩) h, fun b o h => hb.frozen (p := ⟨b, o, none⟩) h⟩
theorem below_alloc' (w : World) (o : Obj) : Below w.heap.size w (w.alloc o) := (Below.refl _ _).alloc (Nat.le_refl _) _
abbrev FL := List (List UInt8 × List UInt8)
end Go.Proofs.Ytikokjclhpgocaa
