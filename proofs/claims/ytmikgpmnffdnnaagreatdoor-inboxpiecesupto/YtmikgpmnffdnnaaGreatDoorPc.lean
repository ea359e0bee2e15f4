/- What holds between two pieces: the box, the bytes that the whole still has, and what has not come yet. -/
import Derived.Test.YtmikgpmnffdnnaaGreatDoorCu
import Derived.Test.YtmikgpmnffdnnaaGreatDoorBnM
namespace Go.Proofs.YtmikgpmnffdnnaaGreatDoor
open Go.RowKit
def lenV : Value → Nat | .slice _ n _ => n | _ => 0
/-- at wr: the box (block g) holds 'held' and has told er; rv is what the whole still has; 'left' has not come; w4 is the world behind the cutting -/
def PcI (g : Nat) (w4 : World) (M : Nat) (rv : Value) (rb held : List UInt8) (er : Int) (left : List UInt8) (wr : World) : Prop :=
  HoldsN g w4 rv rb ∧ PS rb held er left ∧ BoxP g w4.heap.size (.func (.func 11) #[] #[]) held er wr ∧ BelowBut g w4.heap.size w4 wr ∧ rb.length ≤ M ∧ held.length ≤ M
theorem pci_but {g : Nat} {w4 : World} {M : Nat} {rv : Value} {rb held : List UInt8} {er : Int} {left : List UInt8} {wr wr' : World} (h : PcI g w4 M rv rb held er left wr) (hb : Below wr.heap.size wr wr') : PcI g w4 M rv rb held er left wr' := by
  obtain ⟨h1, h2, h3, h4, h5, h6⟩ := h
  exact ⟨h1, h2, box_below h3 hb, h4.trans ((but_of hb).mono h4.size), h5, h6⟩
theorem nil_told : eQ [] = 0 ∧ nQ [] = 0 := by decide +kernel
end Go.Proofs.YtmikgpmnffdnnaaGreatDoor
