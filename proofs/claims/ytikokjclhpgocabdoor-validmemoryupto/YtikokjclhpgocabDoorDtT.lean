/- The second that a text says, to date.Parse and to the document's. -/
import Derived.Test.YtikokjclhpgocabDoorDaJ
import Derived.Test.YtikokjclhpgocabDoorDaZ
namespace Go.Proofs.YtikokjclhpgocabDoor
open Go.RowKit
/-- what date.Parse needs of the world -/
def EvD (w : World) : Prop := Vars w ∧ MaxVD w
theorem evD_below {w w' : World} (h : EvD w) (b : Below w.heap.size w w') : EvD w' := ⟨h.1.below b, h.2.below b⟩
/-- d is the second that the text says, -1 where it says none -/
def DtP (l : List UInt8) (d : Int) : Prop := -1 ≤ d ∧ d ≤ 253402300799 ∧ ∃ v e : Int, ((d < 0 ∧ v = 0 ∧ e = 20) ∨ (0 ≤ d ∧ v = d ∧ e = 0)) ∧ Ans ⟨l.toArray⟩ v e
/-- .. and the document reads it so, too -/
def DtQ (l : List UInt8) (d : Int) : Prop := ∃ v e : Int, ((d < 0 ∧ v = 0 ∧ e = 20) ∨ (0 ≤ d ∧ v = d ∧ e = 0)) ∧ RefAns ⟨l.toArray⟩ v e
def DtB (l : List UInt8) (d : Int) : Prop := DtP l d ∧ DtQ l d
end Go.Proofs.YtikokjclhpgocabDoor
