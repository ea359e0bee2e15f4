/- The contract of Response. -/
import Derived.Test.YtnlehfondhegbaaDoorHdI
import Derived.Test.YtnlehfondhegbaaDoorBe
namespace Go.Proofs.YtnlehfondhegbaaDoor
open Go.RowKit
theorem resp_line (q : Rs × Int) (f : FL × Int) (n : Nat) (h : q.2 ≠ 0) : respG q f n = (Rs.zero, 0, q.2) := by unfold respG; rw [if_pos h]
theorem resp_fields (q : Rs × Int) (f : FL × Int) (n : Nat) (h : q.2 = 0) (h2 : f.2 ≠ 0) : respG q f n = (Rs.zero, 0, f.2) := by unfold respG; rw [if_neg (by simpa using h), if_pos h2]
theorem resp_good (q : Rs × Int) (f : FL × Int) (n : Nat) (h : q.2 = 0) (h2 : f.2 = 0) : respG q f n = (⟨q.1.s, q.1.r, q.1.k, f.1⟩, n, 0) := by unfold respG; rw [if_neg (by simpa using h), if_neg (by simpa using h2)]
theorem lineR_fs (l : List UInt8) : (lineR l).1.fs = [] := by
  unfold lineR
  split
  · rfl
  · split
    · split <;> rfl
    · rfl
def respV (r : Rs × Nat × Int) (lv : Value) : Value := .tuple #[rsV r.1 lv, .int .i64 ((r.2.1 : Nat) : Int), .int .i64 r.2.2]
end Go.Proofs.YtnlehfondhegbaaDoor
