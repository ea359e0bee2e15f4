/- What the document's Parse answers to any text, and the walk of the law DateParses. The contracts of the document's cut, second, has, date, among. Each text says a second or none. -/
import Derived.Test.YtlhhcpbfjjhbfabDoorDaZ
import Derived.Test.YtlhhcpbfjjhbfabDoorDaY29
import Derived.Test.YtlhhcpbfjjhbfabDoorDaY24
import Derived.Test.YtlhhcpbfjjhbfabDoorDaY30
import Derived.Test.YtlhhcpbfjjhbfabDoorDaY31
import Derived.Test.YtlhhcpbfjjhbfabDoorDaY32
import Derived.Test.YtlhhcpbfjjhbfabDoorDaY33
import Derived.Test.YtlhhcpbfjjhbfabDoorFhB
import Derived.Test.YtlhhcpbfjjhbfabDoorKnJ
namespace Go.Proofs.YtlhhcpbfjjhbfabDoor
open Go.RowKit
theorem show_explicit (n r y d : Int) {m : Int} (m0 : 1 ≤ m) (m1 : m ≤ 12) : ∃ a b c e f g, (wkL n).take 3 = [a, b, c] ∧ moL m = [e, f, g] ∧
    showL n r y m d = [a, b, c, 44, 32, dg (d / 10), dg (d % 10), 32, e, f, g, 32, dg (y / 1000), dg (y / 100 % 10), dg (y / 10 % 10), dg (y % 10), 32, dg (r / 3600 / 10), dg (r / 3600 % 10), 58, dg (r / 60 % 60 / 10), dg (r / 60 % 60 % 10), 58, dg (r % 60 / 10), dg (r % 60 % 10), 32, 71, 77, 84] := by
  obtain ⟨a, b, c, e1⟩ := three (take3 n)
  obtain ⟨e, f, g, e2⟩ := three (moL_len m0 m1)
  refine ⟨a, b, c, e, f, g, e1, e2, ?_⟩
  unfold showL
  rw [e1, e2]
  rfl
end Go.Proofs.YtlhhcpbfjjhbfabDoor
namespace Go.Proofs.YtlhhcpbfjjhbfabDoor.dateParses
open Go.RowKit
end Go.Proofs.YtlhhcpbfjjhbfabDoor.dateParses
namespace Go.Proofs.YtlhhcpbfjjhbfabDoor
open Go.RowKit
def dabR : List UInt8 := [100, 97, 116, 101]
def exbR : List UInt8 := [101, 120, 112, 105, 114, 101, 115]
def lmbR : List UInt8 := [108, 97, 115, 116, 45, 109, 111, 100, 105, 102, 105, 101, 100]
def agbR : List UInt8 := [97, 103, 101]
theorem vals_dab (fs : FL) : valsOf fs dabR = valsOf fs dab := by unfold valsOf; rw [show lows dabR = lows dab by decide]
theorem vals_exb (fs : FL) : valsOf fs exbR = valsOf fs exb := by unfold valsOf; rw [show lows exbR = lows exb by decide]
theorem vals_lmb (fs : FL) : valsOf fs lmbR = valsOf fs lmb := by unfold valsOf; rw [show lows lmbR = lows lmb by decide]
theorem vals_agb (fs : FL) : valsOf fs agbR = valsOf fs agb := by unfold valsOf; rw [show lows agbR = lows agb by decide]
end Go.Proofs.YtlhhcpbfjjhbfabDoor
namespace Go.Proofs.YtlhhcpbfjjhbfabDoor
open Go.RowKit
theorem dt_ex (l : List UInt8) (h : l.length < 4294967281) : ∃ d, DtP l d := by
  by_cases hf : ∃ t, IsForm l t
  · obtain ⟨t, hf⟩ := hf
    exact ⟨t, by have := hf.1; omega, hf.2.1, t, 0, .inr ⟨hf.1, rfl, rfl⟩, parse_of_form ⟨l.toArray⟩ t hf⟩
  · refine ⟨-1, by omega, by omega, 0, 20, .inl ⟨by omega, rfl, rfl⟩, ?_⟩
    rcases parse_any ⟨l.toArray⟩ (by show l.toArray.size < 4294967281; rw [List.size_toArray]; exact h) with c | ⟨t, ht, _⟩
    · exact c
    · exact absurd ⟨t, ht⟩ hf
end Go.Proofs.YtlhhcpbfjjhbfabDoor
