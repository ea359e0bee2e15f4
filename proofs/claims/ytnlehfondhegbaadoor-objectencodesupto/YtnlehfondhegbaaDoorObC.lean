/- The contract of object.number. -/
import Derived.Test.YtnlehfondhegbaaDoorObB
namespace Go.Proofs.YtnlehfondhegbaaDoor
open Go.RowKit
/-- a number as an int of 64 bits -/
def sg (v : Nat) : Int := if v < 9223372036854775808 then (v : Int) else (v : Int) - 18446744073709551616
theorem or_sg (v c : Nat) (hv : v < 72057594037927936) (hc : c ≤ 255) : bits .or .i64 (wrap64 ((v : Int) * 256)) (c : Int) = sg (v * 256 + c) := by
  have e1 : (BitVec.ofInt 64 (wrap64 ((v : Int) * 256))).toNat = v * 256 := by
    rw [BitVec.toNat_ofInt]; unfold wrap64; omega
  show IntKind.i64.wrap ((BitVec.ofInt 64 (wrap64 ((v : Int) * 256)) ||| BitVec.ofInt 64 (c : Int)).toNat : Int) = _
  rw [BitVec.toNat_or, e1, ofInt_i64 c (by omega), Nat.mul_comm v 256, ← Nat.two_pow_add_eq_or_of_lt (i := 8) (by omega) v, IntKind.wrap_i64]
  unfold sg
  split <;> omega
theorem num8_sg (l : List UInt8) : num8 l = sg (valN l) := rfl
theorem sg_small {v : Nat} (h : v < 9223372036854775808) : sg v = (v : Int) := if_pos h
end Go.Proofs.YtnlehfondhegbaaDoor
