/- The contracts of twoDigits and Itoa, and of the document's two, week and month. -/
import Derived.Test.YtlhhcpbfjjhbfaaDoorDaT
namespace Go.Proofs.YtlhhcpbfjjhbfaaDoor
open Go.RowKit
def lenV : Value → Nat
  | .string s => s.size
  | _ => 0
/-- the weekday of a day's number, and a month's name -/
def wkL (n : Int) : List UInt8 := wtab.getD (n % 7).toNat []
def moL (m : Int) : List UInt8 := motab.getD (m - 1).toNat []
theorem seven (n : Int) : n % 7 = 0 ∨ n % 7 = 1 ∨ n % 7 = 2 ∨ n % 7 = 3 ∨ n % 7 = 4 ∨ n % 7 = 5 ∨ n % 7 = 6 := by omega
end Go.Proofs.YtlhhcpbfjjhbfaaDoor
