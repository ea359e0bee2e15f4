/- What a row lists of the library's table of places is what the road of Encode reads. -/
import Derived.Test.YtobkmepamgdccaaGreatDoorChY
import Derived.Test.YtobkmepamgdccaaGreatDoorLv
namespace Go.Proofs.YtobkmepamgdccaaGreatDoor
open Go.RowKit
def bruZ : List Int := [0, 1, 56, 2, 57, 49, 28, 3, 61, 58, 42, 50, 38, 29, 17, 4, 62, 47, 59, 36, 45, 43, 51, 22, 53, 39, 33, 30, 24, 18, 12, 5, 63, 55, 48, 27, 60, 41, 37, 16, 46, 35, 44, 21, 52, 32, 23, 11, 54, 26, 40, 15, 34, 20, 31, 10, 25, 14, 19, 9, 13, 8, 7, 6]
theorem bru_of {W : World} {l : List (String × DataW Unit)} (h : laidMet Tryz.prog l W) (hm : ("math/bits.deBruijn64tab", Lib.tabData .u8 bruZ) ∈ l) : Bru W := by
  have T := var_ints h hm (g := 7) (t := 143) (e := 5) (c := 64) (by kernel_rfl) (by kernel_rfl) Tryz.underlying143 Tryz.underlying5 (by kernel_rfl) (by kernel_rfl)
  have c := T.cell (g := 7) (by kernel_rfl) 15 (by decide)
  exact c
end Go.Proofs.YtobkmepamgdccaaGreatDoor
