/- Numbers as texts: the contracts of twoDigits and of the document's Show of a number, two, week and month. -/
import Derived.Test.YtlhhcpbfjjhbfaaDoorDaC
import Derived.Test.YtlhhcpbfjjhbfaaDoorDaV
import Derived.Test.YtlhhcpbfjjhbfaaDoorOwnB
import Derived.Test.YtlhhcpbfjjhbfaaDoorShelf
namespace Go.Proofs.YtlhhcpbfjjhbfaaDoor
open Go.RowKit
def dg (v : Int) : UInt8 := UInt8.ofNat (48 + v.toNat)
def D2 (v : Int) : List UInt8 := [dg (v / 10), dg (v % 10)]
def D4 (v : Int) : List UInt8 := [dg (v / 1000), dg (v / 100 % 10), dg (v / 10 % 10), dg (v % 10)]
theorem toList_mk (l : List UInt8) : (⟨l.toArray⟩ : ByteArray).data.toList = l := rfl
theorem ba_ofD {s : ByteArray} {l : List UInt8} (h : s.data.toList = l) : s = ⟨l.toArray⟩ := by cases s; simp at h; simp [← h]
theorem size_of {s : ByteArray} {l : List UInt8} (h : s.data.toList = l) : s.size = l.length := by rw [← h]; simp
theorem app_list (a b : ByteArray) : (a ++ b).data.toList = a.data.toList ++ b.data.toList := by simp [ByteArray.data_append]
theorem dec_small1 {n : Nat} (h : n < 10) : Lib.decDigits n = [dg n] := by rw [Lib.decDigits_one h]; rfl
theorem dg_nat (n : Nat) : UInt8.ofNat (48 + n) = dg (n : Int) := rfl
theorem dec_twoD {n : Nat} (h1 : 10 ≤ n) (h2 : n < 100) : Lib.decDigits n = D2 n := by
  rw [Lib.decDigits_two (by omega) h2]; rfl
theorem dec_four {n : Nat} (h1 : 1000 ≤ n) (h2 : n < 10000) : Lib.decDigits n = D4 n := by
  rw [Lib.decDigits, dif_neg (by omega), Lib.decDigits, dif_neg (by omega), Lib.decDigits, dif_neg (by omega), Lib.decDigits_one (by omega)]
  simp only [D4, dg, List.cons_append, List.nil_append, List.cons.injEq]
  exact ⟨congrArg _ (by omega), congrArg _ (by omega), congrArg _ (by omega), congrArg _ (by omega), trivial⟩
theorem dg_zero {n : Nat} (h : n < 10) : D2 n = [48, dg n] := by
  unfold D2
  rw [show ((n : Int) / 10) = 0 by omega, show ((n : Int) % 10) = n by omega]; rfl
def decED (k : Nat) : List UInt8 := if k = 0 then [] else Lib.decDigits k
theorem decED_step {k : Nat} (h : k ≠ 0) : decED k = decED (k / 10) ++ [UInt8.ofNat (48 + k % 10)] := by
  unfold decED
  rw [if_neg h]
  by_cases h1 : k < 10
  · rw [if_pos (by omega), Lib.decDigits_one h1, show k % 10 = k by omega]; rfl
  · rw [if_neg (by omega), Lib.decDigits, dif_neg h1]
theorem dig_valD (k : Nat) : (48 + (k : Int) % 10) = ((UInt8.ofNat (48 + k % 10)).toNat : Int) := by
  rw [UInt8.toNat_ofNat']; omega
theorem drop_revD {ds : List UInt8} {k : Nat} (h : k + 1 ≤ ds.length) : (ds.drop k).reverse = (ds.drop (k + 1)).reverse ++ [ds[k]'(by omega)] := by
  rw [List.drop_eq_getElem_cons (by omega)]; simp
end Go.Proofs.YtlhhcpbfjjhbfaaDoor
