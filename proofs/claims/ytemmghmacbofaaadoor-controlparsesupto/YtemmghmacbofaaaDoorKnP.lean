/- Plain: the directives of Cache-Control and what they tell; nothing of the program is walked here. -/
import Derived.Test.YtemmghmacbofaaaDoorEqP
import Derived.Test.YtemmghmacbofaaaDoorFold
import Derived.Test.YtemmghmacbofaaaDoorUnq
import Derived.Test.YtemmghmacbofaaaDoorKnA
namespace Go.Proofs.YtemmghmacbofaaaDoor
open Go.RowKit
/-- a directive: its name, its argument, whether it has one -/
abbrev DV := List UInt8 × List UInt8 × Bool
def argOf (a : List UInt8) : List UInt8 := if a.head? = some 34 then (unqS ⟨a.toArray⟩).1 else a
def dirOf (el : List UInt8) : DV := (lows (el.take (eqPos el)), (if eqPos el < el.length then argOf (el.drop (eqPos el + 1)) else []), decide (eqPos el < el.length))
def dirsOf (vs : List (List UInt8)) : List DV := (vs.flatMap listOf).map dirOf
def fndD (ds : List DV) (nm : List UInt8) : Option DV := ds.find? (fun d => decide (d.1 = nm))
def hasD (ds : List DV) (nm : List UInt8) : Bool := (fndD ds nm).isSome
def numO : Option DV → Int
  | none => -1
  | some d => max (secs d.2.1) 0
def stlO : Option DV → Int
  | none => -1
  | some d => if d.2.2 = true then secs d.2.1 else 2147483648
def numD (ds : List DV) (nm : List UInt8) : Int := numO (fndD ds nm)
theorem numO_in (o : Option DV) : -1 ≤ numO o ∧ numO o ≤ 2147483648 := by
  cases o with
  | none => simp [numO]
  | some d => have := secs_in d.2.1; simp only [numO]; omega
theorem stlO_in (o : Option DV) : -1 ≤ stlO o ∧ stlO o ≤ 2147483648 := by
  cases o with
  | none => simp [stlO]
  | some d =>
    have := secs_in d.2.1
    simp only [stlO]
    split <;> omega
def ccb : List UInt8 := [67, 97, 99, 104, 101, 45, 67, 111, 110, 116, 114, 111, 108]
def ccl : List UInt8 := [99, 97, 99, 104, 101, 45, 99, 111, 110, 116, 114, 111, 108]
def pgb : List UInt8 := [80, 114, 97, 103, 109, 97]
def pgl : List UInt8 := [112, 114, 97, 103, 109, 97]
def nsb : List UInt8 := [110, 111, 45, 115, 116, 111, 114, 101]
def ncb : List UInt8 := [110, 111, 45, 99, 97, 99, 104, 101]
def pvb : List UInt8 := [112, 114, 105, 118, 97, 116, 101]
def pub : List UInt8 := [112, 117, 98, 108, 105, 99]
def mrb : List UInt8 := [109, 117, 115, 116, 45, 114, 101, 118, 97, 108, 105, 100, 97, 116, 101]
def xrb : List UInt8 := [112, 114, 111, 120, 121, 45, 114, 101, 118, 97, 108, 105, 100, 97, 116, 101]
def oib : List UInt8 := [111, 110, 108, 121, 45, 105, 102, 45, 99, 97, 99, 104, 101, 100]
def mab : List UInt8 := [109, 97, 120, 45, 97, 103, 101]
def smb : List UInt8 := [115, 45, 109, 97, 120, 97, 103, 101]
def mfb : List UInt8 := [109, 105, 110, 45, 102, 114, 101, 115, 104]
def msb : List UInt8 := [109, 97, 120, 45, 115, 116, 97, 108, 101]
/-- what the directives tell; pr: there is no field of the name, and Pragma asks -/
def ctlV (ds : List DV) (pr : Bool) : Value :=
  .agg #[.bool (hasD ds nsb), .bool (hasD ds ncb || pr), .bool (hasD ds pvb), .bool (hasD ds pub), .bool (hasD ds mrb || hasD ds xrb), .bool (hasD ds oib),
    .int .i64 (numD ds mab), .int .i64 (numD ds smb), .int .i64 (numD ds mfb), .int .i64 (stlO (fndD ds msb))]
theorem dirs_app (a b : List (List UInt8)) : dirsOf (a ++ b) = dirsOf a ++ dirsOf b := by unfold dirsOf; rw [List.flatMap_append, List.map_append]
theorem dirs_one (v : List UInt8) : dirsOf [v] = (listOf v).map dirOf := by unfold dirsOf; simp
theorem dirs_next (vs : List (List UInt8)) (k : Nat) (h : k < vs.length) : dirsOf (vs.take (k + 1)) = dirsOf (vs.take k) ++ (listOf vs[k]).map dirOf := by
  rw [List.take_succ_eq_append_getElem h, dirs_app, dirs_one]
theorem fnd_hit (ds : List DV) (nm : List UInt8) (k : Nat) (h : k < ds.length) (h1 : ∀ j (hj : j < ds.length), j < k → ¬ ds[j].1 = nm) (h2 : ds[k].1 = nm) : fndD ds nm = some ds[k] := by
  unfold fndD
  rw [List.find?_eq_some_iff_getElem]
  refine ⟨by simpa using h2, k, h, rfl, fun j hj => ?_⟩
  have := h1 j (by omega) hj
  simpa using this
theorem fnd_none (ds : List DV) (nm : List UInt8) (h1 : ∀ j (hj : j < ds.length), ¬ ds[j].1 = nm) : fndD ds nm = none := by
  unfold fndD
  rw [List.find?_eq_none]
  intro d hd
  obtain ⟨j, hj, rfl⟩ := List.getElem_of_mem hd
  simpa using h1 j hj
end Go.Proofs.YtemmghmacbofaaaDoor
