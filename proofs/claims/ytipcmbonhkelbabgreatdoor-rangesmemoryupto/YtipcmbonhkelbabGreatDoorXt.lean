/- Plain (layer 19, ahead of its landing): what Apply answers where a law asks: one field Range of two numbers; an If-Range that is no tag. The walks of RangesParses and RangesWithin. The walks of RangesApplies, RangesParses, RangesWithin. -/
import Derived.Test.YtipcmbonhkelbabGreatDoorXm
import Derived.Test.YtipcmbonhkelbabGreatDoorXa
import Derived.Test.YtipcmbonhkelbabGreatDoorXi
import Derived.Test.YtipcmbonhkelbabGreatDoorXs
import Derived.Deep.RegionHeld3
import Derived.Test.YtipcmbonhkelbabGreatDoorXb
import Derived.Test.YtipcmbonhkelbabGreatDoorOpnR
import Derived.Test.YtipcmbonhkelbabGreatDoorXj
import Derived.Deep.DeepCutAuto
import Derived.Deep.Cut
namespace Go.Proofs.YtipcmbonhkelbabGreatDoor
open Go.RowKit
theorem one_vals {n v m : List UInt8} (h : lows n = lows m) : valsOf [(n, v)] m = [v] := by
  unfold valsOf
  rw [List.filter_cons]
  simp [h]
theorem one_no {n v m : List UInt8} (h : ¬ lows n = lows m) : valsOf [(n, v)] m = [] := by
  unfold valsOf
  rw [List.filter_cons]
  simp [h]
theorem join_oneR (X : List UInt8) : joinOf [X] = X := by
  unfold joinOf Lib.join
  simp
theorem getJ_one {fs : FL} {m v : List UInt8} (h : valsOf fs m = [v]) : getJ fs m = v := by
  rw [← getJ_eq, h, join_oneR]
theorem has_one {fs : FL} {m v : List UInt8} (h : valsOf fs m = [v]) : hasA fs m = true := by
  unfold hasA
  rw [h]
  rfl
/-- a list of one field Range -/
theorem ask_one (D : List UInt8 → Int) (n x : List UInt8) (hn : lows n = lows raN) (fs : FL) : getJ [(n, x)] raN = x ∧ hasA [(n, x)] raN = true ∧ rgHeld D [(n, x)] fs = true := by
  have h1 := one_vals (v := x) hn
  refine ⟨getJ_one h1, has_one h1, ?_⟩
  apply held_not
  rw [one_no (by rw [hn]; decide)]
  rfl
theorem rgA_one (D : List UInt8 → Int) (n x : List UInt8) (hn : lows n = lows raN) (k : Int) (zr : List UInt8) (fs : FL) (body : List UInt8) (p : Int × Int) (hp : rngP x body.length = (0, [p])) :
    appR D [(n, x)] 200 zr k fs body = (206, parR, k, putOf (withoutOf fs [clH]) crU (placeL p.1 p.2 body.length), spanB body p) := by
  obtain ⟨h1, h2, h3⟩ := ask_one D n x hn fs
  unfold appR
  rw [h1, h2, h3, hp, if_neg (by rintro (h | h | h | h); exact h rfl; cases h; exact absurd h (by show ¬ (0 : Int) = 190; decide); cases h), if_neg (by show ¬ (0 : Int) = 191; decide)]
/-- just these bytes -/
theorem app_two (D : List UInt8 → Int) (n p : List UInt8) (hn : lows n = lows raN) (hp : lows p = bytB) (k : Int) (zr : List UInt8) (fs : FL) (body : List UInt8) (a b : Nat) (hab : a ≤ b) (hb : b < 1000000000000000000) (ha : a < body.length) :
    appR D [(n, p ++ rgE a (Lib.decDigits b))] 200 zr k fs body = (206, parR, k, putOf (withoutOf fs [clH]) crU (placeL a ((min b (body.length - 1) : Nat) : Int) body.length), (body.drop a).take (min b (body.length - 1) + 1 - a)) := by
  have h := rng_two p hp a b (body.length : Int) hab hb (by omega)
  have e : (if (body.length : Int) - 1 < (b : Int) then (body.length : Int) - 1 else (b : Int)) = ((min b (body.length - 1) : Nat) : Int) := by
    split <;> omega
  rw [e] at h
  rw [rgA_one D n _ hn k zr fs body _ h]
  have e2 : spanB body ((a : Int), ((min b (body.length - 1) : Nat) : Int)) = (body.drop a).take (min b (body.length - 1) + 1 - a) := by
    unfold spanB
    simp only [Int.toNat_natCast]
    rw [show (((min b (body.length - 1) : Nat) : Int) + 1 - (a : Int)).toNat = min b (body.length - 1) + 1 - a by omega]
  rw [e2]
theorem app_open (D : List UInt8 → Int) (n p : List UInt8) (hn : lows n = lows raN) (hp : lows p = bytB) (k : Int) (zr : List UInt8) (fs : FL) (body : List UInt8) (a : Nat) (ha : a < body.length) (hl : body.length ≤ 1000000000000000000) :
    appR D [(n, p ++ rgE a [])] 200 zr k fs body = (206, parR, k, putOf (withoutOf fs [clH]) crU (placeL a ((body.length : Int) - 1) body.length), body.drop a) := by
  have h := rng_open p hp a (body.length : Int) (by omega) (by omega)
  rw [rgA_one D n _ hn k zr fs body _ h]
  have e2 : spanB body ((a : Int), (body.length : Int) - 1) = body.drop a := by
    unfold spanB
    simp only [Int.toNat_natCast]
    rw [List.take_of_length_le (by rw [List.length_drop]; omega)]
  rw [e2]
/-- a tag that is none: "no such tag" -/
def tagX : List UInt8 := [34, 110, 111, 32, 115, 117, 99, 104, 32, 116, 97, 103, 34]
def irX : List UInt8 := [73, 102, 45, 82, 97, 110, 103, 101]
theorem held_tagX (D : List UInt8 → Int) (hD : D tagX < 0) (ask fs : FL) : rgHeld D (putOf ask irX tagX) fs = false := by
  have hv : valsOf (putOf ask irX tagX) irN = [tagX] := by
    rw [vals_low2 _ (show lows irN = lows irX by decide), vals_put]
  have hg := getJ_one hv
  rw [held_is (by rw [hv]; rfl), hg]
  have hs : sameG tagX (getJ fs etN) true = false := by
    unfold sameG
    rw [show tagB tagX = false by decide]
    rfl
  rw [hs, Bool.false_or]
  by_cases h : tagX = getJ fs lmN
  · rw [← h, decide_eq_false (show ¬ 0 ≤ D tagX by omega)]
    rfl
  · rw [decide_eq_false h, Bool.and_false]
theorem app_tagX (D : List UInt8 → Int) (hD : D tagX < 0) (ask : FL) (s k : Int) (zr : List UInt8) (fs : FL) (body : List UInt8) : appR D (putOf ask irX tagX) s zr k fs body = (s, zr, k, fs, body) := by
  unfold appR
  rw [if_pos (.inr (.inr (.inr (held_tagX D hD ask fs))))]
theorem app_not (D : List UInt8 → Int) (ask : FL) (s k : Int) (zr : List UInt8) (fs : FL) (body : List UInt8) (h : ¬ (s = 200 ∧ hasA ask raN = true)) : appR D ask s zr k fs body = (s, zr, k, fs, body) := by
  unfold appR
  rw [if_pos]
  by_cases hs : s = 200
  · refine .inr (.inl ?_)
    cases e : hasA ask raN with
    | false => rfl
    | true => exact absurd ⟨hs, e⟩ h
  · exact .inl hs
theorem no_formX (t : Int) : ¬ IsForm tagX t := by
  rintro ⟨_, _, y, m, d, _, _, h | ⟨_, h⟩ | h⟩
  · have := congrArg List.length h
    simp [showL, tagX, D2, D4, hmsL] at this
    omega
  · have := congrArg List.length h
    simp [dashL, tagX, D2, hmsL] at this
    omega
  · have := congrArg List.length h
    simp [blankL, tagX, D4, hmsL, D2] at this
    omega
theorem dtF_tagX : dtF tagX < 0 := by
  unfold dtF
  rw [dif_neg (fun ⟨t, h⟩ => no_formX t h)]
  omega
/-- behind Put the field says just that, and there is no Content-Length -/
theorem put_place (fs : FL) (x : List UInt8) : getJ (putOf (withoutOf fs [clH]) crU x) crU = x ∧ hasA (putOf (withoutOf fs [clH]) crU x) crU = true ∧ valsOf (putOf (withoutOf fs [clH]) crU x) clH = [] := by
  have hv := vals_put (withoutOf fs [clH]) crU x
  refine ⟨getJ_one hv, has_one hv, ?_⟩
  rw [vals_put_other _ _ _ _ (by decide), vals_without]
end Go.Proofs.YtipcmbonhkelbabGreatDoor
namespace Go.Proofs.YtipcmbonhkelbabGreatDoor
open Go.RowKit
end Go.Proofs.YtipcmbonhkelbabGreatDoor
namespace Go.Proofs.YtipcmbonhkelbabGreatDoor
open Go.RowKit
end Go.Proofs.YtipcmbonhkelbabGreatDoor
