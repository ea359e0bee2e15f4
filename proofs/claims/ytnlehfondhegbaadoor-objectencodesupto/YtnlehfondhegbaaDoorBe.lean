/- The bodies of the library's functions that are met here are those that the kit's contracts were proved of: the tables of numbers, checked body by body. The contract of responseLine. -/
import Derived.Shelf.Strconv.Atoi
import Derived.Test.YtnlehfondhegbaaDoorProg
import Derived.Test.YtnlehfondhegbaaDoorBd
import Derived.Lib.AtoiErrMem
import Derived.Lib.Atoi
namespace Go.Proofs
open Go.Shelf
end Go.Proofs
namespace Go.Proofs.YtnlehfondhegbaaDoor
open Go.RowKit
/-- a response as the model holds it, its fields being lv -/
def rsV (r : Rs) (lv : Value) : Value := .agg #[.int .i64 r.s, .string ⟨r.r.toArray⟩, .int .i64 r.k, lv]
def lineRV (q : Rs × Int) : Value := .tuple #[rsV q.1 (.slice none 0 0), .int .i64 q.2]
theorem three_of' (l : List UInt8) (h : l.length = 3) : ∃ a b c, l = [a, b, c] := by
  match l, h with
  | [a, b, c], _ => exact ⟨a, b, c, rfl⟩
theorem dig_nat {c : UInt8} (h : dig c = true) : 48 ≤ c.toNat ∧ c.toNat ≤ 57 := by
  unfold dig digI at h
  simp at h
  omega
theorem atoi3 (l : List UInt8) (h : l.length = 3) (hd : l.all dig = true) : Lib.atoi l = some (num3 l) := by
  obtain ⟨a, b, c, rfl⟩ := three_of' l h
  simp only [List.all_cons, List.all_nil, Bool.and_true, Bool.and_eq_true] at hd
  obtain ⟨ha, hb, hc⟩ := hd
  have da := dig_nat ha
  have db := dig_nat hb
  have dc := dig_nat hc
  have n1 : (a == 45) = false := by
    rw [beq_eq_false_iff_ne]; intro e; subst e; exact absurd da (by decide)
  have n2 : (a == 43) = false := by
    rw [beq_eq_false_iff_ne]; intro e; subst e; exact absurd da (by decide)
  simp only [Lib.atoi, n1, n2, Bool.false_eq_true, if_false, Lib.decNat, List.isEmpty_cons, Lib.decFrom, Lib.digitVal, if_pos da, if_pos db, if_pos dc, Option.map_some, Option.some.injEq]
  show _ = (a.toNat : Int) * 100 + (b.toNat : Int) * 10 + (c.toNat : Int) - 5328
  omega
theorem num3_bound (l : List UInt8) (h : l.length = 3) (hd : l.all dig = true) : 0 ≤ num3 l ∧ num3 l ≤ 999 := by
  obtain ⟨a, b, c, rfl⟩ := three_of' l h
  simp only [List.all_cons, List.all_nil, Bool.and_true, Bool.and_eq_true] at hd
  have da := dig_nat hd.1
  have db := dig_nat hd.2.1
  have dc := dig_nat hd.2.2
  show 0 ≤ (a.toNat : Int) * 100 + (b.toNat : Int) * 10 + (c.toNat : Int) - 5328 ∧ (a.toNat : Int) * 100 + (b.toNat : Int) * 10 + (c.toNat : Int) - 5328 ≤ 999
  omega
theorem statusTok (n : Int) (h0 : 0 ≤ n) (h1 : n ≤ 1000) (w : World) :
    Calls Tryd.prog 31 #[.int .i64 n] w fun e w' => e = .returned (.bool (goodS n)) ∧ w' = w := by
  by_cases a1 : 100 ≤ n
  · by_cases a2 : n ≤ 599
    · have H : Hid (goodS n = true) := by unfold Hid goodS; simp; omega
      have b2 : decide (n ≤ 599) = true := by simpa using a2
      have b1 : decide (100 ≤ n) = true := by simpa using a1
      go_enter Tryd.func31, Tryd.ntmps31
      go_wp2
      go_ret
      rw [H.out]
      exact ⟨rfl, rfl⟩
    · have b2 : decide (n ≤ 599) = false := by simpa using a2
      have b1 : decide (100 ≤ n) = true := by simpa using a1
      have H : Hid (goodS n = false) := by unfold Hid goodS; simp; omega
      go_enter Tryd.func31, Tryd.ntmps31
      go_wp2
      go_ret
      rw [H.out]
      exact ⟨rfl, rfl⟩
  · have b2 : decide (100 ≤ n) = false := by simpa using a1
    have H : Hid (goodS n = false) := by unfold Hid goodS; simp; omega
    go_enter Tryd.func31, Tryd.ntmps31
    go_wp2
    go_ret
    rw [H.out]
    exact ⟨rfl, rfl⟩
theorem lineR_ver (l : List UInt8) (h : isVer (word l) = false) : lineR l = (Rs.zero, 50) := by unfold lineR; rw [h]; rfl
theorem lineR_len (l : List UInt8) (h : ¬ (word (past l)).length = 3) : lineR l = (Rs.zero, 50) := by unfold lineR; rw [decide_eq_false h, Bool.false_and, Bool.and_false]; rfl
theorem lineR_dig (l : List UInt8) (h : (word (past l)).all dig = false) : lineR l = (Rs.zero, 50) := by unfold lineR; rw [h, Bool.false_and, Bool.and_false, Bool.and_false]; rfl
theorem lineR_txt (l : List UInt8) (h : (past (past l)).all txt = false) : lineR l = (Rs.zero, 50) := by unfold lineR; rw [h, Bool.and_false, Bool.and_false, Bool.and_false]; rfl
theorem lineR_all (l : List UInt8) (h1 : isVer (word l) = true) (h2 : (word (past l)).length = 3) (h3 : (word (past l)).all dig = true) (h4 : (past (past l)).all txt = true) :
    lineR l = if (minOf (word l)).2 = 0 then (if goodS (num3 (word (past l))) = true then (⟨num3 (word (past l)), past (past l), (minOf (word l)).1, []⟩, 0) else (Rs.zero, 53)) else (Rs.zero, 52) := by
  unfold lineR; rw [h1, decide_eq_true h2, h3, h4]; rfl
end Go.Proofs.YtnlehfondhegbaaDoor
