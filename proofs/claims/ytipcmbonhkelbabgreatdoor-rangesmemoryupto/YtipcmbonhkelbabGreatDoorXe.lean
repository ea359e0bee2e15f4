/- The walk of the law DateDays. Numbers as texts: the contracts of twoDigits and of the document's Show of a number, two, week and month. The contracts of twoDigits and Itoa, and of the document's two, week and month. The contract of Show. The contracts of number, monthOf and clockSecond. The contracts of splitShown and splitBlank. The contracts of splitBlank and splitDashed. The contract of Parse, by what split says. What Parse says of the texts that are forms of a second: the readings of the parts. -/
import Derived.Test.YtipcmbonhkelbabGreatDoorBn
import Derived.Test.YtipcmbonhkelbabGreatDoorOwnB
import Derived.Test.YtipcmbonhkelbabGreatDoorShelf
import Derived.Deep.RegionHeld3
import Derived.Test.YtipcmbonhkelbabGreatDoorShelfB
import Derived.Lib.IndexMore
import Derived.Shelf.Vars
namespace Go.Proofs.YtipcmbonhkelbabGreatDoor
open Go.RowKit
/-- what Day answers -/
def DayV (y m d : Int) (v e : Int) : Prop := (Valid y m d ∧ v = dayOf y m d ∧ e = 0) ∨ (¬ Valid y m d ∧ v = 0 ∧ e = 20)
theorem dayV_one (y m d : Int) : ∃ v e, DayV y m d v e ∧ -1 ≤ v ∧ v ≤ 2932896 := by
  by_cases h : Valid y m d
  · have := dayOf_range h
    exact ⟨_, _, .inl ⟨h, rfl, rfl⟩, by omega, by omega⟩
  · exact ⟨_, _, .inr ⟨h, rfl, rfl⟩, by omega, by omega⟩
theorem dayCodeV {y m d v e : Int} (h : DayV y m d v e) (w : World) (V : LenVar w) :
    Calls Tryz.prog 64 #[.int .i64 y, .int .i64 m, .int .i64 d] w fun x w' => x = .returned (.tuple #[.int .i64 v, .int .i64 e]) ∧ w' = w := by
  rcases h with ⟨h, rfl, rfl⟩ | ⟨h, rfl, rfl⟩
  · exact dayCode y m d h w V
  · exact dayCode_no y m d h w V
theorem dayRefV {y m d v e : Int} (h : DayV y m d v e) (w : World) :
    Calls Tryz.prog 71 #[.int .i64 y, .int .i64 m, .int .i64 d] w fun x w' => x = .returned (.tuple #[.int .i64 v, .int .i64 e]) ∧ Below w.heap.size w w' := by
  rcases h with ⟨h, rfl, rfl⟩ | ⟨h, rfl, rfl⟩
  · exact dayRef y m d h w
  · exact dayRef_no y m d h w
/-- what Civil answers -/
def CivV (n a b c e : Int) : Prop := (Valid a b c ∧ dayOf a b c = n ∧ e = 0) ∨ ((n < 0 ∨ 2932896 < n) ∧ a = 0 ∧ b = 0 ∧ c = 0 ∧ e = 20)
theorem civV_one (n : Int) : ∃ a b c e, CivV n a b c e := by
  by_cases h : n < 0 ∨ 2932896 < n
  · exact ⟨0, 0, 0, 20, .inr ⟨h, rfl, rfl, rfl, rfl⟩⟩
  · obtain ⟨y, m, d, hv, e⟩ := day_ex (n := n) (by omega) (by omega)
    exact ⟨y, m, d, 0, .inl ⟨hv, e, rfl⟩⟩
theorem civilRefV {n a b c e : Int} (h : CivV n a b c e) (w : World) :
    Calls Tryz.prog 91 #[.int .i64 n] w fun x w' => x = .returned (.tuple #[.int .i64 a, .int .i64 b, .int .i64 c, .int .i64 e]) ∧ Below w.heap.size w w' := by
  rcases h with ⟨h, rfl, rfl⟩ | ⟨h, rfl, rfl, rfl, rfl⟩
  · exact civilRef a b c h w
  · refine (civilRef_no n h w).mono ?_
    rintro x w' ⟨rfl, rfl⟩
    exact ⟨rfl, Below.refl _ _⟩
theorem valid2000 : Valid 2000 2 29 := ⟨by omega, by omega, by omega, by omega, by omega, by decide⟩
theorem day2000 (w : World) (V : LenVar w) :
    Calls Tryz.prog 64 #[.int .i64 2000, .int .i64 2, .int .i64 29] w fun x w' => x = .returned (.tuple #[.int .i64 11016, .int .i64 0]) ∧ w' = w := by
  have h := dayCode 2000 2 29 valid2000 w V
  have e : dayOf 2000 2 29 = 11016 := by decide
  rwa [e] at h
end Go.Proofs.YtipcmbonhkelbabGreatDoor
namespace Go.Proofs.YtipcmbonhkelbabGreatDoor.dateDays
open Go.RowKit
end Go.Proofs.YtipcmbonhkelbabGreatDoor.dateDays
namespace Go.Proofs.YtipcmbonhkelbabGreatDoor
open Go.RowKit
def dg (v : Int) : UInt8 := UInt8.ofNat (48 + v.toNat)
def D2 (v : Int) : List UInt8 := [dg (v / 10), dg (v % 10)]
def D4 (v : Int) : List UInt8 := [dg (v / 1000), dg (v / 100 % 10), dg (v / 10 % 10), dg (v % 10)]
theorem toList_mk (l : List UInt8) : (⟨l.toArray⟩ : ByteArray).data.toList = l := rfl
theorem ba_ofD {s : ByteArray} {l : List UInt8} (h : s.data.toList = l) : s = ⟨l.toArray⟩ := by cases s; simp at h; simp [← h]
theorem size_of {s : ByteArray} {l : List UInt8} (h : s.data.toList = l) : s.size = l.length := by rw [← h]; simp
theorem app_list (a b : ByteArray) : (a ++ b).data.toList = a.data.toList ++ b.data.toList := by simp [ByteArray.data_append]
theorem dec_small1 {n : Nat} (h : n < 10) : Lib.decDigits n = [dg n] := by rw [Lib.decDigits_one h]; rfl
theorem dg_nat (n : Nat) : UInt8.ofNat (48 + n) = dg (n : Int) := rfl
theorem dec_twoD {n : Nat} (h1 : 10 ≤ n) (h2 : n < 100) : Lib.decDigits n = D2 n := by
  rw [Lib.decDigits_two (by omega) h2]; rfl
theorem dec_four {n : Nat} (h1 : 1000 ≤ n) (h2 : n < 10000) : Lib.decDigits n = D4 n := by
  rw [Lib.decDigits, dif_neg (by omega), Lib.decDigits, dif_neg (by omega), Lib.decDigits, dif_neg (by omega), Lib.decDigits_one (by omega)]
  simp only [D4, dg, List.cons_append, List.nil_append, List.cons.injEq]
  exact ⟨congrArg _ (by omega), congrArg _ (by omega), congrArg _ (by omega), congrArg _ (by omega), trivial⟩
theorem dg_zero {n : Nat} (h : n < 10) : D2 n = [48, dg n] := by
  unfold D2
  rw [show ((n : Int) / 10) = 0 by omega, show ((n : Int) % 10) = n by omega]; rfl
def decED (k : Nat) : List UInt8 := if k = 0 then [] else Lib.decDigits k
theorem decED_step {k : Nat} (h : k ≠ 0) : decED k = decED (k / 10) ++ [UInt8.ofNat (48 + k % 10)] := by
  unfold decED
  rw [if_neg h]
  by_cases h1 : k < 10
  · rw [if_pos (by omega), Lib.decDigits_one h1, show k % 10 = k by omega]; rfl
  · rw [if_neg (by omega), Lib.decDigits, dif_neg h1]
theorem dig_valD (k : Nat) : (48 + (k : Int) % 10) = ((UInt8.ofNat (48 + k % 10)).toNat : Int) := by
  rw [UInt8.toNat_ofNat']; omega
theorem drop_revD {ds : List UInt8} {k : Nat} (h : k + 1 ≤ ds.length) : (ds.drop k).reverse = (ds.drop (k + 1)).reverse ++ [ds[k]'(by omega)] := by
  rw [List.drop_eq_getElem_cons (by omega)]; simp
set_option maxHeartbeats 2000000 in
theorem showNum (n : Nat) (hn : n ≤ 9999) (w : World) :
    Calls Tryz.prog 28 #[.int .i64 n] w fun e w' => e = .returned (.string ⟨(Lib.decDigits n).toArray⟩) ∧ Below w.heap.size w w' := by
  by_cases h0 : n = 0
  · subst h0
    have H : Hid (Lib.decDigits 0 = [48]) := by unfold Hid; rw [Lib.decDigits_one (by omega)]; rfl
    clear hn
    go_enter Tryz.func28, Tryz.ntmps28
    go_wp2
    go_ret
    rw [H.out]
    exact ⟨rfl, Below.refl _ _⟩
  · have b0 : ((n : Int) == 0) = false := by simp; omega
    have HD : Hid (decED n = Lib.decDigits n) := by unfold Hid decED; rw [if_neg h0]
    have hpos : 0 < n := by omega
    clear h0
    generalize Lib.decDigits n = D at HD ⊢
    go_enter Tryz.func28, Tryz.ntmps28
    go_wp2
    go_loopw [0, 3, 5] (fun vv dv _ wr => ∃ (k : Nat) (ds : List UInt8), vv = .int .i64 k ∧ k + ds.length ≤ n ∧ Hid (decED k ++ ds.reverse = D) ∧ Own w dv ds wr) (fun vv _ _ _ => (intOf vv).toNat)
    case atStart => exact ⟨n, [], rfl, by simp, by unfold Hid; rw [HD.out]; simp, own_empty w⟩
    case round =>
      obtain ⟨k, ds, rfl, hk, hR, hown⟩ := hrel
      obtain ⟨w5, e5⟩ : ∃ x, x = wr := ⟨_, rfl⟩
      subst e5
      by_cases hk0 : k = 0
      · have HE : Hid (ds.reverse = D) := by have := hR.out; unfold Hid; rw [hk0] at this; simpa [decED] using this
        have e0 : (k : Int) = 0 := by omega
        rw [e0]
        clear e0 hR
        rcases hown.1.2 with ⟨rfl, hn0⟩ | ⟨g, cap, cur, rfl, hh⟩
        · exfalso
          have e1 : ds = [] := List.eq_nil_of_length_eq_zero hn0
          have e2 : decED n = [] := by rw [HD.out, ← HE.out, e1]; rfl
          rw [decED_step (by omega)] at e2
          simp at e2
        · obtain ⟨m, hm⟩ : ∃ m, m = ds.length := ⟨_, rfl⟩
          have hml : m ≤ 9999 := by omega
          have HO : Hid (Own w (.slice (some ⟨g, 0, none⟩) ds.length cap) ds w5) := hown
          rw [← hm] at hown ⊢
          have hgl : g < w5.heap.size := (hown.1.lt g rfl).2
          have HM : Hid (m = ds.length) := hm
          clear hm hh hown
          go_wp2_with fail
          go_loopw [6, 7] (fun ov iv wr => ∃ (j : Nat), j ≤ m ∧ iv = .int .i64 ((j : Int) - 1) ∧ Own w5 ov ((ds.drop j).reverse) wr) (fun _ iv _ => (intOf iv + 1).toNat)
          case atStart => exact ⟨m, by omega, rfl, by rw [HM.out, List.drop_length]; exact own_empty w5⟩
          case round =>
            obtain ⟨j, hj, rfl, hown2⟩ := hrel
            cases j with
            | zero =>
              have hc := own_conv hown2
              have HF : Hid ((⟨((ds.drop 0).reverse).toArray⟩ : ByteArray) = ⟨D.toArray⟩) := by unfold Hid; rw [List.drop_zero, HE.out]
              generalize (ds.drop 0).reverse = Z at hc HF hown2
              go_wp2_with fail
              go_ret
              rw [HF.out]
              exact ⟨rfl, HO.out.2.trans (hown2.2.mono HO.out.2.size)⟩
            | succ j =>
              have hjl : j < ds.length := by have := HM.out; omega
              have hcell : w5.cell? ⟨g, j, none⟩ = some (.int .u8 (ds[j].toNat : Int)) := by
                have := HO.out.1.cells rfl j (B ds[j]) (by simp [hjl])
                rcases Nat.eq_zero_or_pos j with rfl | hp
                · simpa [Addr.add, B] using this
                · simpa [Addr.add, B, Nat.ne_of_gt hp] using this
              have hc2 : wr.cell? ⟨g, j, none⟩ = some (.int .u8 (ds[j].toNat : Int)) := by
                rw [hown2.2.cell (p := ⟨g, j, none⟩) hgl]; exact hcell
              have R : Hid ((ds.drop j).reverse = (ds.drop (j + 1)).reverse ++ [ds[j]]) := drop_revD (by omega)
              have hl : ((ds.drop (j + 1)).reverse).length ≤ 9999 := by simp; have := HM.out; omega
              have hb := byte_lt ds[j]
              generalize ds[j] = c at hcell hc2 R hb
              generalize (ds.drop (j + 1)).reverse = Z at hown2 R hl
              have j0 : (0 : Int) ≤ ((j + 1 : Nat) : Int) - 1 := by omega
              clear hcell hjl
              go_wp2_with (at_builtin; refine app1 rfl (.tmp 41) (.tmp 46) rfl w5 _ _ rfl hown2 c rfl rfl (by omega) ?_; intro v1 w3 hown3)
              go_roundw
              case rel => exact ⟨j, by omega, by go_num, by rw [R.out]; exact hown3⟩
              case measure => simp [intOf]
      · have b1 : ((k : Int) != 0) = true := by simp; omega
        have r0 : 0 ≤ (k : Int) % 10 := by omega
        have r1 : (k : Int) % 10 ≤ 9 := by omega
        have dv := dig_valD k
        have R : Hid (decED (k / 10) ++ (ds ++ [UInt8.ofNat (48 + k % 10)]).reverse = D) := by
          unfold Hid; rw [← hR.out, decED_step hk0]; simp
        have DV : Hid (48 + (k : Int) % 10 = ((UInt8.ofNat (48 + k % 10)).toNat : Int)) := dv
        generalize UInt8.ofNat (48 + k % 10) = c at R DV
        clear dv hR
        go_wp2_with (at_builtin; refine app1 rfl (.tmp 21) (.tmp 25) rfl w _ _ rfl hown c (DV.out) rfl (by omega) ?_; intro v1 w1 hown1)
        go_roundw
        case rel => exact ⟨k / 10, ds ++ [c], by go_num, by simp; omega, R, hown1⟩
        case measure => simp [intOf]; omega
end Go.Proofs.YtipcmbonhkelbabGreatDoor
namespace Go.Proofs.YtipcmbonhkelbabGreatDoor
open Go.RowKit
def lenV : Value → Nat
  | .string s => s.size
  | _ => 0
set_option maxHeartbeats 1000000 in
theorem twoRef (n : Nat) (h : n < 100) (w : World) :
    Calls Tryz.prog 92 #[.int .i64 n, .int .i64 2] w fun e w' => e = .returned (.string ⟨(D2 n).toArray⟩) ∧ Below w.heap.size w w' := by
  have c := showNum n (by omega)
  by_cases h1 : n < 10
  · rw [dec_small1 h1] at c
    have H : Hid ((⟨#[48]⟩ : ByteArray) ++ ⟨[dg n].toArray⟩ = ⟨(D2 n).toArray⟩) := by unfold Hid; rw [dg_zero h1]; rfl
    have z : (⟨[dg n].toArray⟩ : ByteArray).size = 1 := rfl
    have z2 : ((⟨#[48]⟩ : ByteArray) ++ ⟨[dg n].toArray⟩).size = 2 := by rw [H.out]; rfl
    generalize (⟨[dg n].toArray⟩ : ByteArray) = x at c H z z2
    replace c := hide c
    go_enter Tryz.func92, Tryz.ntmps92
    go_wp2_with fail
    refine (c.out _).mono ?_
    rintro e w1 ⟨rfl, b1⟩
    replace b1 := hide b1
    go_wp2_with fail
    go_loop [5] (fun sv => sv = .string x ∨ sv = .string (⟨#[48]⟩ ++ x)) (fun sv => 2 - lenV sv)
    case atStart => exact .inl rfl
    case round =>
      rcases hrel with rfl | rfl
      · go_wp2_with fail
        go_round
        case rel => exact .inr rfl
        case measure => simp [lenV, z, z2]
      · clear z
        generalize (⟨#[48]⟩ : ByteArray) ++ x = y at z2 H
        go_wp2_with fail
        go_ret
        rw [H.out]
        exact ⟨rfl, b1.out⟩
  · rw [dec_twoD (by omega) h] at c
    have z : (⟨(D2 n).toArray⟩ : ByteArray).size = 2 := rfl
    generalize (⟨(D2 n).toArray⟩ : ByteArray) = x at c z ⊢
    replace c := hide c
    clear h1
    go_enter Tryz.func92, Tryz.ntmps92
    go_wp2_with fail
    refine (c.out _).mono ?_
    rintro e w1 ⟨rfl, b1⟩
    replace b1 := hide b1
    go_wp2_with fail
    go_loop [5] (fun sv => sv = .string x) (fun _ => 0)
    case atStart => exact rfl
    case round =>
      obtain rfl := hrel
      go_wp2_with fail
      go_ret
      exact ⟨rfl, b1.out⟩
set_option maxHeartbeats 1000000 in
theorem fourRef (n : Nat) (h0 : 1000 ≤ n) (h : n < 10000) (w : World) :
    Calls Tryz.prog 92 #[.int .i64 n, .int .i64 4] w fun e w' => e = .returned (.string ⟨(D4 n).toArray⟩) ∧ Below w.heap.size w w' := by
  have c := showNum n (by omega)
  rw [dec_four h0 h] at c
  have z : (⟨(D4 n).toArray⟩ : ByteArray).size = 4 := rfl
  generalize (⟨(D4 n).toArray⟩ : ByteArray) = x at c z ⊢
  replace c := hide c
  go_enter Tryz.func92, Tryz.ntmps92
  go_wp2_with fail
  refine (c.out _).mono ?_
  rintro e w1 ⟨rfl, b1⟩
  replace b1 := hide b1
  go_wp2_with fail
  go_loop [5] (fun sv => sv = .string x) (fun _ => 0)
  case atStart => exact rfl
  case round =>
    obtain rfl := hrel
    go_wp2_with fail
    go_ret
    exact ⟨rfl, b1.out⟩
/-- the weekday of a day's number, and a month's name -/
def wkL (n : Int) : List UInt8 := wtab.getD (n % 7).toNat []
def moL (m : Int) : List UInt8 := motab.getD (m - 1).toNat []
theorem seven (n : Int) : n % 7 = 0 ∨ n % 7 = 1 ∨ n % 7 = 2 ∨ n % 7 = 3 ∨ n % 7 = 4 ∨ n % 7 = 5 ∨ n % 7 = 6 := by omega
set_option maxHeartbeats 1000000 in
theorem monthRef (m : Int) (m0 : 1 ≤ m) (m1 : m ≤ 12) (w : World) :
    Calls Tryz.prog 70 #[.int .i64 m] w fun e w' => e = .returned (.string ⟨(moL m).toArray⟩) ∧ w' = w := by
  rcases twelve m0 m1 with rfl | rfl | rfl | rfl | rfl | rfl | rfl | rfl | rfl | rfl | rfl | rfl
  all_goals
    clear m0 m1
    go_enter Tryz.func70, Tryz.ntmps70
    go_wp2_with fail
    go_ret
    exact ⟨rfl, rfl⟩
set_option maxHeartbeats 1000000 in
theorem weekRef (n : Int) (n0 : 0 ≤ n) (n1 : n ≤ 2932896) (w : World) :
    Calls Tryz.prog 93 #[.int .i64 n] w fun e w' => e = .returned (.string ⟨(wkL n).toArray⟩) ∧ Below w.heap.size w w' := by
  have H := hide (show wkL n = wtab.getD (n % 7).toNat [] from rfl)
  generalize wkL n = L at H ⊢
  rcases seven n with h | h | h | h | h | h | h
  all_goals
    rw [h] at H
    go_enter Tryz.func93, Tryz.ntmps93
    go_wp2_with fail
    go_ret
    rw [H.out]
    exact ⟨rfl, (Below.refl _ _).alloc (Nat.le_refl _) _⟩
end Go.Proofs.YtipcmbonhkelbabGreatDoor
namespace Go.Proofs.YtipcmbonhkelbabGreatDoor
open Go.RowKit
theorem twoRefI (n : Int) (h0 : 0 ≤ n) (h1 : n < 100) (w : World) :
    Calls Tryz.prog 92 #[.int .i64 n, .int .i64 2] w fun e w' => e = .returned (.string ⟨(D2 n).toArray⟩) ∧ Below w.heap.size w w' := by
  have := twoRef n.toNat (by omega) w
  rwa [Int.toNat_of_nonneg h0] at this
theorem fourRefI (n : Int) (h0 : 1000 ≤ n) (h1 : n < 10000) (w : World) :
    Calls Tryz.prog 92 #[.int .i64 n, .int .i64 4] w fun e w' => e = .returned (.string ⟨(D4 n).toArray⟩) ∧ Below w.heap.size w w' := by
  have := fourRef n.toNat (by omega) (by omega) w
  rwa [Int.toNat_of_nonneg (by omega)] at this
def hmsL (r : Int) : List UInt8 := D2 (r / 3600) ++ [58] ++ D2 (r / 60 % 60) ++ [58] ++ D2 (r % 60)
def showL (n r y m d : Int) : List UInt8 := (wkL n).take 3 ++ [44, 32] ++ D2 d ++ [32] ++ moL m ++ [32] ++ D4 y ++ [32] ++ hmsL r ++ [32, 71, 77, 84]
theorem wkL_len (n : Int) : 6 ≤ (wkL n).length ∧ (wkL n).length ≤ 9 := by
  unfold wkL
  rcases seven n with h | h | h | h | h | h | h <;> rw [h] <;> decide
theorem moL_len {m : Int} (m0 : 1 ≤ m) (m1 : m ≤ 12) : (moL m).length = 3 := by
  rcases twelve m0 m1 with rfl | rfl | rfl | rfl | rfl | rfl | rfl | rfl | rfl | rfl | rfl | rfl <;> decide
theorem cutT (s : ByteArray) (t : Nat) (ht : t ≤ s.size) (w : World) :
    Sem.run Tryz.prog (Instr.slice 9 (.string s) none (some (.int .i64 t)) none) w = .ok (.string (s.extract 0 t)) w := by
  rw [run_slice_string_to_if w 9 s .i64 t Tryz.underlying9, if_pos ⟨by omega, by omega⟩]
  simp only [Int.toNat_natCast]
theorem valid1994 : Valid 1994 11 6 := ⟨by omega, by omega, by omega, by omega, by omega, by decide⟩
/-- the second's day has a name -/
theorem dateOf {t : Int} (t0 : 0 ≤ t) (t1 : t ≤ 253402300799) : ∃ y m d, Valid y m d ∧ dayOf y m d = t / 86400 := day_ex (by omega) (by omega)
end Go.Proofs.YtipcmbonhkelbabGreatDoor
namespace Go.Proofs.YtipcmbonhkelbabGreatDoor
open Go.RowKit
theorem ne_list {a b : ByteArray} (h : ¬ a = b) : (a.toList == b.toList) = false := by
  rw [Lib.toList_data, Lib.toList_data]
  simp only [beq_eq_false_iff_ne, ne_eq]
  intro e
  exact h (ByteArray.ext (Array.ext' e))
def isDig (c : UInt8) : Bool := decide (48 ≤ (c.toNat : Int) ∧ (c.toNat : Int) ≤ 57)
def digs (l : List UInt8) : Bool := l.all isDig
def numV (l : List UInt8) : Int := l.foldl (fun n c => n * 10 + ((c.toNat : Int) - 48)) 0
def numB (l : List UInt8) : Int := if digs l then numV l else 0
theorem numV_snoc (l : List UInt8) (c : UInt8) : numV (l ++ [c]) = numV l * 10 + ((c.toNat : Int) - 48) := by simp [numV]
theorem digs_snoc (l : List UInt8) (c : UInt8) : digs (l ++ [c]) = (digs l && isDig c) := by simp [digs]
theorem isDig_in {c : UInt8} (h : isDig c = true) : 48 ≤ (c.toNat : Int) ∧ (c.toNat : Int) ≤ 57 := by simpa [isDig] using h
theorem numV_bd (s : ByteArray) : ∀ k, digs (s.data.toList.take k) = true → k ≤ s.size → 0 ≤ numV (s.data.toList.take k) ∧ numV (s.data.toList.take k) + 1 ≤ 10 ^ k := by
  intro k
  induction k with
  | zero => intro _ _; simp [numV]
  | succ k ih =>
    intro h hk
    rw [take_snoc s k (by omega)] at h ⊢
    rw [digs_snoc, Bool.and_eq_true] at h
    obtain ⟨a, b⟩ := ih h.1 (by omega)
    have := isDig_in h.2
    rw [numV_snoc, Int.pow_succ]
    omega
theorem pow_le8 {k : Nat} (h : k ≤ 8) : (10 : Int) ^ k ≤ 100000000 := by
  have : k = 0 ∨ k = 1 ∨ k = 2 ∨ k = 3 ∨ k = 4 ∨ k = 5 ∨ k = 6 ∨ k = 7 ∨ k = 8 := by omega
  rcases this with rfl | rfl | rfl | rfl | rfl | rfl | rfl | rfl | rfl <;> decide
theorem digs_bad (s : ByteArray) (k : Nat) (h : k < s.size) (hc : isDig s[k] = false) : digs s.data.toList = false := by
  unfold digs
  rw [List.all_eq_false]
  exact ⟨s.data.toList[k]'(by simpa using h), List.getElem_mem _, by rw [show s.data.toList[k]'(by simpa using h) = s[k] from rfl, hc]; simp⟩
set_option maxHeartbeats 1000000 in
theorem numberCode (s : ByteArray) (hs : s.size ≤ 8) (w : World) :
    Calls Tryz.prog 61 #[.string s] w fun e w' => e = .returned (.tuple #[.int .i64 (numB s.data.toList), .bool (digs s.data.toList)]) ∧ w' = w := by
  go_enter Tryz.func61, Tryz.ntmps61
  go_wp2
  go_loop [4, 5, 8] (fun nv _ iv => ∃ (k : Nat) (n : Int), k ≤ s.size ∧ iv = .int .i64 k ∧ nv = .int .i64 n ∧ Hid (n = numV (s.data.toList.take k)) ∧ Hid (digs (s.data.toList.take k) = true)) (fun _ _ iv => s.size - (intOf iv).toNat)
  case atStart => exact ⟨0, 0, by omega, rfl, rfl, rfl, rfl⟩
  case round =>
    obtain ⟨k, n, hk, rfl, rfl, hn, hd⟩ := hrel
    have bn : 0 ≤ n ∧ n ≤ 100000000 := by
      have := numV_bd s k hd.out hk
      rw [← hn.out] at this
      have := pow_le8 (show k ≤ 8 by omega)
      omega
    by_cases hlt : k < s.size
    · have hb := byte_lt s[k]
      cases hc : isDig s[k] with
      | true =>
        obtain ⟨c0, c1⟩ := isDig_in hc
        have N : Hid (n * 10 + ((s[k].toNat : Int) - 48) = numV (s.data.toList.take (k + 1))) := by unfold Hid; rw [take_snoc s k hlt, numV_snoc, ← hn.out]
        have D : Hid (digs (s.data.toList.take (k + 1)) = true) := by unfold Hid; rw [take_snoc s k hlt, digs_snoc, hd.out, hc]; rfl
        clear hc hn hd
        go_wp2
        go_round
        case rel => exact ⟨k + 1, n * 10 + ((s[k].toNat : Int) - 48), by omega, by go_num, rfl, N, D⟩
        case measure => simp [intOf]; omega
      | false =>
        have F : Hid (digs s.data.toList = false) := digs_bad s k hlt hc
        have G : Hid (numB s.data.toList = 0) := by unfold Hid numB; rw [F.out]; rfl
        have hc2 : (s[k].toNat : Int) < 48 ∨ (48 ≤ (s[k].toNat : Int) ∧ 57 < (s[k].toNat : Int)) := by
          have : ¬ (48 ≤ (s[k].toNat : Int) ∧ (s[k].toNat : Int) ≤ 57) := by simpa [isDig] using hc
          omega
        clear hc hn hd
        rcases hc2 with c0 | ⟨c0, c1⟩
        all_goals
          go_wp2
          go_ret2
          rw [F.out, G.out]
          exact ⟨rfl, rfl⟩
    · have F : Hid (digs s.data.toList = true) := by have := hd.out; rwa [take_all s k (by omega)] at this
      have G : Hid (numB s.data.toList = n) := by unfold Hid numB; rw [F.out, if_pos rfl, hn.out, take_all s k (by omega)]
      clear hn hd
      go_wp2
      go_ret2
      rw [F.out, G.out]
      exact ⟨rfl, rfl⟩
def moB (k : Nat) : ByteArray := ⟨(motab.getD k []).toArray⟩
theorem idx12 (k : Nat) (h : k < 12) (w : World) : Sem.run Tryz.prog (Instr.index 106 (.agg #[.string (moB 0), .string (moB 1), .string (moB 2), .string (moB 3), .string (moB 4), .string (moB 5), .string (moB 6), .string (moB 7), .string (moB 8), .string (moB 9), .string (moB 10), .string (moB 11)]) (.int .i64 k)) w = .ok (.string (moB k)) w := by
  have : k = 0 ∨ k = 1 ∨ k = 2 ∨ k = 3 ∨ k = 4 ∨ k = 5 ∨ k = 6 ∨ k = 7 ∨ k = 8 ∨ k = 9 ∨ k = 10 ∨ k = 11 := by omega
  rcases this with rfl | rfl | rfl | rfl | rfl | rfl | rfl | rfl | rfl | rfl | rfl | rfl <;> simp [Instr.index, run_underlying Tryz.underlying106, asIntOf, go_sem]
set_option maxHeartbeats 1000000 in
theorem monthOfCode (s : ByteArray) (j : Nat) (hj : j ≤ 12) (hne : ∀ k, k < j → ¬ moB k = s) (heq : j < 12 → moB j = s) (v : Int) (b : Bool) (hv : (j < 12 ∧ v = (j : Int) + 1 ∧ b = true) ∨ (j = 12 ∧ v = 0 ∧ b = false)) (w : World) (V : Vars w) :
    Calls Tryz.prog 62 #[.string s] w fun e w' => e = .returned (.tuple #[.int .i64 v, .bool b]) ∧ w' = w := by
  have m0 : w.cell? ⟨1, 0, none⟩ = some (.string (moB 0)) := V.mon 0 (by omega)
  have m1 : w.cell? ⟨1, 1, none⟩ = some (.string (moB 1)) := V.mon 1 (by omega)
  have m2 : w.cell? ⟨1, 2, none⟩ = some (.string (moB 2)) := V.mon 2 (by omega)
  have m3 : w.cell? ⟨1, 3, none⟩ = some (.string (moB 3)) := V.mon 3 (by omega)
  have m4 : w.cell? ⟨1, 4, none⟩ = some (.string (moB 4)) := V.mon 4 (by omega)
  have m5 : w.cell? ⟨1, 5, none⟩ = some (.string (moB 5)) := V.mon 5 (by omega)
  have m6 : w.cell? ⟨1, 6, none⟩ = some (.string (moB 6)) := V.mon 6 (by omega)
  have m7 : w.cell? ⟨1, 7, none⟩ = some (.string (moB 7)) := V.mon 7 (by omega)
  have m8 : w.cell? ⟨1, 8, none⟩ = some (.string (moB 8)) := V.mon 8 (by omega)
  have m9 : w.cell? ⟨1, 9, none⟩ = some (.string (moB 9)) := V.mon 9 (by omega)
  have m10 : w.cell? ⟨1, 10, none⟩ = some (.string (moB 10)) := V.mon 10 (by omega)
  have m11 : w.cell? ⟨1, 11, none⟩ = some (.string (moB 11)) := V.mon 11 (by omega)
  clear V
  replace hne := hide hne
  replace heq := hide heq
  replace hv := hide hv
  go_enter Tryz.func62, Tryz.ntmps62
  go_wp2_with fail
  clear m0 m1 m2 m3 m4 m5 m6 m7 m8 m9 m10 m11
  go_loop [4, 5, 7] (fun _ _ iv => ∃ k : Nat, k ≤ j ∧ iv = .int .i64 k) (fun _ _ iv => 12 - (intOf iv).toNat)
  case atStart => exact ⟨0, by omega, rfl⟩
  case round =>
    obtain ⟨k, hk, rfl⟩ := hrel
    by_cases h12 : k < 12
    · have hI := idx12 k h12
      by_cases hkj : k < j
      · have q := ne_list (hne.out k hkj)
        generalize moB k = x at hI q
        go_wp2_with fail
        go_round
        case rel => exact ⟨k + 1, by omega, by go_num⟩
        case measure => simp [intOf]; omega
      · obtain rfl : k = j := by omega
        have q := heq.out h12
        rw [q] at hI
        have F : Hid (v = (k : Int) + 1 ∧ b = true) := by
          rcases hv.out with ⟨_, h1, h2⟩ | ⟨h, _⟩
          · exact ⟨h1, h2⟩
          · omega
        clear q
        go_wp2_with fail
        go_ret2
        rw [F.out.1, F.out.2]
        exact ⟨rfl, rfl⟩
    · obtain rfl : k = j := by omega
      have F : Hid (v = 0 ∧ b = false) := by
        rcases hv.out with ⟨h, _⟩ | ⟨_, h1, h2⟩
        · omega
        · exact ⟨h1, h2⟩
      go_wp2_with fail
      go_ret2
      rw [F.out.1, F.out.2]
      exact ⟨rfl, rfl⟩
/-- what number says of a text -/
def NumIs (x : ByteArray) (v : Int) (b : Bool) : Prop := x.size ≤ 8 ∧ v = numB x.data.toList ∧ b = digs x.data.toList
theorem numIs {x : ByteArray} {v : Int} {b : Bool} (h : NumIs x v b) (w : World) :
    Calls Tryz.prog 61 #[.string x] w fun e w' => e = .returned (.tuple #[.int .i64 v, .bool b]) ∧ w' = w := by
  obtain ⟨h0, rfl, rfl⟩ := h
  exact numberCode x h0 w
set_option maxHeartbeats 1000000 in
theorem clockCode_no1 (s : ByteArray) (hs : s.size = 8) (h : ¬ (s[2].toNat : Int) = 58 ∨ ((s[2].toNat : Int) = 58 ∧ ¬ (s[5].toNat : Int) = 58)) (w : World) :
    Calls Tryz.prog 63 #[.string s] w fun e w' => e = .returned (.tuple #[.int .i64 0, .bool false]) ∧ w' = w := by
  rcases h with h | ⟨h, h'⟩
  · have b1 : ((s[2].toNat : Int) == 58) = false := by simpa using h
    have b2 : ((s[2].toNat : Int) != 58) = true := by simpa using h
    clear h
    go_enter Tryz.func63, Tryz.ntmps63
    go_wp2_with fail
    go_ret2
    exact ⟨rfl, rfl⟩
  · have b1 : ((s[2].toNat : Int) != 58) = false := by simpa using h
    have b2 : ((s[5].toNat : Int) != 58) = true := by simpa using h'
    clear h h'
    go_enter Tryz.func63, Tryz.ntmps63
    go_wp2_with fail
    go_ret2
    exact ⟨rfl, rfl⟩
set_option maxHeartbeats 2000000 in
theorem clockCode_yes (s : ByteArray) (hs : s.size = 8) (h2 : (s[2].toNat : Int) = 58) (h5 : (s[5].toNat : Int) = 58) (a b c : Int) (ha : NumIs (s.extract 0 2) a true) (hb : NumIs (s.extract 3 5) b true) (hc : NumIs (s.extract 6 8) c true)
    (a0 : 0 ≤ a) (b0 : 0 ≤ b) (c0 : 0 ≤ c) (a1 : a ≤ 23) (b1 : b ≤ 59) (c1 : c ≤ 59) (w : World) :
    Calls Tryz.prog 63 #[.string s] w fun e w' => e = .returned (.tuple #[.int .i64 (a * 3600 + b * 60 + c), .bool true]) ∧ w' = w := by
  have k1 : ((s[2].toNat : Int) != 58) = false := by simpa using h2
  have k2 : ((s[5].toNat : Int) != 58) = false := by simpa using h5
  have cA := hide (numIs ha)
  have cB := hide (numIs hb)
  have cC := hide (numIs hc)
  clear h2 h5 ha hb hc
  go_enter Tryz.func63, Tryz.ntmps63
  go_wp2_with fail
  refine (cA.out _).mono ?_
  rintro e w1 ⟨rfl, rfl⟩
  go_wp2_with fail
  refine (cB.out _).mono ?_
  rintro e w1 ⟨rfl, rfl⟩
  go_wp2_with fail
  refine (cC.out _).mono ?_
  rintro e w1 ⟨rfl, rfl⟩
  go_wp2_with fail
  go_ret2
  exact ⟨rfl, rfl⟩
set_option maxHeartbeats 2000000 in
theorem clockCode_no2 (s : ByteArray) (hs : s.size = 8) (h2 : (s[2].toNat : Int) = 58) (h5 : (s[5].toNat : Int) = 58) (a b c : Int) (x y z : Bool) (ha : NumIs (s.extract 0 2) a x) (hb : NumIs (s.extract 3 5) b y) (hc : NumIs (s.extract 6 8) c z)
    (h : x = false ∨ (x = true ∧ y = false) ∨ (x = true ∧ y = true ∧ z = false) ∨ (x = true ∧ y = true ∧ z = true ∧ 23 < a) ∨ (x = true ∧ y = true ∧ z = true ∧ a ≤ 23 ∧ 59 < b) ∨ (x = true ∧ y = true ∧ z = true ∧ a ≤ 23 ∧ b ≤ 59 ∧ 59 < c)) (w : World) :
    Calls Tryz.prog 63 #[.string s] w fun e w' => e = .returned (.tuple #[.int .i64 0, .bool false]) ∧ w' = w := by
  have k1 : ((s[2].toNat : Int) != 58) = false := by simpa using h2
  have k2 : ((s[5].toNat : Int) != 58) = false := by simpa using h5
  have cA := hide (numIs ha)
  have cB := hide (numIs hb)
  have cC := hide (numIs hc)
  clear h2 h5 ha hb hc
  rcases h with rfl | ⟨rfl, rfl⟩ | ⟨rfl, rfl, rfl⟩ | ⟨rfl, rfl, rfl, q1⟩ | ⟨rfl, rfl, rfl, q1, q2⟩ | ⟨rfl, rfl, rfl, q1, q2, q3⟩
  all_goals
    go_enter Tryz.func63, Tryz.ntmps63
    go_wp2_with fail
    refine (cA.out _).mono ?_
    rintro e w1 ⟨rfl, rfl⟩
    go_wp2_with fail
    refine (cB.out _).mono ?_
    rintro e w1 ⟨rfl, rfl⟩
    go_wp2_with fail
    refine (cC.out _).mono ?_
    rintro e w1 ⟨rfl, rfl⟩
    go_wp2_with fail
    go_ret2
    exact ⟨rfl, rfl⟩
end Go.Proofs.YtipcmbonhkelbabGreatDoor
namespace Go.Proofs.YtipcmbonhkelbabGreatDoor
open Go.RowKit
def partsV (wd dd mo yy ck : ByteArray) (wh : Bool) : Value := .agg #[.string wd, .string dd, .string mo, .string yy, .string ck, .bool wh]
set_option maxHeartbeats 2000000 in
theorem splitShown_yes (s : ByteArray) (hs : s.size = 29) (e1 : s.extract 3 5 = ⟨#[44, 32]⟩) (e2 : (s[7].toNat : Int) = 32) (e3 : (s[11].toNat : Int) = 32) (e4 : (s[16].toNat : Int) = 32) (e5 : s.extract 25 29 = ⟨#[32, 71, 77, 84]⟩) (w : World) :
    Calls Tryz.prog 81 #[.string s] w fun e w' => e = .returned (.tuple #[partsV (s.extract 0 3) (s.extract 5 7) (s.extract 8 11) (s.extract 12 16) (s.extract 17 25) false, .bool true]) ∧ Below w.heap.size w w' := by
  have k2 : ((s[7].toNat : Int) != 32) = false := by simpa using e2
  have k3 : ((s[11].toNat : Int) != 32) = false := by simpa using e3
  have k4 : ((s[16].toNat : Int) != 32) = false := by simpa using e4
  clear e2 e3 e4
  go_enter Tryz.func81, Tryz.ntmps81
  go_wp2_with fail
  clear e1 e5 k2 k3 k4
  go_region_held3 (fun _ => True) (trivial) (fail)
  go_wp2_with fail
  exact bodyPost_ret (v := .tuple #[partsV (s.extract 0 3) (s.extract 5 7) (s.extract 8 11) (s.extract 12 16) (s.extract 17 25) false, .bool true]) (by simp [results, Tryz.results81, go_sem, partsV]) rfl ⟨rfl, ((Below.refl _ _).alloc (Nat.le_refl _) _).drew⟩
theorem ne_lit {a : ByteArray} {l : List UInt8} (h : ¬ a = ⟨l.toArray⟩) : (a.toList == l) = false := by
  rw [Lib.toList_data]
  simp only [beq_eq_false_iff_ne, ne_eq]
  intro e
  exact h (ba_ofD e)
def zeroP : Value := partsV ⟨#[]⟩ ⟨#[]⟩ ⟨#[]⟩ ⟨#[]⟩ ⟨#[]⟩ false
set_option maxHeartbeats 2000000 in
theorem splitShown_no (s : ByteArray) (hs : s.size = 29) (h : ¬ s.extract 3 5 = ⟨#[44, 32]⟩ ∨ (s.extract 3 5 = ⟨#[44, 32]⟩ ∧ ¬ (s[7].toNat : Int) = 32) ∨ (s.extract 3 5 = ⟨#[44, 32]⟩ ∧ (s[7].toNat : Int) = 32 ∧ ¬ (s[11].toNat : Int) = 32) ∨
      (s.extract 3 5 = ⟨#[44, 32]⟩ ∧ (s[7].toNat : Int) = 32 ∧ (s[11].toNat : Int) = 32 ∧ ¬ (s[16].toNat : Int) = 32) ∨ (s.extract 3 5 = ⟨#[44, 32]⟩ ∧ (s[7].toNat : Int) = 32 ∧ (s[11].toNat : Int) = 32 ∧ (s[16].toNat : Int) = 32 ∧ ¬ s.extract 25 29 = ⟨#[32, 71, 77, 84]⟩)) (w : World) :
    Calls Tryz.prog 81 #[.string s] w fun e w' => e = .returned (.tuple #[zeroP, .bool false]) ∧ Below w.heap.size w w' := by
  rcases h with h | ⟨e1, h⟩ | ⟨e1, h2, h⟩ | ⟨e1, h2, h3, h⟩ | ⟨e1, h2, h3, h4, h⟩
  · have q1 := ne_list h
    have q2 := ne_lit (l := [44, 32]) h
    clear h
    go_enter Tryz.func81, Tryz.ntmps81
    go_wp2_with fail
    exact bodyPost_ret (v := .tuple #[zeroP, .bool false]) (by simp [results, Tryz.results81, go_sem, partsV, zeroP]) rfl ⟨rfl, (Below.refl _ _).alloc (Nat.le_refl _) _⟩
  · have k2 : ((s[7].toNat : Int) != 32) = true := by simpa using h
    clear h
    go_enter Tryz.func81, Tryz.ntmps81
    go_wp2_with fail
    exact bodyPost_ret (v := .tuple #[zeroP, .bool false]) (by simp [results, Tryz.results81, go_sem, partsV, zeroP]) rfl ⟨rfl, (Below.refl _ _).alloc (Nat.le_refl _) _⟩
  · have k2 : ((s[7].toNat : Int) != 32) = false := by simpa using h2
    have k3 : ((s[11].toNat : Int) != 32) = true := by simpa using h
    clear h h2
    go_enter Tryz.func81, Tryz.ntmps81
    go_wp2_with fail
    exact bodyPost_ret (v := .tuple #[zeroP, .bool false]) (by simp [results, Tryz.results81, go_sem, partsV, zeroP]) rfl ⟨rfl, (Below.refl _ _).alloc (Nat.le_refl _) _⟩
  · have k2 : ((s[7].toNat : Int) != 32) = false := by simpa using h2
    have k3 : ((s[11].toNat : Int) != 32) = false := by simpa using h3
    have k4 : ((s[16].toNat : Int) != 32) = true := by simpa using h
    clear h h2 h3
    go_enter Tryz.func81, Tryz.ntmps81
    go_wp2_with fail
    exact bodyPost_ret (v := .tuple #[zeroP, .bool false]) (by simp [results, Tryz.results81, go_sem, partsV, zeroP]) rfl ⟨rfl, (Below.refl _ _).alloc (Nat.le_refl _) _⟩
  · have k2 : ((s[7].toNat : Int) != 32) = false := by simpa using h2
    have k3 : ((s[11].toNat : Int) != 32) = false := by simpa using h3
    have k4 : ((s[16].toNat : Int) != 32) = false := by simpa using h4
    have q1 := ne_list h
    have q2 := ne_lit (l := [32, 71, 77, 84]) h
    clear h h2 h3 h4
    go_enter Tryz.func81, Tryz.ntmps81
    go_wp2_with fail
    exact bodyPost_ret (v := .tuple #[zeroP, .bool false]) (by simp [results, Tryz.results81, go_sem, partsV, zeroP]) rfl ⟨rfl, (Below.refl _ _).alloc (Nat.le_refl _) _⟩
/-- a block of six cells that may be written -/
def Six (b : Nat) (W : World) : Prop := (∃ x, W.cell? ⟨b, 0, none⟩ = some (.string x)) ∧ (∃ x, W.cell? ⟨b, 1, none⟩ = some (.string x)) ∧ (∃ x, W.cell? ⟨b, 2, none⟩ = some (.string x)) ∧ (∃ x, W.cell? ⟨b, 3, none⟩ = some (.string x)) ∧ (∃ x, W.cell? ⟨b, 4, none⟩ = some (.string x)) ∧ (∃ x, W.cell? ⟨b, 5, none⟩ = some (.bool x)) ∧
  W.frozen? ⟨b, 0, none⟩ = false ∧ W.frozen? ⟨b, 1, none⟩ = false ∧ W.frozen? ⟨b, 2, none⟩ = false ∧ W.frozen? ⟨b, 3, none⟩ = false ∧ W.frozen? ⟨b, 4, none⟩ = false ∧ W.frozen? ⟨b, 5, none⟩ = false ∧ b < W.heap.size
theorem six_below {b : Nat} {W W' : World} (h : Six b W) (hb : Below W.heap.size W W') : Six b W' := by
  obtain ⟨⟨x0, h0⟩, ⟨x1, h1⟩, ⟨x2, h2⟩, ⟨x3, h3⟩, ⟨x4, h4⟩, ⟨x5, h5⟩, f0, f1, f2, f3, f4, f5, hz⟩ := h
  have c : ∀ o, W'.cell? ⟨b, o, none⟩ = W.cell? ⟨b, o, none⟩ := fun o => hb.cell (p := ⟨b, o, none⟩) hz
  have f : ∀ o, W'.frozen? ⟨b, o, none⟩ = W.frozen? ⟨b, o, none⟩ := fun o => hb.frozen (p := ⟨b, o, none⟩) hz
  exact ⟨⟨x0, by rw [c]; exact h0⟩, ⟨x1, by rw [c]; exact h1⟩, ⟨x2, by rw [c]; exact h2⟩, ⟨x3, by rw [c]; exact h3⟩, ⟨x4, by rw [c]; exact h4⟩, ⟨x5, by rw [c]; exact h5⟩, by rw [f]; exact f0, by rw [f]; exact f1, by rw [f]; exact f2, by rw [f]; exact f3, by rw [f]; exact f4, by rw [f]; exact f5, Nat.lt_of_lt_of_le hz hb.size⟩
theorem oth {b i j : Nat} {W : World} {v : Value} (h : j ≠ i) : (W.setCell ⟨b, j, none⟩ v).cell? ⟨b, i, none⟩ = W.cell? ⟨b, i, none⟩ := World.cell?_setCell_other _ _ _ _ (by first | (simp; done) | omega)
def put6 (b : Nat) (W : World) (v0 v1 v2 v3 v4 v5 : Value) : World := (((((W.setCell ⟨b, 0, none⟩ v0).setCell ⟨b, 1, none⟩ v1).setCell ⟨b, 2, none⟩ v2).setCell ⟨b, 3, none⟩ v3).setCell ⟨b, 4, none⟩ v4).setCell ⟨b, 5, none⟩ v5
theorem six_store {b : Nat} {W : World} (h : Six b W) (v0 v1 v2 v3 v4 v5 : Value) :
    (put6 b W v0 v1 v2 v3 v4 v5).cell? ⟨b, 0, none⟩ = some v0 ∧ (put6 b W v0 v1 v2 v3 v4 v5).cell? ⟨b, 1, none⟩ = some v1 ∧ (put6 b W v0 v1 v2 v3 v4 v5).cell? ⟨b, 2, none⟩ = some v2 ∧ (put6 b W v0 v1 v2 v3 v4 v5).cell? ⟨b, 3, none⟩ = some v3 ∧ (put6 b W v0 v1 v2 v3 v4 v5).cell? ⟨b, 4, none⟩ = some v4 ∧ (put6 b W v0 v1 v2 v3 v4 v5).cell? ⟨b, 5, none⟩ = some v5 := by
  obtain ⟨⟨x0, h0⟩, ⟨x1, h1⟩, ⟨x2, h2⟩, ⟨x3, h3⟩, ⟨x4, h4⟩, ⟨x5, h5⟩, _⟩ := h
  unfold put6
  refine ⟨?_, ?_, ?_, ?_, ?_, ?_⟩
  · rw [oth (by decide), oth (by decide), oth (by decide), oth (by decide), oth (by decide)]
    exact World.cell?_setCell_same _ _ _ h0
  · rw [oth (by decide), oth (by decide), oth (by decide), oth (by decide)]
    exact World.cell?_setCell_same (u := .string x1) _ _ _ (by rw [oth (by decide)]; exact h1)
  · rw [oth (by decide), oth (by decide), oth (by decide)]
    exact World.cell?_setCell_same (u := .string x2) _ _ _ (by rw [oth (by decide), oth (by decide)]; exact h2)
  · rw [oth (by decide), oth (by decide)]
    exact World.cell?_setCell_same (u := .string x3) _ _ _ (by rw [oth (by decide), oth (by decide), oth (by decide)]; exact h3)
  · rw [oth (by decide)]
    exact World.cell?_setCell_same (u := .string x4) _ _ _ (by rw [oth (by decide), oth (by decide), oth (by decide), oth (by decide)]; exact h4)
  · exact World.cell?_setCell_same (u := .bool x5) _ _ _ (by rw [oth (by decide), oth (by decide), oth (by decide), oth (by decide), oth (by decide)]; exact h5)
theorem put6_below {w W : World} {b : Nat} (h : Below w.heap.size w W) (hb : w.heap.size ≤ b) (v0 v1 v2 v3 v4 v5 : Value) : Below w.heap.size w (put6 b W v0 v1 v2 v3 v4 v5) :=
  (((((h.setCell hb _).setCell hb _).setCell hb _).setCell hb _).setCell hb _).setCell hb _
theorem six_new (w : World) : Six w.heap.size (w.alloc (.cells #[.string ⟨#[]⟩, .string ⟨#[]⟩, .string ⟨#[]⟩, .string ⟨#[]⟩, .string ⟨#[]⟩, .bool false] 91)) :=
  ⟨⟨⟨#[]⟩, by simp⟩, ⟨⟨#[]⟩, by simp⟩, ⟨⟨#[]⟩, by simp⟩, ⟨⟨#[]⟩, by simp⟩, ⟨⟨#[]⟩, by simp⟩, ⟨false, by simp⟩, by simp, by simp, by simp, by simp, by simp, by simp, by simp⟩
set_option maxHeartbeats 1000000 in
theorem split29 (s : ByteArray) (hs : s.size = 29) (p1 p2 p3 p4 p5 : ByteArray) (p6 b : Bool) (w : World) (c : ∀ W, Below w.heap.size w W → Calls Tryz.prog 81 #[.string s] W fun e w' => e = .returned (.tuple #[partsV p1 p2 p3 p4 p5 p6, .bool b]) ∧ Below W.heap.size W w') :
    Calls Tryz.prog 60 #[.string s] w fun e w' => e = .returned (.tuple #[partsV p1 p2 p3 p4 p5 p6, .bool b]) ∧ Below w.heap.size w w' := by
  unfold partsV at *
  replace c := hide c
  go_enter Tryz.func60, Tryz.ntmps60
  go_wp2_with fail
  refine (c.out _ ((Below.refl _ _).alloc (Nat.le_refl _) _)).mono ?_
  rintro e w1 ⟨rfl, b1⟩
  have B1 : Hid (Below w.heap.size w w1) := ((Below.refl _ _).alloc (Nat.le_refl _) _).trans (b1.mono (by simp))
  have S1 := hide (six_below (six_new w) b1)
  clear b1
  obtain ⟨⟨x0, h0⟩, ⟨x1, h1⟩, ⟨x2, h2⟩, ⟨x3, h3⟩, ⟨x4, h4⟩, ⟨x5, h5⟩, f0, f1, f2, f3, f4, f5, hz⟩ := S1.out
  go_wp2_with fail
  obtain ⟨q0, q1, q2, q3, q4, q5⟩ := six_store S1.out (.string p1) (.string p2) (.string p3) (.string p4) (.string p5) (.bool p6)
  have qb := put6_below B1.out (Nat.le_refl _) (.string p1) (.string p2) (.string p3) (.string p4) (.string p5) (.bool p6)
  unfold put6 at q0 q1 q2 q3 q4 q5 qb
  exact bodyPost_ret (v := .tuple #[.agg #[.string p1, .string p2, .string p3, .string p4, .string p5, .bool p6], .bool b]) (by simp [results, Tryz.results60, go_sem, q0, q1, q2, q3, q4, q5]) rfl ⟨rfl, qb⟩
set_option maxHeartbeats 1000000 in
theorem split24 (s : ByteArray) (hs : s.size = 24) (p1 p2 p3 p4 p5 : ByteArray) (p6 b : Bool) (w : World) (c : ∀ W, Below w.heap.size w W → Calls Tryz.prog 82 #[.string s] W fun e w' => e = .returned (.tuple #[partsV p1 p2 p3 p4 p5 p6, .bool b]) ∧ Below W.heap.size W w') :
    Calls Tryz.prog 60 #[.string s] w fun e w' => e = .returned (.tuple #[partsV p1 p2 p3 p4 p5 p6, .bool b]) ∧ Below w.heap.size w w' := by
  unfold partsV at *
  replace c := hide c
  go_enter Tryz.func60, Tryz.ntmps60
  go_wp2_with fail
  refine (c.out _ ((Below.refl _ _).alloc (Nat.le_refl _) _)).mono ?_
  rintro e w1 ⟨rfl, b1⟩
  have B1 : Hid (Below w.heap.size w w1) := ((Below.refl _ _).alloc (Nat.le_refl _) _).trans (b1.mono (by simp))
  have S1 := hide (six_below (six_new w) b1)
  clear b1
  obtain ⟨⟨x0, h0⟩, ⟨x1, h1⟩, ⟨x2, h2⟩, ⟨x3, h3⟩, ⟨x4, h4⟩, ⟨x5, h5⟩, f0, f1, f2, f3, f4, f5, hz⟩ := S1.out
  go_wp2_with fail
  obtain ⟨q0, q1, q2, q3, q4, q5⟩ := six_store S1.out (.string p1) (.string p2) (.string p3) (.string p4) (.string p5) (.bool p6)
  have qb := put6_below B1.out (Nat.le_refl _) (.string p1) (.string p2) (.string p3) (.string p4) (.string p5) (.bool p6)
  unfold put6 at q0 q1 q2 q3 q4 q5 qb
  exact bodyPost_ret (v := .tuple #[.agg #[.string p1, .string p2, .string p3, .string p4, .string p5, .bool p6], .bool b]) (by simp [results, Tryz.results60, go_sem, q0, q1, q2, q3, q4, q5]) rfl ⟨rfl, qb⟩
set_option maxHeartbeats 1000000 in
theorem splitOther (s : ByteArray) (hs : ¬ s.size = 29) (hs2 : ¬ s.size = 24) (p1 p2 p3 p4 p5 : ByteArray) (p6 b : Bool) (w : World) (c : ∀ W, Below w.heap.size w W → Calls Tryz.prog 83 #[.string s] W fun e w' => e = .returned (.tuple #[partsV p1 p2 p3 p4 p5 p6, .bool b]) ∧ Below W.heap.size W w') :
    Calls Tryz.prog 60 #[.string s] w fun e w' => e = .returned (.tuple #[partsV p1 p2 p3 p4 p5 p6, .bool b]) ∧ Below w.heap.size w w' := by
  unfold partsV at *
  replace c := hide c
  have k1 : ((s.size : Int) == 29) = false := by simp; omega
  have k2 : ((s.size : Int) == 24) = false := by simp; omega
  clear hs hs2
  go_enter Tryz.func60, Tryz.ntmps60
  go_wp2_with fail
  refine (c.out _ ((Below.refl _ _).alloc (Nat.le_refl _) _)).mono ?_
  rintro e w1 ⟨rfl, b1⟩
  have B1 : Hid (Below w.heap.size w w1) := ((Below.refl _ _).alloc (Nat.le_refl _) _).trans (b1.mono (by simp))
  have S1 := hide (six_below (six_new w) b1)
  clear b1
  obtain ⟨⟨x0, h0⟩, ⟨x1, h1⟩, ⟨x2, h2⟩, ⟨x3, h3⟩, ⟨x4, h4⟩, ⟨x5, h5⟩, f0, f1, f2, f3, f4, f5, hz⟩ := S1.out
  go_wp2_with fail
  obtain ⟨q0, q1, q2, q3, q4, q5⟩ := six_store S1.out (.string p1) (.string p2) (.string p3) (.string p4) (.string p5) (.bool p6)
  have qb := put6_below B1.out (Nat.le_refl _) (.string p1) (.string p2) (.string p3) (.string p4) (.string p5) (.bool p6)
  unfold put6 at q0 q1 q2 q3 q4 q5 qb
  exact bodyPost_ret (v := .tuple #[.agg #[.string p1, .string p2, .string p3, .string p4, .string p5, .bool p6], .bool b]) (by simp [results, Tryz.results60, go_sem, q0, q1, q2, q3, q4, q5]) rfl ⟨rfl, qb⟩
end Go.Proofs.YtipcmbonhkelbabGreatDoor
namespace Go.Proofs.YtipcmbonhkelbabGreatDoor
open Go.RowKit
set_option maxHeartbeats 2000000 in
theorem splitBlank_yes (s x dd : ByteArray) (hs : s.size = 24) (e1 : (s[3].toNat : Int) = 32) (e2 : (s[7].toNat : Int) = 32) (e3 : (s[10].toNat : Int) = 32) (e4 : (s[19].toNat : Int) = 32) (hx : s.extract 8 10 = x) (zx : x.size = 2)
    (hd : ((x[0].toNat : Int) = 32 ∧ dd = x.extract 1 2) ∨ (¬ (x[0].toNat : Int) = 32 ∧ ¬ (x[0].toNat : Int) = 48 ∧ dd = x)) (w : World) :
    Calls Tryz.prog 82 #[.string s] w fun e w' => e = .returned (.tuple #[partsV (s.extract 0 3) dd (s.extract 4 7) (s.extract 20 24) (s.extract 11 19) false, .bool true]) ∧ Below w.heap.size w w' := by
  have k1 : ((s[3].toNat : Int) != 32) = false := by simpa using e1
  have k2 : ((s[7].toNat : Int) != 32) = false := by simpa using e2
  have k3 : ((s[10].toNat : Int) != 32) = false := by simpa using e3
  have k4 : ((s[19].toNat : Int) != 32) = false := by simpa using e4
  clear e1 e2 e3 e4
  rcases hd with ⟨h, rfl⟩ | ⟨h, h', rfl⟩
  · have q1 : ((x[0].toNat : Int) == 48) = false := by simp; omega
    have q2 : ((x[0].toNat : Int) == 32) = true := by simpa using h
    clear h
    go_enter Tryz.func82, Tryz.ntmps82
    go_wp2_with fail
    go_region_held3 (fun _ => True) (trivial) (fail)
    go_wp2_with fail
    exact bodyPost_ret (v := .tuple #[partsV (s.extract 0 3) (x.extract 1 2) (s.extract 4 7) (s.extract 20 24) (s.extract 11 19) false, .bool true]) (by simp [results, Tryz.results82, go_sem, partsV]) rfl ⟨rfl, ((Below.refl _ _).alloc (Nat.le_refl _) _).drew⟩
  · have q1 : ((dd[0].toNat : Int) == 48) = false := by simpa using h'
    have q2 : ((dd[0].toNat : Int) == 32) = false := by simpa using h
    clear h h'
    go_enter Tryz.func82, Tryz.ntmps82
    go_wp2_with fail
    go_region_held3 (fun _ => True) (trivial) (fail)
    go_wp2_with fail
    exact bodyPost_ret (v := .tuple #[partsV (s.extract 0 3) dd (s.extract 4 7) (s.extract 20 24) (s.extract 11 19) false, .bool true]) (by simp [results, Tryz.results82, go_sem, partsV]) rfl ⟨rfl, ((Below.refl _ _).alloc (Nat.le_refl _) _).drew⟩
set_option maxHeartbeats 2000000 in
theorem splitBlank_no (s x : ByteArray) (hs : s.size = 24) (hx : s.extract 8 10 = x) (zx : x.size = 2)
    (h : (¬ (s[3].toNat : Int) = 32) ∨ ((s[3].toNat : Int) = 32 ∧ ¬ (s[7].toNat : Int) = 32) ∨ ((s[3].toNat : Int) = 32 ∧ (s[7].toNat : Int) = 32 ∧ ¬ (s[10].toNat : Int) = 32) ∨ ((s[3].toNat : Int) = 32 ∧ (s[7].toNat : Int) = 32 ∧ (s[10].toNat : Int) = 32 ∧ ¬ (s[19].toNat : Int) = 32) ∨ ((s[3].toNat : Int) = 32 ∧ (s[7].toNat : Int) = 32 ∧ (s[10].toNat : Int) = 32 ∧ (s[19].toNat : Int) = 32 ∧ (x[0].toNat : Int) = 48)) (w : World) :
    Calls Tryz.prog 82 #[.string s] w fun e w' => e = .returned (.tuple #[zeroP, .bool false]) ∧ Below w.heap.size w w' := by
  rcases h with h | ⟨h0, h⟩ | ⟨h0, h1, h⟩ | ⟨h0, h1, h2, h⟩ | ⟨h0, h1, h2, h3, h⟩
  · have k0 : ((s[3].toNat : Int) != 32) = true := by simpa using h
    clear h
    go_enter Tryz.func82, Tryz.ntmps82
    go_wp2_with fail
    exact bodyPost_ret (v := .tuple #[zeroP, .bool false]) (by simp [results, Tryz.results82, go_sem, partsV, zeroP]) rfl ⟨rfl, (Below.refl _ _).alloc (Nat.le_refl _) _⟩
  · have k0 : ((s[3].toNat : Int) != 32) = false := by simpa using h0
    have k1 : ((s[7].toNat : Int) != 32) = true := by simpa using h
    clear h h0
    go_enter Tryz.func82, Tryz.ntmps82
    go_wp2_with fail
    exact bodyPost_ret (v := .tuple #[zeroP, .bool false]) (by simp [results, Tryz.results82, go_sem, partsV, zeroP]) rfl ⟨rfl, (Below.refl _ _).alloc (Nat.le_refl _) _⟩
  · have k0 : ((s[3].toNat : Int) != 32) = false := by simpa using h0
    have k1 : ((s[7].toNat : Int) != 32) = false := by simpa using h1
    have k2 : ((s[10].toNat : Int) != 32) = true := by simpa using h
    clear h h0 h1
    go_enter Tryz.func82, Tryz.ntmps82
    go_wp2_with fail
    exact bodyPost_ret (v := .tuple #[zeroP, .bool false]) (by simp [results, Tryz.results82, go_sem, partsV, zeroP]) rfl ⟨rfl, (Below.refl _ _).alloc (Nat.le_refl _) _⟩
  · have k0 : ((s[3].toNat : Int) != 32) = false := by simpa using h0
    have k1 : ((s[7].toNat : Int) != 32) = false := by simpa using h1
    have k2 : ((s[10].toNat : Int) != 32) = false := by simpa using h2
    have k3 : ((s[19].toNat : Int) != 32) = true := by simpa using h
    clear h h0 h1 h2
    go_enter Tryz.func82, Tryz.ntmps82
    go_wp2_with fail
    exact bodyPost_ret (v := .tuple #[zeroP, .bool false]) (by simp [results, Tryz.results82, go_sem, partsV, zeroP]) rfl ⟨rfl, (Below.refl _ _).alloc (Nat.le_refl _) _⟩
  · have k0 : ((s[3].toNat : Int) != 32) = false := by simpa using h0
    have k1 : ((s[7].toNat : Int) != 32) = false := by simpa using h1
    have k2 : ((s[10].toNat : Int) != 32) = false := by simpa using h2
    have k3 : ((s[19].toNat : Int) != 32) = false := by simpa using h3
    have k4 : ((x[0].toNat : Int) == 48) = true := by simpa using h
    clear h h0 h1 h2 h3
    go_enter Tryz.func82, Tryz.ntmps82
    go_wp2_with fail
    exact bodyPost_ret (v := .tuple #[zeroP, .bool false]) (by simp [results, Tryz.results82, go_sem, partsV, zeroP]) rfl ⟨rfl, (Below.refl _ _).alloc (Nat.le_refl _) _⟩
theorem below_drawn2 {B : Nat} {a w : World} (h : Below B a w) (n : Nat) : Below B a (w.drewN n) := by
  induction n with
  | zero => exact h
  | succ n ih => exact ih.drew
set_option maxHeartbeats 4000000 in
theorem splitDashed_yes (s a b ce : ByteArray) (hb : b.size = 22) (e1 : (b[2].toNat : Int) = 45) (e2 : (b[6].toNat : Int) = 45) (e3 : (b[9].toNat : Int) = 32) (e4 : b.extract 18 22 = ⟨#[32, 71, 77, 84]⟩)
    (hc : (55 ≤ (b[7].toNat : Int) ∧ ce = ⟨#[49, 57]⟩) ∨ ((b[7].toNat : Int) < 55 ∧ ce = ⟨#[50, 48]⟩)) (w : World) (cC : ∀ W, Below w.heap.size w W → Calls Tryz.prog 53 #[.string s, .string ⟨#[44, 32]⟩] W fun e w' => e = .returned (.tuple #[.string a, .string b, .bool true]) ∧ ∃ n, w' = W.drewN n) :
    Calls Tryz.prog 83 #[.string s] w fun e w' => e = .returned (.tuple #[partsV a (b.extract 0 2) (b.extract 3 6) (ce ++ b.extract 7 9) (b.extract 10 18) true, .bool true]) ∧ Below w.heap.size w w' := by
  have k1 : ((b[2].toNat : Int) != 45) = false := by simpa using e1
  have k2 : ((b[6].toNat : Int) != 45) = false := by simpa using e2
  have k3 : ((b[9].toNat : Int) != 32) = false := by simpa using e3
  have z79 : (b.extract 7 9).size = 2 := by rw [ByteArray.size_extract]; omega
  have b7 := byte_lt b[7]
  replace cC := hide cC
  clear e1 e2 e3
  rcases hc with ⟨h, rfl⟩ | ⟨h, rfl⟩
  · go_enter Tryz.func83, Tryz.ntmps83
    go_wp2_with fail
    refine (cC.out _ ((Below.refl _ _).alloc (Nat.le_refl _) _)).mono ?_
    rintro e w1 ⟨rfl, n, rfl⟩
    go_wp2_with fail
    clear e4 k1 k2 k3
    go_region_held3 (fun _ => True) (trivial) (fail)
    go_wp2_with fail
    refine bodyPost_ret (v := .tuple #[partsV a (b.extract 0 2) (b.extract 3 6) (⟨#[49, 57]⟩ ++ b.extract 7 9) (b.extract 10 18) true, .bool true]) (by simp [results, Tryz.results83, go_sem, partsV]) rfl ⟨rfl, ?_⟩
    exact put6_below (below_drawn2 ((Below.refl _ _).alloc (Nat.le_refl _) _) _) (Nat.le_refl _) _ _ _ _ _ _
  · go_enter Tryz.func83, Tryz.ntmps83
    go_wp2_with fail
    refine (cC.out _ ((Below.refl _ _).alloc (Nat.le_refl _) _)).mono ?_
    rintro e w1 ⟨rfl, n, rfl⟩
    go_wp2_with fail
    clear e4 k1 k2 k3
    go_region_held3 (fun _ => True) (trivial) (fail)
    go_wp2_with fail
    refine bodyPost_ret (v := .tuple #[partsV a (b.extract 0 2) (b.extract 3 6) (⟨#[50, 48]⟩ ++ b.extract 7 9) (b.extract 10 18) true, .bool true]) (by simp [results, Tryz.results83, go_sem, partsV]) rfl ⟨rfl, ?_⟩
    exact put6_below (below_drawn2 ((Below.refl _ _).alloc (Nat.le_refl _) _) _) (Nat.le_refl _) _ _ _ _ _ _
set_option maxHeartbeats 600000 in
theorem splitDashed_no0 (s a b : ByteArray) (f : Bool) (h : f = false ∨ (f = true ∧ ¬ b.size = 22)) (w : World) (cC : ∀ W, Below w.heap.size w W → Calls Tryz.prog 53 #[.string s, .string ⟨#[44, 32]⟩] W fun e w' => e = .returned (.tuple #[.string a, .string b, .bool f]) ∧ ∃ n, w' = W.drewN n) :
    Calls Tryz.prog 83 #[.string s] w fun e w' => e = .returned (.tuple #[zeroP, .bool false]) ∧ Below w.heap.size w w' := by
  replace cC := hide cC
  rcases h with rfl | ⟨rfl, h⟩
  · go_enter Tryz.func83, Tryz.ntmps83
    go_wp2_with fail
    refine (cC.out _ ((Below.refl _ _).alloc (Nat.le_refl _) _)).mono ?_
    rintro e w1 ⟨rfl, n, rfl⟩
    go_wp2_with fail
    exact bodyPost_ret (v := .tuple #[zeroP, .bool false]) (by simp [results, Tryz.results83, go_sem, partsV, zeroP]) rfl ⟨rfl, put6_below (below_drawn2 ((Below.refl _ _).alloc (Nat.le_refl _) _) _) (Nat.le_refl _) _ _ _ _ _ _⟩
  · have q : ((b.size : Int) != 22) = true := by simp; omega
    clear h
    go_enter Tryz.func83, Tryz.ntmps83
    go_wp2_with fail
    refine (cC.out _ ((Below.refl _ _).alloc (Nat.le_refl _) _)).mono ?_
    rintro e w1 ⟨rfl, n, rfl⟩
    go_wp2_with fail
    exact bodyPost_ret (v := .tuple #[zeroP, .bool false]) (by simp [results, Tryz.results83, go_sem, partsV, zeroP]) rfl ⟨rfl, put6_below (below_drawn2 ((Below.refl _ _).alloc (Nat.le_refl _) _) _) (Nat.le_refl _) _ _ _ _ _ _⟩
set_option maxHeartbeats 600000 in
theorem splitDashed_no1 (s a b : ByteArray) (hb : b.size = 22) (h : (¬ (b[2].toNat : Int) = 45) ∨ ((b[2].toNat : Int) = 45 ∧ ¬ (b[6].toNat : Int) = 45) ∨ ((b[2].toNat : Int) = 45 ∧ (b[6].toNat : Int) = 45 ∧ ¬ (b[9].toNat : Int) = 32) ∨ ((b[2].toNat : Int) = 45 ∧ (b[6].toNat : Int) = 45 ∧ (b[9].toNat : Int) = 32 ∧ ¬ b.extract 18 22 = ⟨#[32, 71, 77, 84]⟩)) (w : World) (cC : ∀ W, Below w.heap.size w W → Calls Tryz.prog 53 #[.string s, .string ⟨#[44, 32]⟩] W fun e w' => e = .returned (.tuple #[.string a, .string b, .bool true]) ∧ ∃ n, w' = W.drewN n) :
    Calls Tryz.prog 83 #[.string s] w fun e w' => e = .returned (.tuple #[zeroP, .bool false]) ∧ Below w.heap.size w w' := by
  replace cC := hide cC
  rcases h with h | ⟨h1, h⟩ | ⟨h1, h2, h⟩ | ⟨h1, h2, h3, h⟩
  · have k0 : ((b[2].toNat : Int) != 45) = true := by simpa using h
    clear h
    go_enter Tryz.func83, Tryz.ntmps83
    go_wp2_with fail
    refine (cC.out _ ((Below.refl _ _).alloc (Nat.le_refl _) _)).mono ?_
    rintro e w1 ⟨rfl, n, rfl⟩
    go_wp2_with fail
    exact bodyPost_ret (v := .tuple #[zeroP, .bool false]) (by simp [results, Tryz.results83, go_sem, partsV, zeroP]) rfl ⟨rfl, put6_below (below_drawn2 ((Below.refl _ _).alloc (Nat.le_refl _) _) _) (Nat.le_refl _) _ _ _ _ _ _⟩
  · have k0 : ((b[2].toNat : Int) != 45) = false := by simpa using h1
    have k1 : ((b[6].toNat : Int) != 45) = true := by simpa using h
    clear h h1
    go_enter Tryz.func83, Tryz.ntmps83
    go_wp2_with fail
    refine (cC.out _ ((Below.refl _ _).alloc (Nat.le_refl _) _)).mono ?_
    rintro e w1 ⟨rfl, n, rfl⟩
    go_wp2_with fail
    exact bodyPost_ret (v := .tuple #[zeroP, .bool false]) (by simp [results, Tryz.results83, go_sem, partsV, zeroP]) rfl ⟨rfl, put6_below (below_drawn2 ((Below.refl _ _).alloc (Nat.le_refl _) _) _) (Nat.le_refl _) _ _ _ _ _ _⟩
  · have k0 : ((b[2].toNat : Int) != 45) = false := by simpa using h1
    have k1 : ((b[6].toNat : Int) != 45) = false := by simpa using h2
    have k2 : ((b[9].toNat : Int) != 32) = true := by simpa using h
    clear h h1 h2
    go_enter Tryz.func83, Tryz.ntmps83
    go_wp2_with fail
    refine (cC.out _ ((Below.refl _ _).alloc (Nat.le_refl _) _)).mono ?_
    rintro e w1 ⟨rfl, n, rfl⟩
    go_wp2_with fail
    exact bodyPost_ret (v := .tuple #[zeroP, .bool false]) (by simp [results, Tryz.results83, go_sem, partsV, zeroP]) rfl ⟨rfl, put6_below (below_drawn2 ((Below.refl _ _).alloc (Nat.le_refl _) _) _) (Nat.le_refl _) _ _ _ _ _ _⟩
  · have k0 : ((b[2].toNat : Int) != 45) = false := by simpa using h1
    have k1 : ((b[6].toNat : Int) != 45) = false := by simpa using h2
    have k2 : ((b[9].toNat : Int) != 32) = false := by simpa using h3
    have q1 := ne_list h
    have q2 := ne_lit (l := [32, 71, 77, 84]) h
    clear h h1 h2 h3
    go_enter Tryz.func83, Tryz.ntmps83
    go_wp2_with fail
    refine (cC.out _ ((Below.refl _ _).alloc (Nat.le_refl _) _)).mono ?_
    rintro e w1 ⟨rfl, n, rfl⟩
    go_wp2_with fail
    exact bodyPost_ret (v := .tuple #[zeroP, .bool false]) (by simp [results, Tryz.results83, go_sem, partsV, zeroP]) rfl ⟨rfl, put6_below (below_drawn2 ((Below.refl _ _).alloc (Nat.le_refl _) _) _) (Nat.le_refl _) _ _ _ _ _ _⟩
/-- the variable of the greatest length that the library searches by brute force holds some integer -/
def MaxVD (w : World) : Prop := ∃ m, w.cell? ⟨3, 0, none⟩ = some (.int .i64 m)
theorem maxVD_of {w : World} (h : w.ShapedOpen Tryz.prog) : MaxVD w := cell_of_shapedOpen_int (g := 3) (t := 3) (zero := #[.int .i64 0]) h (of_decide_eq_true (by kernel_rfl)) (by kernel_rfl) rfl (by kernel_rfl) (by kernel_rfl) Tryz.underlying3
theorem MaxVD.below {w w' : World} (h : MaxVD w) (b : Below w.heap.size w w') : MaxVD w' := by
  obtain ⟨m, hm⟩ := h
  exact ⟨m, by rw [b.cell (p := ⟨3, 0, none⟩) (World.block_lt_of_cell? _ _ hm)]; exact hm⟩
theorem cutCode (s : ByteArray) (hs : s.size < 4294967281) (w : World) (M : MaxVD w) :
    ∀ W, Below w.heap.size w W → Calls Tryz.prog 53 #[.string s, .string ⟨#[44, 32]⟩] W fun e w' => e = .returned (.tuple #[.string ⟨(Lib.cut s.data.toList [44, 32]).1.toArray⟩, .string ⟨(Lib.cut s.data.toList [44, 32]).2.1.toArray⟩, .bool (Lib.cut s.data.toList [44, 32]).2.2]) ∧ ∃ n, w' = W.drewN n := by
  intro W hW
  obtain ⟨m, hm⟩ := M.below hW
  exact Any.strings_Cut Tryz.lays145 s ⟨#[44, 32]⟩ m W hs hm
end Go.Proofs.YtipcmbonhkelbabGreatDoor
namespace Go.Proofs.YtipcmbonhkelbabGreatDoor
open Go.RowKit
set_option maxHeartbeats 1000000 in
theorem parse_no1 (s : ByteArray) (p1 p2 p3 p4 p5 : ByteArray) (p6 : Bool) (w : World) (c : Calls Tryz.prog 60 #[.string s] w fun e w' => e = .returned (.tuple #[partsV p1 p2 p3 p4 p5 p6, .bool false]) ∧ Below w.heap.size w w') :
    Calls Tryz.prog 37 #[.string s] w fun e w' => e = .returned (.tuple #[.int .i64 0, .int .i64 20]) ∧ Below w.heap.size w w' := by
  unfold partsV at *
  replace c := hide c
  go_enter Tryz.func37, Tryz.ntmps37
  go_wp2_with fail
  refine c.out.mono ?_
  rintro e w1 ⟨rfl, b1⟩
  replace b1 := hide b1
  go_wp2_with fail
  go_ret2
  exact ⟨rfl, b1.out.alloc b1.out.size _⟩
theorem below_new {w w1 : World} (h : Below w.heap.size w w1) (o : Obj) : Below w.heap.size w (w1.alloc o) := h.alloc h.size _
/-- what the four readings say -/
structure Read (p2 p3 p4 p5 : ByteArray) (y m d c : Int) (yb mb db cb : Bool) : Prop where
  yy : NumIs p4 y yb
  mm : ∀ w, Vars w → Calls Tryz.prog 62 #[.string p3] w fun e w' => e = .returned (.tuple #[.int .i64 m, .bool mb]) ∧ w' = w
  dd : NumIs p2 d db
  cc : ∀ w, Calls Tryz.prog 63 #[.string p5] w fun e w' => e = .returned (.tuple #[.int .i64 c, .bool cb]) ∧ w' = w
set_option maxHeartbeats 2000000 in
theorem parse_no2 (s : ByteArray) (p1 p2 p3 p4 p5 : ByteArray) (p6 : Bool) (y m d c : Int) (yb mb db cb : Bool) (R : Read p2 p3 p4 p5 y m d c yb mb db cb) (h : yb = false ∨ (yb = true ∧ mb = false) ∨ (yb = true ∧ mb = true ∧ db = false) ∨ (yb = true ∧ mb = true ∧ db = true ∧ cb = false)) (w : World) (V : Vars w)
    (cs : Calls Tryz.prog 60 #[.string s] w fun e w' => e = .returned (.tuple #[partsV p1 p2 p3 p4 p5 p6, .bool true]) ∧ Below w.heap.size w w') :
    Calls Tryz.prog 37 #[.string s] w fun e w' => e = .returned (.tuple #[.int .i64 0, .int .i64 20]) ∧ Below w.heap.size w w' := by
  unfold partsV at *
  obtain ⟨ry, rm, rd, rc⟩ := R
  have cY := hide (numIs ry)
  have cM := hide rm
  have cD := hide (numIs rd)
  have cC := hide rc
  replace cs := hide cs
  replace V := hide V
  clear ry rm rd rc
  rcases h with rfl | ⟨rfl, rfl⟩ | ⟨rfl, rfl, rfl⟩ | ⟨rfl, rfl, rfl, rfl⟩
  all_goals
    go_enter Tryz.func37, Tryz.ntmps37
    go_wp2_with fail
    refine cs.out.mono ?_
    rintro e w1 ⟨rfl, b1⟩
    replace b1 := hide b1
    go_wp2_with fail
    refine (cY.out _).mono ?_
    rintro e w2 ⟨rfl, rfl⟩
    go_wp2_with fail
    refine (cM.out _ (V.out.below (below_new b1.out _))).mono ?_
    rintro e w2 ⟨rfl, rfl⟩
    go_wp2_with fail
    refine (cD.out _).mono ?_
    rintro e w2 ⟨rfl, rfl⟩
    go_wp2_with fail
    refine (cC.out _).mono ?_
    rintro e w2 ⟨rfl, rfl⟩
    go_wp2_with fail
    go_ret2
    exact ⟨rfl, below_new b1.out _⟩
set_option maxHeartbeats 2000000 in
theorem parse_no3 (s : ByteArray) (p1 p2 p3 p4 p5 : ByteArray) (p6 : Bool) (y m d c : Int) (R : Read p2 p3 p4 p5 y m d c true true true true) (h : ¬ Valid y m d) (w : World) (V : Vars w)
    (cs : Calls Tryz.prog 60 #[.string s] w fun e w' => e = .returned (.tuple #[partsV p1 p2 p3 p4 p5 p6, .bool true]) ∧ Below w.heap.size w w') :
    Calls Tryz.prog 37 #[.string s] w fun e w' => e = .returned (.tuple #[.int .i64 0, .int .i64 20]) ∧ Below w.heap.size w w' := by
  unfold partsV at *
  obtain ⟨ry, rm, rd, rc⟩ := R
  have cY := hide (numIs ry)
  have cM := hide rm
  have cD := hide (numIs rd)
  have cC := hide rc
  have cN := hide (fun w V => dayCode_no y m d h w V)
  replace cs := hide cs
  replace V := hide V
  clear ry rm rd rc h
  go_enter Tryz.func37, Tryz.ntmps37
  go_wp2_with fail
  refine cs.out.mono ?_
  rintro e w1 ⟨rfl, b1⟩
  replace b1 := hide b1
  go_wp2_with fail
  refine (cY.out _).mono ?_
  rintro e w2 ⟨rfl, rfl⟩
  go_wp2_with fail
  refine (cM.out _ (V.out.below (below_new b1.out _))).mono ?_
  rintro e w2 ⟨rfl, rfl⟩
  go_wp2_with fail
  refine (cD.out _).mono ?_
  rintro e w2 ⟨rfl, rfl⟩
  go_wp2_with fail
  refine (cC.out _).mono ?_
  rintro e w2 ⟨rfl, rfl⟩
  go_wp2_with fail
  refine (cN.out _ (V.out.below (below_new b1.out _)).len).mono ?_
  rintro e w2 ⟨rfl, rfl⟩
  go_wp2_with fail
  go_ret2
  exact ⟨rfl, below_new b1.out _⟩
/-- the name that must be there -/
def nameB (n : Int) (wh : Bool) : ByteArray := if wh then ⟨(wkL n).toArray⟩ else (⟨(wkL n).toArray⟩ : ByteArray).extract 0 3
set_option maxHeartbeats 4000000 in
theorem parse_end (s : ByteArray) (p1 p2 p3 p4 p5 : ByteArray) (p6 : Bool) (y m d c : Int) (R : Read p2 p3 p4 p5 y m d c true true true true) (h : Valid y m d) (c0 : 0 ≤ c) (c1 : c < 86400) (v e : Int) (hq : (p1 = nameB (dayOf y m d) p6 ∧ v = dayOf y m d * 86400 + c ∧ e = 0) ∨ (¬ p1 = nameB (dayOf y m d) p6 ∧ v = 0 ∧ e = 20)) (w : World) (V : Vars w)
    (cs : Calls Tryz.prog 60 #[.string s] w fun e w' => e = .returned (.tuple #[partsV p1 p2 p3 p4 p5 p6, .bool true]) ∧ Below w.heap.size w w') :
    Calls Tryz.prog 37 #[.string s] w fun x w' => x = .returned (.tuple #[.int .i64 v, .int .i64 e]) ∧ Below w.heap.size w w' := by
  unfold partsV at *
  obtain ⟨ry, rm, rd, rc⟩ := R
  have cY := hide (numIs ry)
  have cM := hide rm
  have cD := hide (numIs rd)
  have cC := hide rc
  have cN := hide (fun w V => dayCode y m d h w V)
  have bn := dayOf_range h
  have lw := wkL_len (dayOf y m d)
  replace cs := hide cs
  replace V := hide V
  clear ry rm rd rc h
  generalize dayOf y m d = n at cN bn lw hq
  have vw := hide (fun W (V : Vars W) => V.week (n % 7).toNat (by omega))
  have ew : wkL n = wtab.getD (n % 7).toNat [] := rfl
  rw [← ew] at vw
  obtain ⟨wk, hwk⟩ : ∃ x : ByteArray, x = ⟨(wkL n).toArray⟩ := ⟨_, rfl⟩
  have zw : 3 ≤ wk.size := by rw [hwk]; show 3 ≤ (wkL n).length; omega
  have zw9 : wk.size ≤ 9 := by rw [hwk]; exact lw.2
  have en : nameB n p6 = if p6 then wk else wk.extract 0 3 := by unfold nameB; rw [hwk]
  rw [en] at hq
  rw [← hwk] at vw
  replace hq := hide hq
  clear hwk ew lw en
  go_enter Tryz.func37, Tryz.ntmps37
  go_wp2_with fail
  refine cs.out.mono ?_
  rintro e w1 ⟨rfl, b1⟩
  replace b1 := hide b1
  go_wp2_with fail
  refine (cY.out _).mono ?_
  rintro e w2 ⟨rfl, rfl⟩
  go_wp2_with fail
  refine (cM.out _ (V.out.below (below_new b1.out _))).mono ?_
  rintro e w2 ⟨rfl, rfl⟩
  go_wp2_with fail
  refine (cD.out _).mono ?_
  rintro e w2 ⟨rfl, rfl⟩
  go_wp2_with fail
  refine (cC.out _).mono ?_
  rintro e w2 ⟨rfl, rfl⟩
  go_wp2_with fail
  refine (cN.out _ (V.out.below (below_new b1.out _)).len).mono ?_
  rintro e w2 ⟨rfl, rfl⟩
  have kw := vw.out _ (V.out.below (below_new b1.out (.cells #[.string p1, .string p2, .string p3, .string p4, .string p5, .bool p6] 91)))
  have BN := hide (below_new b1.out (.cells #[.string p1, .string p2, .string p3, .string p4, .string p5, .bool p6] 91))
  have g1 : (0 : Int) ≤ n % 7 := by omega
  have g2 : n % 7 < (7 : Int) := by omega
  cases p6 with
  | true =>
    rcases hq.out with ⟨e1, e2, e3⟩ | ⟨e1, e2, e3⟩
    · simp only [if_true] at e1
      subst e1
      replace e2 := hide e2
      replace e3 := hide e3
      go_wp2_with fail
      go_ret2
      rw [e2.out, e3.out]
      exact ⟨rfl, BN.out⟩
    · have q := ne_list e1
      simp only [if_true] at q
      replace e2 := hide e2
      replace e3 := hide e3
      clear e1
      go_wp2_with fail
      go_ret2
      rw [e2.out, e3.out]
      exact ⟨rfl, BN.out⟩
  | false =>
    rcases hq.out with ⟨e1, e2, e3⟩ | ⟨e1, e2, e3⟩
    · simp only [Bool.false_eq_true, if_false] at e1
      subst e1
      replace e2 := hide e2
      replace e3 := hide e3
      go_wp2_with fail
      go_ret2
      rw [e2.out, e3.out]
      exact ⟨rfl, BN.out⟩
    · have q := ne_list e1
      simp only [Bool.false_eq_true, if_false] at q
      replace e2 := hide e2
      replace e3 := hide e3
      clear e1
      go_wp2_with fail
      go_ret2
      rw [e2.out, e3.out]
      exact ⟨rfl, BN.out⟩
end Go.Proofs.YtipcmbonhkelbabGreatDoor
namespace Go.Proofs.YtipcmbonhkelbabGreatDoor
open Go.RowKit
theorem dg_val {a : Int} (h0 : 0 ≤ a) (h1 : a ≤ 9) : ((dg a).toNat : Int) = 48 + a := by
  unfold dg; rw [UInt8.toNat_ofNat']; omega
theorem dg_dig {a : Int} (h0 : 0 ≤ a) (h1 : a ≤ 9) : isDig (dg a) = true := by
  unfold isDig; rw [dg_val h0 h1]; simp; omega
theorem num_D2 {v : Int} (h0 : 0 ≤ v) (h1 : v < 100) : NumIs ⟨(D2 v).toArray⟩ v true := by
  have a1 := dg_dig (a := v / 10) (by omega) (by omega)
  have a2 := dg_dig (a := v % 10) (by omega) (by omega)
  have b1 := dg_val (a := v / 10) (by omega) (by omega)
  have b2 := dg_val (a := v % 10) (by omega) (by omega)
  have hd : digs (D2 v) = true := by simp [digs, D2, a1, a2]
  refine ⟨by show (D2 v).length ≤ 8; simp [D2], ?_, hd.symm⟩
  show v = numB (D2 v)
  unfold numB
  rw [hd, if_pos rfl]
  simp [numV, D2, b1, b2]
  omega
theorem num_D1 {v : Int} (h0 : 0 ≤ v) (h1 : v < 10) : NumIs ⟨[dg v].toArray⟩ v true := by
  have a1 := dg_dig (a := v) (by omega) (by omega)
  have b1 := dg_val (a := v) (by omega) (by omega)
  have hd : digs [dg v] = true := by simp [digs, a1]
  refine ⟨by show [dg v].length ≤ 8; simp, ?_, hd.symm⟩
  show v = numB [dg v]
  unfold numB
  rw [hd, if_pos rfl]
  simp [numV, b1]
  omega
theorem num_D4 {v : Int} (h0 : 0 ≤ v) (h1 : v < 10000) : NumIs ⟨(D4 v).toArray⟩ v true := by
  have a1 := dg_dig (a := v / 1000) (by omega) (by omega)
  have a2 := dg_dig (a := v / 100 % 10) (by omega) (by omega)
  have a3 := dg_dig (a := v / 10 % 10) (by omega) (by omega)
  have a4 := dg_dig (a := v % 10) (by omega) (by omega)
  have b1 := dg_val (a := v / 1000) (by omega) (by omega)
  have b2 := dg_val (a := v / 100 % 10) (by omega) (by omega)
  have b3 := dg_val (a := v / 10 % 10) (by omega) (by omega)
  have b4 := dg_val (a := v % 10) (by omega) (by omega)
  have hd : digs (D4 v) = true := by simp [digs, D4, a1, a2, a3, a4]
  refine ⟨by show (D4 v).length ≤ 8; simp [D4], ?_, hd.symm⟩
  show v = numB (D4 v)
  unfold numB
  rw [hd, if_pos rfl]
  simp [numV, D4, b1, b2, b3, b4]
  omega
theorem mo_ne : ∀ j : Fin 12, ∀ k : Fin 12, k.val < j.val → ¬ motab.getD k.val [] = motab.getD j.val [] := by decide +kernel
theorem moB_ne {j k : Nat} (hj : j < 12) (hk : k < j) : ¬ moB k = moB j := by
  intro h
  have := mo_ne ⟨j, hj⟩ ⟨k, by omega⟩ hk
  apply this
  have h2 := congrArg (fun x : ByteArray => x.data.toList) h
  simpa [moB] using h2
theorem moB_of {m : Int} (m0 : 1 ≤ m) : (⟨(moL m).toArray⟩ : ByteArray) = moB (m.toNat - 1) := by
  unfold moB moL
  rw [show (m - 1).toNat = m.toNat - 1 by omega]
theorem read_month {m : Int} (m0 : 1 ≤ m) (m1 : m ≤ 12) (w : World) (V : Vars w) :
    Calls Tryz.prog 62 #[.string ⟨(moL m).toArray⟩] w fun e w' => e = .returned (.tuple #[.int .i64 m, .bool true]) ∧ w' = w := by
  rw [moB_of m0]
  exact monthOfCode (moB (m.toNat - 1)) (m.toNat - 1) (by omega) (fun k hk => moB_ne (by omega) hk) (fun _ => rfl) m true (.inl ⟨by omega, by omega, rfl⟩) w V
theorem read_clock {r : Int} (r0 : 0 ≤ r) (r1 : r < 86400) (w : World) :
    Calls Tryz.prog 63 #[.string ⟨(hmsL r).toArray⟩] w fun e w' => e = .returned (.tuple #[.int .i64 r, .bool true]) ∧ w' = w := by
  have h := clockCode_yes ⟨(hmsL r).toArray⟩ rfl rfl rfl (r / 3600) (r / 60 % 60) (r % 60) (num_D2 (by omega) (by omega)) (num_D2 (by omega) (by omega)) (num_D2 (by omega) (by omega)) (by omega) (by omega) (by omega) (by omega) (by omega) (by omega) w
  rwa [show r / 3600 * 3600 + r / 60 % 60 * 60 + r % 60 = r by omega] at h
theorem three {l : List UInt8} (h : l.length = 3) : ∃ a b c, l = [a, b, c] := by
  match l, h with
  | [a, b, c], _ => exact ⟨a, b, c, rfl⟩
theorem take3 (n : Int) : ((wkL n).take 3).length = 3 := by have := wkL_len n; simp; omega
theorem name3 (n : Int) : nameB n false = ⟨((wkL n).take 3).toArray⟩ := by
  unfold nameB
  simp only [Bool.false_eq_true, if_false]
  apply ba_ofD
  rw [extract_list]; simp
theorem ext_lit (l : List UInt8) (i j : Nat) (r : List UInt8) (h : (l.drop i).take (j - i) = r) : (⟨l.toArray⟩ : ByteArray).extract i j = ⟨r.toArray⟩ := ba_ofD (by rw [extract_list]; exact h)
set_option maxHeartbeats 1000000 in
theorem split_show (n r y d : Int) {m : Int} (m0 : 1 ≤ m) (m1 : m ≤ 12) (w : World) :
    Calls Tryz.prog 60 #[.string ⟨(showL n r y m d).toArray⟩] w fun e w' => e = .returned (.tuple #[partsV (nameB n false) ⟨(D2 d).toArray⟩ ⟨(moL m).toArray⟩ ⟨(D4 y).toArray⟩ ⟨(hmsL r).toArray⟩ false, .bool true]) ∧ Below w.heap.size w w' := by
  obtain ⟨a, b, c, e1⟩ := three (take3 n)
  obtain ⟨e, f, g, e2⟩ := three (moL_len m0 m1)
  have hl : showL n r y m d = [a, b, c, 44, 32, dg (d / 10), dg (d % 10), 32, e, f, g, 32, dg (y / 1000), dg (y / 100 % 10), dg (y / 10 % 10), dg (y % 10), 32, dg (r / 3600 / 10), dg (r / 3600 % 10), 58, dg (r / 60 % 60 / 10), dg (r / 60 % 60 % 10), 58, dg (r % 60 / 10), dg (r % 60 % 10), 32, 71, 77, 84] := by
    unfold showL
    rw [e1, e2]
    rfl
  rw [hl, name3, e1, e2]
  clear hl e1 e2
  have ec : hmsL r = [dg (r / 3600 / 10), dg (r / 3600 % 10), 58, dg (r / 60 % 60 / 10), dg (r / 60 % 60 % 10), 58, dg (r % 60 / 10), dg (r % 60 % 10)] := rfl
  have ed : D2 d = [dg (d / 10), dg (d % 10)] := rfl
  have ey : D4 y = [dg (y / 1000), dg (y / 100 % 10), dg (y / 10 % 10), dg (y % 10)] := rfl
  rw [ec, ed, ey]
  generalize dg (r / 3600 / 10) = h1
  generalize dg (r / 3600 % 10) = h2
  generalize dg (r / 60 % 60 / 10) = i1
  generalize dg (r / 60 % 60 % 10) = i2
  generalize dg (r % 60 / 10) = s1
  generalize dg (r % 60 % 10) = s2
  generalize dg (d / 10) = d1
  generalize dg (d % 10) = d2
  generalize dg (y / 1000) = y1
  generalize dg (y / 100 % 10) = y2
  generalize dg (y / 10 % 10) = y3
  generalize dg (y % 10) = y4
  clear ec ed ey
  refine split29 _ rfl _ _ _ _ _ _ _ w (fun W _ => ?_)
  have h := splitShown_yes ⟨[a, b, c, 44, 32, d1, d2, 32, e, f, g, 32, y1, y2, y3, y4, 32, h1, h2, 58, i1, i2, 58, s1, s2, 32, 71, 77, 84].toArray⟩ rfl (ext_lit _ 3 5 [44, 32] rfl) rfl rfl rfl (ext_lit _ 25 29 [32, 71, 77, 84] rfl) W
  rw [ext_lit _ 0 3 [a, b, c] rfl, ext_lit _ 5 7 [d1, d2] rfl, ext_lit _ 8 11 [e, f, g] rfl, ext_lit _ 12 16 [y1, y2, y3, y4] rfl, ext_lit _ 17 25 [h1, h2, 58, i1, i2, 58, s1, s2] rfl] at h
  exact h
theorem parse_show (t y m d : Int) (hv : Valid y m d) (hd : dayOf y m d = t / 86400) (w : World) (V : Vars w) :
    Calls Tryz.prog 37 #[.string ⟨(showL (t / 86400) (t % 86400) y m d).toArray⟩] w fun e w' => e = .returned (.tuple #[.int .i64 t, .int .i64 0]) ∧ Below w.heap.size w w' := by
  have dL := mlen_in y hv.m0 hv.m1
  have := hv.d0; have := hv.d1; have := hv.y0; have := hv.y1
  refine parse_end _ _ _ _ _ _ false y m d (t % 86400) ⟨num_D4 (by omega) (by omega), fun w V => read_month hv.m0 hv.m1 w V, num_D2 (by omega) (by omega), fun w => read_clock (by omega) (by omega) w⟩ hv (by omega) (by omega) t 0 (.inl ⟨?_, ?_, rfl⟩) w V (split_show (t / 86400) (t % 86400) y d hv.m0 hv.m1 w)
  · rw [hd]
  · rw [hd]; omega
end Go.Proofs.YtipcmbonhkelbabGreatDoor
