/- Plain definitions of what a token's bytes are; the contracts of tokenByte and of the document's Byte. The contracts of Trim and of the document's Trim. The contract of Token. The contracts of CopyFields and SameFields. The contracts of the check sum: shifted, Sum, and the document's Sum. The contracts of clone and Without. A list of fields that is owned, as what it holds (a block of four cells: Q4). The contracts of Values and of the document's Values. A block of any number of cells, beside blocks of four. The contracts of a record's numbers: isOp, fits, opOf, number, appendNumber; the document's Value. An entry: nine values, a block of nine cells. -/
import Derived.Test.YtibjcofbhldenaaGreatDoorRows
import Derived.Handy
import Derived.Lib.Bytealg
import Derived.Laws.BitsAllLaws
import Derived.Maps.Own
import Derived.Maps.OwnSet
import Derived.Maps.OwnOps
import Derived.Test.YtibjcofbhldenaaGreatDoorZ01
namespace Go.Proofs.YtibjcofbhldenaaGreatDoor
open Go.RowKit
def marks : List Int := [33, 35, 36, 37, 38, 39, 42, 43, 45, 46, 94, 95, 96, 124, 126]
def alnum (c : Int) : Bool := decide ((48 ≤ c ∧ c ≤ 57) ∨ (65 ≤ c ∧ c ≤ 90) ∨ (97 ≤ c ∧ c ≤ 122))
def tokI (c : Int) : Bool := alnum c || marks.contains c
theorem idx_marks : ∀ n : Nat, n < 256 → decide (0 ≤ Lib.indexByte [33, 35, 36, 37, 38, 39, 42, 43, 45, 46, 94, 95, 96, 124, 126] n.toUInt8) = marks.contains (n : Int) := by decide +kernel
theorem idx_marksI (c : Int) (h0 : 0 ≤ c) (h1 : c ≤ 255) : decide (0 ≤ Lib.indexByte [33, 35, 36, 37, 38, 39, 42, 43, 45, 46, 94, 95, 96, 124, 126] c.toNat.toUInt8) = marks.contains c := by
  obtain ⟨n, rfl⟩ := Int.eq_ofNat_of_zero_le h0
  exact idx_marks n (by omega)
theorem indexByteC (s : ByteArray) (c : Int) (w : World) :
    Calls Tryz.prog 184 #[.string s, .int .u8 c] w fun e w' => e = .returned (.int .i64 (Lib.indexByte s.data.toList c.toNat.toUInt8)) ∧ w' = w :=
  Any.strings_IndexByte Tryz.lays137 s c w
set_option maxHeartbeats 400000 in
theorem tokByteTok (c : Int) (h0 : 0 ≤ c) (h1 : c ≤ 255) (w : World) :
    Calls Tryz.prog 247 #[.int .u8 c] w fun e w' => e = .returned (.bool (tokI c)) ∧ w' = w := by
  by_cases ha : (48 ≤ c ∧ c ≤ 57) ∨ (65 ≤ c ∧ c ≤ 90) ∨ (97 ≤ c ∧ c ≤ 122)
  · have H : Hid (tokI c = true) := by unfold Hid tokI alnum; simp [ha]
    rcases ha with ⟨ha, hb⟩ | ⟨ha, hb⟩ | ⟨ha, hb⟩
    all_goals
      go_enter Tryz.func247, Tryz.ntmps247
      go_wp2
      go_ret
      rw [H.out]
      exact ⟨rfl, rfl⟩
  · have H : Hid (decide (0 ≤ Lib.indexByte [33, 35, 36, 37, 38, 39, 42, 43, 45, 46, 94, 95, 96, 124, 126] c.toNat.toUInt8) = tokI c) := by
      unfold Hid tokI alnum; rw [idx_marksI c h0 h1]; simp [ha]
    have hc := indexByteC ⟨#[33, 35, 36, 37, 38, 39, 42, 43, 45, 46, 94, 95, 96, 124, 126]⟩ c w
    change Calls Tryz.prog 184 _ w (fun e w' => e = .returned (.int .i64 (Lib.indexByte [33, 35, 36, 37, 38, 39, 42, 43, 45, 46, 94, 95, 96, 124, 126] c.toNat.toUInt8)) ∧ w' = w) at hc
    generalize Lib.indexByte [33, 35, 36, 37, 38, 39, 42, 43, 45, 46, 94, 95, 96, 124, 126] c.toNat.toUInt8 = r at H hc
    have HC := hc
    clear hc
    rcases (by omega : c < 48 ∨ (57 < c ∧ c < 65) ∨ (90 < c ∧ c < 97) ∨ 122 < c) with h | h | h | h
    all_goals
      clear ha
      go_enter Tryz.func247, Tryz.ntmps247
      go_wp2_with (go_at_call 184; refine HC.mono ?_; rintro e w' ⟨rfl, rfl⟩)
      go_ret
      rw [← H.out]
      exact ⟨rfl, rfl⟩
end Go.Proofs.YtibjcofbhldenaaGreatDoor
namespace Go.Proofs.YtibjcofbhldenaaGreatDoor
open Go.RowKit
set_option maxRecDepth 20000
theorem size_trimT (s : ByteArray) : (⟨(trimT s.data.toList).toArray⟩ : ByteArray).size ≤ s.size := by
  have := trimT_len s.data.toList
  have e : s.data.toList.length = s.size := by simp
  rw [e] at this
  show (trimT s.data.toList).toArray.size ≤ s.size
  rw [List.size_toArray]
  exact this
set_option maxHeartbeats 400000 in
theorem trimTok (s : ByteArray) (w : World) (hs : s.size ≤ 140737488351232) :
    Calls Tryz.prog 249 #[.string s] w fun e w' => e = .returned (.string ⟨(trimT s.data.toList).toArray⟩) ∧ Below w.heap.size w w' := by
  have hc := trimmed s w hs
  have hz := size_trimT s
  generalize (⟨(trimT s.data.toList).toArray⟩ : ByteArray) = r at hc hz ⊢
  go_enter Tryz.func249, Tryz.ntmps249
  go_wp2_with fail
  refine hc.mono ?_
  rintro e w1 ⟨rfl, hb⟩
  go_wp2_with fail
  refine (clone r _ (by omega)).mono ?_
  rintro e w2 ⟨rfl, hb2⟩
  go_wp2_with fail
  go_ret
  have := hb.size
  exact ⟨rfl, hb.trans (hb2.mono (by omega))⟩
end Go.Proofs.YtibjcofbhldenaaGreatDoor
namespace Go.Proofs.YtibjcofbhldenaaGreatDoor
open Go.RowKit
def isTok (l : List UInt8) : Bool := !l.isEmpty && l.all (fun c => tokI (c.toNat : Int))
theorem isTok_bad (s : ByteArray) (k : Nat) (h : k < s.size) (hc : tokI (s[k].toNat : Int) = false) : isTok s.data.toList = false := by
  unfold isTok
  have : s.data.toList.all (fun c => tokI (c.toNat : Int)) = false := by
    rw [List.all_eq_false]; exact ⟨s.data.toList[k]'(by simpa using h), List.getElem_mem _, by rw [show s.data.toList[k]'(by simpa using h) = s[k] from rfl, hc]; simp⟩
  rw [this, Bool.and_false]
theorem isTok_good (s : ByteArray) (h0 : 0 < s.size) (h : ∀ j (hj : j < s.size), tokI (s[j].toNat : Int) = true) : isTok s.data.toList = true := by
  unfold isTok
  rw [Bool.and_eq_true]
  constructor
  · cases e : s.data.toList with
    | nil => have : s.data.toList.length = s.size := by simp
             rw [e] at this; simp at this; omega
    | cons c l => rfl
  · rw [List.all_eq_true]
    intro c hc
    obtain ⟨j, hj, rfl⟩ := List.getElem_of_mem hc
    exact h j (by simpa using hj)
theorem empty_of (s : ByteArray) (h : s.size = 0) : s = ⟨#[]⟩ := by
  apply ByteArray.ext
  exact Array.eq_empty_of_size_eq_zero h
theorem ne_empty (s : ByteArray) (h : 0 < s.size) : s.toList.isEmpty = false := by
  rw [Lib.toList_data]
  cases e : s.data.toList with
  | nil => have : s.data.toList.length = s.size := by simp
           rw [e] at this; simp at this; omega
  | cons _ _ => rfl
def allK (s : ByteArray) (k : Nat) : Prop := ∀ j (hj : j < s.size), j < k → tokI (s[j].toNat : Int) = true
theorem allK_succ {s : ByteArray} {k : Nat} (h : allK s k) (hk : k < s.size) (hc : tokI (s[k].toNat : Int) = true) : allK s (k + 1) := by
  intro j hj hjk
  by_cases e : j = k
  · subst e; exact hc
  · exact h j hj (by omega)
set_option maxHeartbeats 1000000 in
theorem tokenTok (s : ByteArray) (w : World) (hs : s.size ≤ 140737488351232) :
    Calls Tryz.prog 225 #[.string s] w fun e w' => e = .returned (.bool (isTok s.data.toList)) ∧ w' = w := by
  by_cases h0 : s.size = 0
  · obtain rfl := empty_of s h0
    clear h0 hs
    go_enter Tryz.func225, Tryz.ntmps225
    go_wp2
    go_rounds 1
    go_ret
    exact ⟨rfl, rfl⟩
  · have hp : 0 < s.size := by omega
    have hne := ne_empty s hp
    clear h0
    go_enter Tryz.func225, Tryz.ntmps225
    go_wp2
    go_loop [6] (fun i => ∃ k : Nat, k ≤ s.size ∧ i = .int .i64 k ∧ Hid (allK s k)) (fun i => s.size - (intOf i).toNat)
    case atStart => exact ⟨0, by omega, rfl, fun j _ hj => by omega⟩
    case round =>
      obtain ⟨k, hk, rfl, ha⟩ := hrel
      by_cases hlt : k < s.size
      · have hb := byte_lt s[k]
        cases ht : tokI (s[k].toNat : Int) with
        | true =>
          have A : Hid (allK s (k + 1)) := allK_succ ha.out hlt ht
          go_wp2_with (go_at_call 247; refine (tokByteTok _ (by omega) (by omega) _).mono ?_; rintro e w' ⟨rfl, rfl⟩)
          go_round
          case rel => exact ⟨k + 1, by omega, by go_num, A⟩
          case measure => simp [intOf]; omega
        | false =>
          have F : Hid (isTok s.data.toList = false) := isTok_bad s k hlt ht
          go_wp2_with (go_at_call 247; refine (tokByteTok _ (by omega) (by omega) _).mono ?_; rintro e w' ⟨rfl, rfl⟩)
          go_ret
          rw [F.out]
          exact ⟨rfl, rfl⟩
      · have F : Hid (isTok s.data.toList = true) := isTok_good s hp (fun j hj => ha.out j hj (by omega))
        go_wp2
        go_ret
        rw [F.out]
        exact ⟨rfl, rfl⟩
end Go.Proofs.YtibjcofbhldenaaGreatDoor
namespace Go.Proofs.YtibjcofbhldenaaGreatDoor
open Go.RowKit
set_option maxHeartbeats 400000 in
theorem copyF (v : Value) (fs : FL) (w : World) (hv : HoldsF w v fs) (hl : fs.length * 32 ≤ 140737488355328) :
    Calls Tryz.prog 103 #[v] w fun e w' => ∃ u, e = .returned u ∧ OwnF w u fs w' := by
  have hv2 := holdsF_mono hv (below_alloc' w (.cells #[] 208))
  have HV : Hid _ := hv2
  clear hv hv2
  go_enter Tryz.func103, Tryz.ntmps103
  go_wp2_with (at_builtin; refine appAllF rfl (.tmp 5) (.tmp 6) rfl w _ [] rfl (ownF_empty w) v fs rfl HV.out (by simpa using hl) ?_; intro v2 w2 hown2)
  go_ret
  exact ⟨v2, rfl, hown2⟩
set_option maxHeartbeats 1000000 in
theorem sameF (va vb : Value) (xs ys : FL) (w : World) (ha : HoldsF w va xs) (hb : HoldsF w vb ys) (la : xs.length ≤ 1000000000000000) (lb : ys.length ≤ 1000000000000000) :
    Calls Tryz.prog 118 #[va, vb] w fun e w' => e = .returned (.bool (decide (xs = ys))) ∧ ∃ n, w' = w.drewN n := by
  obtain ⟨ao, ca, rfl, _, _, hca⟩ := ha
  obtain ⟨bo, cb, rfl, _, _, hcb⟩ := hb
  by_cases hl : xs.length = ys.length
  · by_cases hz : xs.length = 0
    · have e1 : xs = [] := List.eq_nil_of_length_eq_zero hz
      have e2 : ys = [] := List.eq_nil_of_length_eq_zero (by omega)
      subst e1 e2
      clear hca hcb hl hz la lb
      go_enter Tryz.func118, Tryz.ntmps118
      go_wp2
      go_rounds 1
      go_ret
      exact ⟨rfl, 0, rfl⟩
    · obtain ⟨b1, o1, rfl, hlt1, c1⟩ := hca (fun e => hz (by rw [e]; rfl))
      obtain ⟨b2, o2, rfl, hlt2, c2⟩ := hcb (fun e => hz (by rw [hl, e]; rfl))
      have C1 : Hid _ := c1
      have C2 : Hid _ := c2
      obtain ⟨n, hn⟩ : ∃ n, n = xs.length := ⟨_, rfl⟩
      have N1 : Hid (xs.length = n) := hn.symm
      have N2 : Hid (ys.length = n) := by unfold Hid; omega
      have ln : n ≤ 1000000000000000 := by omega
      rw [N1.out, N2.out]
      clear hca hcb c1 c2 hl hz la lb hn
      go_enter Tryz.func118, Tryz.ntmps118
      go_wp2
      go_loopw [5] (fun i wr => ∃ k : Nat, k ≤ n ∧ i = .int .i64 k ∧ Hid (xs.take k = ys.take k) ∧ ∃ m, Hid (wr = w.drewN m)) (fun i _ => n - (intOf i).toNat)
      case atStart => exact ⟨0, by omega, rfl, rfl, 0, rfl⟩
      case round =>
        obtain ⟨k, hk, rfl, hE, m, hw⟩ := hrel
        have hw' := hw.out
        subst hw'
        by_cases hlt : k < n
        · have x1 := C1.out k (by rw [N1.out]; exact hlt)
          have x2 := C2.out k (by rw [N2.out]; exact hlt)
          unfold S at x1 x2
          have G1 : Hid (k < xs.length) := by unfold Hid; rw [N1.out]; exact hlt
          have G2 : Hid (k < ys.length) := by unfold Hid; rw [N2.out]; exact hlt
          by_cases he : xs[k]'G1.out = ys[k]'G2.out
          · have E : Hid (xs.take (k + 1) = ys.take (k + 1)) := by
              unfold Hid; rw [List.take_succ_eq_append_getElem G1.out, List.take_succ_eq_append_getElem G2.out, hE.out, he]
            rw [he] at x1
            generalize (ys[k]'G2.out).1.toArray = y1 at x1 x2
            generalize (ys[k]'G2.out).2.toArray = y2 at x1 x2
            clear he
            obtain ⟨x11, x12⟩ := x1
            obtain ⟨x21, x22⟩ := x2
            go_wp2
            go_quiet (fail)
            go_wp2
            go_roundw
            case rel => exact ⟨k + 1, by omega, by go_num, E, _, rfl⟩
            case measure => simp [intOf]; omega
          · have F : Hid (decide (xs = ys) = false) := by
              unfold Hid; rw [decide_eq_false_iff_not]; intro e; subst e; exact he rfl
            by_cases he1 : (xs[k]'G1.out).1 = (ys[k]'G2.out).1
            · have he2 : ¬ (xs[k]'G1.out).2 = (ys[k]'G2.out).2 := fun e2 => he (Prod.ext he1 e2)
              have hne : ((⟨(xs[k]'G1.out).2.toArray⟩ : ByteArray).toList == (⟨(ys[k]'G2.out).2.toArray⟩ : ByteArray).toList) = false := by
                rw [Lib.toList_data, Lib.toList_data]; simpa using he2
              rw [he1] at x1
              generalize (ys[k]'G2.out).1.toArray = y1 at x1 x2
              generalize (xs[k]'G1.out).2.toArray = x' at x1 hne
              generalize (ys[k]'G2.out).2.toArray = y' at x2 hne
              clear he he1 he2
              obtain ⟨x11, x12⟩ := x1
              obtain ⟨x21, x22⟩ := x2
              go_wp2
              go_quiet (fail)
              go_wp2
              go_ret
              rw [F.out]
              exact ⟨rfl, _, World.drewN_drewN _ _ _⟩
            · have hne : ((⟨(xs[k]'G1.out).1.toArray⟩ : ByteArray).toList == (⟨(ys[k]'G2.out).1.toArray⟩ : ByteArray).toList) = false := by
                rw [Lib.toList_data, Lib.toList_data]; simpa using he1
              generalize (xs[k]'G1.out).1.toArray = x at x1 hne
              generalize (ys[k]'G2.out).1.toArray = y at x2 hne
              generalize (xs[k]'G1.out).2.toArray = x' at x1
              generalize (ys[k]'G2.out).2.toArray = y' at x2
              clear he he1
              obtain ⟨x11, x12⟩ := x1
              obtain ⟨x21, x22⟩ := x2
              go_wp2
              go_quiet (fail)
              go_wp2
              go_ret
              rw [F.out]
              exact ⟨rfl, _, World.drewN_drewN _ _ _⟩
        · have F : Hid (decide (xs = ys) = true) := by
            unfold Hid; rw [decide_eq_true_iff]
            have := hE.out
            rwa [List.take_of_length_le (by rw [N1.out]; omega), List.take_of_length_le (by rw [N2.out]; omega)] at this
          go_wp2
          go_ret
          rw [F.out]
          exact ⟨rfl, m, rfl⟩
  · have F : Hid (decide (xs = ys) = false) := by
      unfold Hid; rw [decide_eq_false_iff_not]; intro e; subst e; exact hl rfl
    have hl' : ((xs.length : Int) != (ys.length : Int)) = true := by simp; omega
    clear hca hcb hl
    generalize xs.length = n1 at la hl' ⊢
    generalize ys.length = n2 at lb hl' ⊢
    go_enter Tryz.func118, Tryz.ntmps118
    go_wp2
    go_ret
    rw [F.out]
    exact ⟨rfl, 0, rfl⟩
end Go.Proofs.YtibjcofbhldenaaGreatDoor
namespace Go.Proofs.YtibjcofbhldenaaGreatDoor
open Go.RowKit
theorem crc_odd {v : Nat} (h : v < 4294967296) (ho : v % 2 = 1) : bits .xor .u32 ((v : Int) / 2) 3988292384 = (crcB v : Int) := by
  have e : ((v : Int) / 2) = ((v / 2 : Nat) : Int) := by omega
  rw [e]
  refine (u32_xor_nat (v / 2) 3988292384 (by omega) (by omega)).trans ?_
  unfold crcB
  rw [if_pos ho]
theorem crc_even {v : Nat} (ho : ¬ v % 2 = 1) : ((v : Int) / 2) = (crcB v : Int) := by
  unfold crcB
  rw [if_neg ho]
  omega
theorem and_one {v : Nat} (h : v < 4294967296) : bits .and .u32 (v : Int) 1 = ((v % 2 : Nat) : Int) := by
  refine (u32_and_nat v 1 h (by omega)).trans ?_
  rw [Nat.and_one_is_mod]
theorem xor_byte {v : Nat} (h : v < 4294967296) (c : UInt8) : bits .xor .u32 (v : Int) (c.toNat : Int) = ((v ^^^ c.toNat : Nat) : Int) :=
  u32_xor_nat v c.toNat h (by have := c.toNat_lt; omega)
theorem ones_xor {v : Nat} (h : v < 4294967296) : bits .xor .u32 IntKind.u32.max (v : Int) = ((v ^^^ 4294967295 : Nat) : Int) := by
  rw [Nat.xor_comm]
  exact u32_xor_nat 4294967295 v (by omega) h
set_option maxHeartbeats 400000 in
theorem shiftedC (v : Nat) (h : v < 4294967296) (w : World) :
    Calls Tryz.prog 155 #[.int .u32 (v : Int)] w fun e w' => e = .returned (.int .u32 (crcB v : Int)) ∧ w' = w := by
  have a1 := and_one h
  by_cases ho : v % 2 = 1
  · rw [ho] at a1
    have a2 := crc_odd h ho
    generalize crcB v = y at a2 ⊢
    go_enter Tryz.func155, Tryz.ntmps155
    go_wp2
    go_ret
    exact ⟨rfl, rfl⟩
  · have a3 : v % 2 = 0 := by omega
    rw [a3] at a1
    have a2 := crc_even ho
    generalize crcB v = y at a2 ⊢
    go_enter Tryz.func155, Tryz.ntmps155
    go_wp2
    go_ret
    exact ⟨rfl, rfl⟩
set_option maxRecDepth 20000 in
set_option maxHeartbeats 1000000 in
theorem sumC (v : Value) (bs : List UInt8) (w : World) (hv : HoldsB w v bs) (hl : bs.length ≤ 1000000000000000) :
    Calls Tryz.prog 114 #[v] w fun e w' => e = .returned (.int .i64 (sumOf bs : Int)) ∧ w' = w := by
  obtain ⟨ao, cap, rfl, _, _, hc⟩ := hv
  have HC := hide' hc
  obtain ⟨n, hn⟩ : ∃ n, n = bs.length := ⟨_, rfl⟩
  have N1 : Hid (bs.length = n) := hn.symm
  have ln : n ≤ 1000000000000000 := by omega
  rw [N1.out]
  clear hc hl hn
  go_enter Tryz.func114, Tryz.ntmps114
  go_wp2
  go_loopw [3, 8] (fun s i wr => ∃ k : Nat, k ≤ n ∧ i = .int .i64 k ∧ Hid (wr = w) ∧ ∃ v : Nat, v < 4294967296 ∧ s = .int .u32 v ∧ Hid (v = crcL 4294967295 (bs.take k))) (fun _ i _ => n - (intOf i).toNat)
  case atStart => exact ⟨0, by omega, rfl, rfl, 4294967295, by decide, rfl, rfl⟩
  case round =>
    obtain ⟨k, hk, rfl, hw, v, hv, rfl, hV⟩ := hrel
    have hw' := hw.out.symm
    subst hw'
    by_cases hlt : k < n
    · have G1 : Hid (k < bs.length) := by unfold Hid; rw [N1.out]; exact hlt
      obtain ⟨b, off, e, hb, hcell⟩ := HC.out (fun e => by have := G1.out; rw [e] at this; exact absurd this (Nat.not_lt_zero _))
      subst e
      have x1 := hcell k G1.out
      unfold B at x1
      have E : Hid (crcL 4294967295 (bs.take (k + 1)) = crcN 8 (v ^^^ (bs[k]'G1.out).toNat)) := by
        unfold Hid; rw [List.take_succ_eq_append_getElem G1.out, crcL_snoc, ← hV.out]; rfl
      have hx := xor_byte hv (bs[k]'G1.out)
      have hxl := crcX_lt hv (bs[k]'G1.out)
      have hcl : ((bs[k]'G1.out).toNat : Int) ≤ 255 := (byte_lt _).2
      generalize (bs[k]'G1.out).toNat = c at x1 E hx hcl hxl
      generalize v ^^^ c = x at E hx hxl
      clear hV hcell
      go_wp2
      go_loopw [3, 16] (fun s i wr => ∃ j : Nat, j ≤ 8 ∧ i = .int .i64 j ∧ Hid (wr = w) ∧ ∃ u : Nat, u < 4294967296 ∧ s = .int .u32 u ∧ Hid (u = crcN j x)) (fun _ i _ => 8 - (intOf i).toNat)
      case atStart => exact ⟨0, by omega, rfl, rfl, x, hxl, rfl, rfl⟩
      case round =>
        obtain ⟨j, hj, rfl, hw2, u, hu, rfl, hU⟩ := hrel
        have hw2' := hw2.out.symm
        subst hw2'
        by_cases hjl : j < 8
        · have cS := hide' (shiftedC u hu w)
          have hu2 := crcB_lt hu
          have E2 : Hid (crcB u = crcN (j + 1) x) := by unfold Hid; rw [hU.out]; rfl
          generalize crcB u = y at cS hu2 E2
          go_wp2_with fail
          refine cS.out.mono ?_
          rintro e w9 ⟨rfl, ew⟩
          rw [ew]; clear ew w9 cS
          go_wp2_with fail
          go_roundw
          case rel => exact ⟨j + 1, by omega, by go_num, (by unfold Hid; first | trivial | rfl), y, hu2, rfl, E2⟩
          case measure => simp [intOf]; omega
        · obtain rfl : j = 8 := by omega
          go_wp2_with fail
          go_roundw
          case rel => exact ⟨k + 1, by omega, by go_num, (by unfold Hid; first | trivial | rfl), u, hu, rfl, by unfold Hid; rw [E.out, hU.out]⟩
          case measure => simp [intOf]; omega
    · have hx := ones_xor hv
      have E : Hid (sumOf bs = v ^^^ 4294967295) := by
        unfold Hid; rw [hV.out, List.take_of_length_le (by rw [N1.out]; omega)]; rfl
      have hxl : v ^^^ 4294967295 < 4294967296 := Nat.xor_lt_two_pow (n := 32) hv (by decide)
      generalize v ^^^ 4294967295 = y at hx E hxl
      have h64 : wrap64 (y : Int) = y := by unfold wrap64; omega
      go_wp2
      go_ret
      rw [E.out]
      exact ⟨rfl, rfl⟩
end Go.Proofs.YtibjcofbhldenaaGreatDoor
namespace Go.Proofs.YtibjcofbhldenaaGreatDoor
open Go.RowKit Go.Maps
/-- the two cells of a variable of the call's own -/
def Two (w0 w : World) : Prop := (∃ x, w.cell? ⟨w0.heap.size, 0, none⟩ = some (.string x)) ∧ (∃ x, w.cell? ⟨w0.heap.size, 1, none⟩ = some (.string x)) ∧ w.frozen? ⟨w0.heap.size, 0, none⟩ = false ∧ w.frozen? ⟨w0.heap.size, 1, none⟩ = false ∧ w0.heap.size < w.heap.size ∧ Below w0.heap.size w0 w
theorem two_start (w : World) : Two w (w.alloc (.cells #[.string ⟨#[]⟩, .string ⟨#[]⟩] 208)) :=
  ⟨⟨⟨#[]⟩, by simp⟩, ⟨⟨#[]⟩, by simp⟩, by simp, by simp, by simp, (Below.refl _ _).alloc (Nat.le_refl _) _⟩
theorem two_below {w0 w w' : World} (h : Two w0 w) (hb : Below w.heap.size w w') : Two w0 w' := by
  obtain ⟨⟨x, h1⟩, ⟨y, h2⟩, h3, h4, h5, h6⟩ := h
  obtain ⟨c, f⟩ := bcell hb
  have := hb.size
  exact ⟨⟨x, by rw [c _ _ h5]; exact h1⟩, ⟨y, by rw [c _ _ h5]; exact h2⟩, by rw [f _ _ h5]; exact h3, by rw [f _ _ h5]; exact h4, by omega, h6.trans (hb.mono h6.size)⟩
theorem two_store {w0 w : World} (h : Two w0 w) (a b : Value) : ((w.setCell ⟨w0.heap.size, 0, none⟩ a).setCell ⟨w0.heap.size, 1, none⟩ b).cell? ⟨w0.heap.size, 0, none⟩ = some a ∧ ((w.setCell ⟨w0.heap.size, 0, none⟩ a).setCell ⟨w0.heap.size, 1, none⟩ b).cell? ⟨w0.heap.size, 1, none⟩ = some b ∧ Below w0.heap.size w0 ((w.setCell ⟨w0.heap.size, 0, none⟩ a).setCell ⟨w0.heap.size, 1, none⟩ b) := by
  obtain ⟨⟨x, h1⟩, ⟨y, h2⟩, h3, h4, h5, h6⟩ := h
  refine ⟨?_, ?_, (h6.setCell (Nat.le_refl _) _).setCell (Nat.le_refl _) _⟩
  · rw [World.cell?_setCell_other _ _ _ _ (by simp)]
    exact World.cell?_setCell_same _ _ _ h1
  · refine World.cell?_setCell_same (u := .string y) _ _ _ ?_
    rw [World.cell?_setCell_other _ _ _ _ (by simp)]
    exact h2
theorem holdsF_parts {w : World} {v : Value} {ps : FL} (h : HoldsF w v ps) : ∃ ao cap b off, v = .slice ao ps.length cap ∧ (0 < ps.length → ao = some ⟨b, off, none⟩ ∧ b < w.heap.size ∧ ∀ j (h : j < ps.length), w.cell? ⟨b, off + j * 2, none⟩ = some (S ps[j].1) ∧ w.cell? ⟨b, off + j * 2 + 1, none⟩ = some (S ps[j].2)) := by
  obtain ⟨ao, cap, rfl, _, _, hc⟩ := h
  by_cases he : ps = []
  · subst he; exact ⟨ao, cap, 0, 0, rfl, fun h => absurd h (by simp)⟩
  · obtain ⟨b, off, h1, h2, h3⟩ := hc he
    exact ⟨ao, cap, b, off, rfl, fun _ => ⟨h1, h2, h3⟩⟩
end Go.Proofs.YtibjcofbhldenaaGreatDoor
namespace Go.Proofs.YtibjcofbhldenaaGreatDoor
open Go.RowKit
end Go.Proofs.YtibjcofbhldenaaGreatDoor
namespace Go.Proofs.YtibjcofbhldenaaGreatDoor
open Go.RowKit
theorem ba_eql' (a b : List UInt8) (h : ¬ a = b) : ((⟨a.toArray⟩ : ByteArray).toList == (⟨b.toArray⟩ : ByteArray).toList) = false := by
  rw [Lib.toList_data, Lib.toList_data]; simpa using h
end Go.Proofs.YtibjcofbhldenaaGreatDoor

namespace Go.Proofs.YtibjcofbhldenaaGreatDoor
open Go.RowKit
theorem ofInt_i64 (a : Nat) (ha : a < 4611686018427387904) : (BitVec.ofInt 64 (a : Int)).toNat = a := by
  rw [BitVec.ofInt_natCast, BitVec.toNat_ofNat]; exact Nat.mod_eq_of_lt (by omega)
theorem i64_or_nat (a b : Nat) (ha : a < 4611686018427387904) (hb : b < 4611686018427387904) : bits .or .i64 (a : Int) (b : Int) = ((a ||| b : Nat) : Int) := by
  have hx : a ||| b < 2 ^ 62 := Nat.or_lt_two_pow (by omega) (by omega)
  show IntKind.i64.wrap ((BitVec.ofInt 64 (a : Int) ||| BitVec.ofInt 64 (b : Int)).toNat : Int) = _
  rw [BitVec.toNat_or, ofInt_i64 a ha, ofInt_i64 b hb, IntKind.wrap_i64]
  omega
theorem or_byte (a : Nat) (c : UInt8) (ha : a < 4503599627370496) : bits .or .i64 ((a : Int) * 256) (c.toNat : Int) = ((a * 256 + c.toNat : Nat) : Int) := by
  have h := c.toNat_lt
  have e : (a : Int) * 256 = ((a * 256 : Nat) : Int) := by omega
  rw [e, i64_or_nat _ _ (by omega) (by omega), Nat.mul_comm a 256]
  exact congrArg _ (Nat.two_pow_add_eq_or_of_lt (i := 8) (by omega) a).symm
theorem isOpC (op : Int) (w : World) : Calls Tryz.prog 138 #[.int .i64 op] w fun e w' => e = .returned (.bool (decide (op = 1 ∨ op = 2))) ∧ w' = w := by
  by_cases h1 : op = 1
  · subst h1
    go_enter Tryz.func138, Tryz.ntmps138
    go_wp2
    go_ret
    exact ⟨rfl, rfl⟩
  · by_cases h2 : op = 2
    · subst h2
      go_enter Tryz.func138, Tryz.ntmps138
      go_wp2
      go_ret
      exact ⟨rfl, rfl⟩
    · have H : Hid (decide (op = 1 ∨ op = 2) = false) := by unfold Hid; simp; omega
      have b1 : (op == 1) = false := by simpa using h1
      have b2 : (op == 2) = false := by simpa using h2
      go_enter Tryz.func138, Tryz.ntmps138
      go_wp2
      go_ret
      try rw [H.out]
      exact ⟨rfl, rfl⟩
theorem fitsC (n : Int) (w : World) : Calls Tryz.prog 139 #[.int .i64 n] w fun e w' => e = .returned (.bool (decide (0 ≤ n ∧ n ≤ 4294967295))) ∧ w' = w := by
  by_cases h1 : 0 ≤ n
  · by_cases h2 : n ≤ 4294967295
    · have H : Hid (decide (0 ≤ n ∧ n ≤ 4294967295) = true) := by unfold Hid; simp; omega
      have b1 : decide (0 ≤ n) = true := by simpa using h1
      have b2 : decide (n ≤ 4294967295) = true := by simpa using h2
      go_enter Tryz.func139, Tryz.ntmps139
      go_wp2
      go_ret
      try rw [H.out]
      exact ⟨rfl, rfl⟩
    · have H : Hid (decide (0 ≤ n ∧ n ≤ 4294967295) = false) := by unfold Hid; simp; omega
      have b1 : decide (0 ≤ n) = true := by simpa using h1
      have b2 : decide (n ≤ 4294967295) = false := by simpa using h2
      go_enter Tryz.func139, Tryz.ntmps139
      go_wp2
      go_ret
      try rw [H.out]
      exact ⟨rfl, rfl⟩
  · have H : Hid (decide (0 ≤ n ∧ n ≤ 4294967295) = false) := by unfold Hid; simp; omega
    have b1 : decide (0 ≤ n) = false := by simpa using h1
    go_enter Tryz.func139, Tryz.ntmps139
    go_wp2
    go_ret
    try rw [H.out]
    exact ⟨rfl, rfl⟩
theorem opOfC (c : Int) (h0 : 0 ≤ c) (h1 : c ≤ 255) (w : World) : Calls Tryz.prog 221 #[.int .u8 c] w fun e w' => e = .returned (.int .i64 (c - 192)) ∧ w' = w := by
  go_enter Tryz.func221, Tryz.ntmps221
  go_wp2
  go_ret
  exact ⟨by first | rfl | (congr 2; go_num), rfl⟩
set_option maxRecDepth 20000 in
set_option maxHeartbeats 1000000 in
theorem numberC (v : Value) (bs : List UInt8) (w : World) (hv : HoldsB w v bs) (hl : bs.length ≤ 4) :
    Calls Tryz.prog 220 #[v] w fun e w' => e = .returned (.int .i64 (valN bs : Int)) ∧ w' = w := by
  obtain ⟨ao, cap, rfl, _, _, hc⟩ := hv
  have HC := hide' hc
  obtain ⟨n, hn⟩ : ∃ n, n = bs.length := ⟨_, rfl⟩
  have N1 : Hid (bs.length = n) := hn.symm
  have ln : n ≤ 4 := by omega
  rw [N1.out]
  clear hc hl hn
  go_enter Tryz.func220, Tryz.ntmps220
  go_wp2
  go_loopw [3, 8] (fun s i wr => ∃ k : Nat, k ≤ n ∧ i = .int .i64 k ∧ Hid (wr = w) ∧ ∃ v : Nat, Hid (v < 256 ^ k) ∧ s = .int .i64 v ∧ Hid (v = valN (bs.take k))) (fun _ i _ => n - (intOf i).toNat)
  case atStart => exact ⟨0, by omega, rfl, rfl, 0, by unfold Hid; decide, rfl, rfl⟩
  case round =>
    obtain ⟨k, hk, rfl, hw, v, hv, rfl, hV⟩ := hrel
    have hw' := hw.out.symm
    subst hw'
    by_cases hlt : k < n
    · have G1 : Hid (k < bs.length) := by unfold Hid; rw [N1.out]; exact hlt
      obtain ⟨b, off, e, hb, hcell⟩ := HC.out (fun e => by have := G1.out; rw [e] at this; exact absurd this (Nat.not_lt_zero _))
      subst e
      have x1 := hcell k G1.out
      unfold B at x1
      have E : Hid (v * 256 + (bs[k]'G1.out).toNat = valN (bs.take (k + 1))) := by
        unfold Hid; rw [List.take_succ_eq_append_getElem G1.out, valN_snoc, ← hV.out]
      have hvl : v < 16777216 := Nat.lt_of_lt_of_le hv.out (Nat.le_trans (Nat.pow_le_pow_right (by decide) (show k ≤ 3 by omega)) (by decide))
      have hx := or_byte v (bs[k]'G1.out) (by omega)
      have hcl : ((bs[k]'G1.out).toNat : Int) ≤ 255 := (byte_lt _).2
      have E2 : Hid (v * 256 + (bs[k]'G1.out).toNat < 256 ^ (k + 1)) := by
        unfold Hid; have := hv.out; have := (bs[k]'G1.out).toNat_lt; rw [Nat.pow_succ]; omega
      generalize (bs[k]'G1.out).toNat = c at x1 E hx hcl E2
      have hy : v * 256 + c < 4294967296 := by omega
      generalize v * 256 + c = y at E E2 hx hy
      clear hV hcell hv
      go_wp2
      go_roundw
      case rel => exact ⟨k + 1, by omega, by go_num, (by unfold Hid; first | trivial | rfl), y, E2, by first | rfl | (congr 1), E⟩
      case measure => simp [intOf]; omega
    · have E : Hid (valN bs = v) := by
        unfold Hid; rw [hV.out, List.take_of_length_le (by rw [N1.out]; omega)]
      go_wp2
      go_ret
      rw [E.out]
      exact ⟨rfl, rfl⟩
end Go.Proofs.YtibjcofbhldenaaGreatDoor
namespace Go.Proofs.YtibjcofbhldenaaGreatDoor
open Go.RowKit
theorem cells_nine {b : Nat} {W : World} {v0 v1 v2 v3 v4 v5 v6 v7 v8 : Value} (h : Blk b W [v0, v1, v2, v3, v4, v5, v6, v7, v8]) : (W.cell? ⟨b, 0, none⟩ = some v0 ∧ W.cell? ⟨b, 1, none⟩ = some v1 ∧ W.cell? ⟨b, 2, none⟩ = some v2 ∧ W.cell? ⟨b, 3, none⟩ = some v3 ∧ W.cell? ⟨b, 4, none⟩ = some v4 ∧ W.cell? ⟨b, 5, none⟩ = some v5 ∧ W.cell? ⟨b, 6, none⟩ = some v6 ∧ W.cell? ⟨b, 7, none⟩ = some v7 ∧ W.cell? ⟨b, 8, none⟩ = some v8) ∧ (W.frozen? ⟨b, 0, none⟩ = false ∧ W.frozen? ⟨b, 1, none⟩ = false ∧ W.frozen? ⟨b, 2, none⟩ = false ∧ W.frozen? ⟨b, 3, none⟩ = false ∧ W.frozen? ⟨b, 4, none⟩ = false ∧ W.frozen? ⟨b, 5, none⟩ = false ∧ W.frozen? ⟨b, 6, none⟩ = false ∧ W.frozen? ⟨b, 7, none⟩ = false ∧ W.frozen? ⟨b, 8, none⟩ = false) :=
  ⟨⟨(h.1 0 (by simp)).1, (h.1 1 (by simp)).1, (h.1 2 (by simp)).1, (h.1 3 (by simp)).1, (h.1 4 (by simp)).1, (h.1 5 (by simp)).1, (h.1 6 (by simp)).1, (h.1 7 (by simp)).1, (h.1 8 (by simp)).1⟩, ⟨(h.1 0 (by simp)).2, (h.1 1 (by simp)).2, (h.1 2 (by simp)).2, (h.1 3 (by simp)).2, (h.1 4 (by simp)).2, (h.1 5 (by simp)).2, (h.1 6 (by simp)).2, (h.1 7 (by simp)).2, (h.1 8 (by simp)).2⟩⟩
theorem put_nine (b : Nat) (W : World) (v0 v1 v2 v3 v4 v5 v6 v7 v8 : Value) : putFrom b 0 W [v0, v1, v2, v3, v4, v5, v6, v7, v8] = (((((((((W.setCell ⟨b, 0, none⟩ v0).setCell ⟨b, 1, none⟩ v1).setCell ⟨b, 2, none⟩ v2).setCell ⟨b, 3, none⟩ v3).setCell ⟨b, 4, none⟩ v4).setCell ⟨b, 5, none⟩ v5).setCell ⟨b, 6, none⟩ v6).setCell ⟨b, 7, none⟩ v7).setCell ⟨b, 8, none⟩ v8) := rfl
/-- an entry as a value -/
def entV (e : En) (lv bv : Value) : Value := .agg #[.string ⟨e.key.toArray⟩, .string ⟨e.vary.toArray⟩, .int .i64 e.r.s, .string ⟨e.r.r.toArray⟩, .int .i64 e.r.k, lv, bv, .int .i64 e.a, .int .i64 e.g]
def entL (e : En) (lv bv : Value) : List Value := [.string ⟨e.key.toArray⟩, .string ⟨e.vary.toArray⟩, .int .i64 e.r.s, .string ⟨e.r.r.toArray⟩, .int .i64 e.r.k, lv, bv, .int .i64 e.a, .int .i64 e.g]
end Go.Proofs.YtibjcofbhldenaaGreatDoor
