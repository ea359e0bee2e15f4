/- Records in the document's words, plain: the check sum, numbers of several bytes, a record's bytes, what is read of any bytes; that it is read as it was written, that one byte changed is told. Nothing of the program is named here. The contracts of the check sum: shifted, Sum, and the document's Sum. The contracts of a record's numbers: isOp, fits, opOf, number, appendNumber; the document's Value. The contracts of appendNumber and of the document's Number. A part of a list of bytes as a value; such a list as a text. The contract of Spare; a part of what is owned. -/
import Derived.Test.YtenegcoapejbmaaGreatDoorBa
import Derived.Laws.BitsAllLaws
import Derived.Deep.OwnRows
namespace Go.Proofs.YtenegcoapejbmaaGreatDoor
/-- a check sum, moved on by one bit -/
def crcB (v : Nat) : Nat := if v % 2 = 1 then (v / 2) ^^^ 3988292384 else v / 2
def crcN : Nat → Nat → Nat
  | 0, v => v
  | n + 1, v => crcB (crcN n v)
/-- .. by one byte -/
def crcC (v : Nat) (c : UInt8) : Nat := crcN 8 (v ^^^ c.toNat)
def crcL (v : Nat) (l : List UInt8) : Nat := l.foldl crcC v
def sumOf (l : List UInt8) : Nat := crcL 4294967295 l ^^^ 4294967295
theorem crcB_lt {v : Nat} (h : v < 4294967296) : crcB v < 4294967296 := by
  unfold crcB
  split
  · exact Nat.xor_lt_two_pow (n := 32) (by omega) (by decide)
  · omega
theorem crcN_lt (n : Nat) {v : Nat} (h : v < 4294967296) : crcN n v < 4294967296 := by
  induction n with
  | zero => exact h
  | succ n ih => exact crcB_lt ih
theorem crcX_lt {v : Nat} (h : v < 4294967296) (c : UInt8) : v ^^^ c.toNat < 4294967296 :=
  Nat.xor_lt_two_pow (n := 32) h (by have := c.toNat_lt; omega)
theorem crcC_lt {v : Nat} (h : v < 4294967296) (c : UInt8) : crcC v c < 4294967296 := crcN_lt 8 (crcX_lt h c)
theorem crcL_lt (l : List UInt8) : ∀ {v : Nat}, v < 4294967296 → crcL v l < 4294967296 := by
  induction l with
  | nil => intro v h; exact h
  | cons c l ih => intro v h; exact ih (crcC_lt h c)
theorem sumOf_lt (l : List UInt8) : sumOf l < 4294967296 := Nat.xor_lt_two_pow (n := 32) (crcL_lt l (by decide)) (by decide)
theorem crcL_snoc (v : Nat) (l : List UInt8) (c : UInt8) : crcL v (l ++ [c]) = crcC (crcL v l) c := by simp [crcL]
theorem crcL_app (v : Nat) (l m : List UInt8) : crcL v (l ++ m) = crcL (crcL v l) m := by simp [crcL]
theorem odd_high {v : Nat} (h : v < 4294967296) (ho : v % 2 = 1) : (crcB v).testBit 31 = true := by
  unfold crcB
  rw [if_pos ho, Nat.testBit_xor, Nat.testBit_lt_two_pow (x := v / 2) (by omega)]
  decide
theorem even_low {v : Nat} (h : v < 4294967296) (ho : ¬ v % 2 = 1) : (crcB v).testBit 31 = false := by
  unfold crcB
  rw [if_neg ho]
  exact Nat.testBit_lt_two_pow (by omega)
theorem xor_inj {a b c : Nat} (h : a ^^^ c = b ^^^ c) : a = b := by
  have := congrArg (· ^^^ c) h
  simpa [Nat.xor_assoc] using this
theorem xor_injl {a b c : Nat} (h : c ^^^ a = c ^^^ b) : a = b := by
  rw [Nat.xor_comm c a, Nat.xor_comm c b] at h; exact xor_inj h
theorem crcB_inj {a b : Nat} (ha : a < 4294967296) (hb : b < 4294967296) (h : crcB a = crcB b) : a = b := by
  by_cases oa : a % 2 = 1
  · by_cases ob : b % 2 = 1
    · unfold crcB at h
      rw [if_pos oa, if_pos ob] at h
      have := xor_inj h
      omega
    · have h1 := odd_high ha oa
      rw [h, even_low hb ob] at h1
      cases h1
  · by_cases ob : b % 2 = 1
    · have h1 := odd_high hb ob
      rw [← h, even_low ha oa] at h1
      cases h1
    · unfold crcB at h
      rw [if_neg oa, if_neg ob] at h
      omega
theorem crcN_inj (n : Nat) {a b : Nat} (ha : a < 4294967296) (hb : b < 4294967296) (h : crcN n a = crcN n b) : a = b := by
  induction n with
  | zero => exact h
  | succ n ih => exact ih (crcB_inj (crcN_lt n ha) (crcN_lt n hb) h)
theorem crcL_inj (l : List UInt8) : ∀ {a b : Nat}, a < 4294967296 → b < 4294967296 → crcL a l = crcL b l → a = b := by
  induction l with
  | nil => intro a b _ _ h; exact h
  | cons c l ih =>
    intro a b ha hb h
    exact xor_inj (crcN_inj 8 (crcX_lt ha c) (crcX_lt hb c) (ih (crcC_lt ha c) (crcC_lt hb c) h))
/-- two rows that part at one byte alone have unlike sums -/
theorem sum_tells (xs ys : List UInt8) (c d : UInt8) (h : sumOf (xs ++ c :: ys) = sumOf (xs ++ d :: ys)) : c = d := by
  have h1 := xor_inj h
  rw [crcL_app, crcL_app] at h1
  have hv : crcL 4294967295 xs < 4294967296 := crcL_lt xs (by decide)
  have h2 := crcL_inj ys (crcC_lt hv c) (crcC_lt hv d) h1
  exact UInt8.toNat_inj.1 (xor_injl (crcN_inj 8 (crcX_lt hv c) (crcX_lt hv d) h2))
/-- a number in so many bytes, the greatest first -/
def beN : Nat → Nat → List UInt8
  | 0, _ => []
  | k + 1, v => UInt8.ofNat (v / 256 ^ k) :: beN k v
def valA (a : Nat) (l : List UInt8) : Nat := l.foldl (fun n c => n * 256 + c.toNat) a
def valN (l : List UInt8) : Nat := valA 0 l
theorem beN_len (k v : Nat) : (beN k v).length = k := by
  induction k with
  | zero => rfl
  | succ k ih => simp [beN, ih]
theorem valA_eq (l : List UInt8) : ∀ a, valA a l = a * 256 ^ l.length + valA 0 l := by
  induction l with
  | nil => intro a; simp [valA]
  | cons c l ih =>
    intro a
    show valA (a * 256 + c.toNat) l = _ + valA (0 * 256 + c.toNat) l
    rw [ih, ih (0 * 256 + c.toNat), List.length_cons, Nat.pow_succ, Nat.zero_mul, Nat.zero_add, Nat.add_mul, Nat.mul_assoc, Nat.mul_comm 256, Nat.add_assoc]
theorem valN_cons (c : UInt8) (l : List UInt8) : valN (c :: l) = c.toNat * 256 ^ l.length + valN l := by
  show valA (0 * 256 + c.toNat) l = _
  rw [valA_eq, Nat.zero_mul, Nat.zero_add]; rfl
theorem valN_snoc (l : List UInt8) (c : UInt8) : valN (l ++ [c]) = valN l * 256 + c.toNat := by simp [valN, valA]
theorem valN_lt (l : List UInt8) : valN l < 256 ^ l.length := by
  induction l with
  | nil => decide
  | cons c l ih =>
    rw [valN_cons, List.length_cons, Nat.pow_succ]
    have h := c.toNat_lt
    have : c.toNat * 256 ^ l.length + 256 ^ l.length ≤ 256 ^ l.length * 256 := by
      have := Nat.mul_le_mul_right (256 ^ l.length) (show c.toNat + 1 ≤ 256 by omega)
      rw [Nat.add_mul, Nat.one_mul] at this
      rw [Nat.mul_comm (256 ^ l.length) 256]
      exact this
    omega
theorem ofNat_mod (n : Nat) : (UInt8.ofNat n).toNat = n % 256 := by simp
theorem valN_be (k v : Nat) : valN (beN k v) = v % 256 ^ k := by
  induction k with
  | zero => rw [Nat.pow_zero, Nat.mod_one]; rfl
  | succ k ih =>
    show valN (_ :: beN k v) = _
    rw [valN_cons, beN_len, ih, ofNat_mod, Nat.pow_succ, Nat.mod_mul, Nat.mul_comm, Nat.add_comm]
theorem valN_be' (k v : Nat) (h : v < 256 ^ k) : valN (beN k v) = v := by rw [valN_be, Nat.mod_eq_of_lt h]
theorem beN_app (k : Nat) (v : Nat) (m : Nat) : beN k (m * 256 ^ k + v) = beN k v := by
  induction k generalizing m with
  | zero => rfl
  | succ k ih =>
    show UInt8.ofNat _ :: beN k _ = UInt8.ofNat _ :: beN k _
    congr 1
    · apply UInt8.toNat_inj.1
      rw [ofNat_mod, ofNat_mod, Nat.pow_succ, Nat.mul_comm (256 ^ k) 256, ← Nat.mul_assoc, Nat.add_comm, Nat.add_mul_div_right _ _ (Nat.pow_pos (by decide)), Nat.add_mul_mod_self_right]
    · rw [Nat.pow_succ, Nat.mul_comm (256 ^ k) 256, ← Nat.mul_assoc]
      exact ih (m * 256)
theorem beN_val (l : List UInt8) : beN l.length (valN l) = l := by
  induction l with
  | nil => rfl
  | cons c l ih =>
    rw [valN_cons, List.length_cons]
    show UInt8.ofNat _ :: beN l.length _ = _
    rw [beN_app, ih]
    congr 1
    apply UInt8.toNat_inj.1
    rw [ofNat_mod, Nat.add_comm, Nat.add_mul_div_right _ _ (Nat.pow_pos (by decide)), Nat.div_eq_of_lt (valN_lt l), Nat.zero_add]
    have := c.toNat_lt
    omega
/-- all of a record but its check sum -/
def recB (op seq no : Nat) (id : List UInt8) : List UInt8 := UInt8.ofNat (192 + op) :: (beN 2 id.length ++ (beN 4 seq ++ (beN 4 no ++ id)))
def recL (op seq no : Nat) (id : List UInt8) : List UInt8 := recB op seq no id ++ beN 4 (sumOf (recB op seq no id))
theorem recB_len (op seq no : Nat) (id : List UInt8) : (recB op seq no id).length = 11 + id.length := by simp [recB, beN_len]; omega
theorem recL_len (op seq no : Nat) (id : List UInt8) : (recL op seq no id).length = 15 + id.length := by rw [recL, List.length_append, recB_len, beN_len]; omega
/-- what Encode answers: seq, op, no are any integers -/
def encOf (seq op no : Int) (id : List UInt8) : List UInt8 × Int :=
  if (op = 1 ∨ op = 2) ∧ (0 ≤ seq ∧ seq ≤ 4294967295) ∧ (0 ≤ no ∧ no ≤ 4294967295) then
    (if id.length ≤ 4096 then (recL op.toNat seq.toNat no.toNat id, 0) else ([], 101))
  else ([], 100)
/-- a record as it is read: seq, op, no, id; its length; the error -/
structure RecD where
  seq : Nat
  op : Nat
  no : Nat
  id : List UInt8
  n : Nat
  e : Int
def decErr (e : Int) : RecD := ⟨0, 0, 0, [], 0, e⟩
def midN (l : List UInt8) (a b : Nat) : List UInt8 := (l.drop a).take (b - a)
def decOf (l : List UInt8) : RecD :=
  if l.length = 0 then decErr 0
  else if ¬ ((l[0]?.getD 0).toNat = 193 ∨ (l[0]?.getD 0).toNat = 194) then decErr 100
  else if l.length < 3 then decErr 0
  else if 4096 < valN (midN l 1 3) then decErr 100
  else if l.length < valN (midN l 1 3) + 15 then decErr 0
  else if valN (midN l (valN (midN l 1 3) + 11) (valN (midN l 1 3) + 15)) = sumOf (l.take (valN (midN l 1 3) + 11)) then
    ⟨valN (midN l 3 7), (l[0]?.getD 0).toNat - 192, valN (midN l 7 11), midN l 11 (valN (midN l 1 3) + 11), valN (midN l 1 3) + 15, 0⟩
  else decErr 100
end Go.Proofs.YtenegcoapejbmaaGreatDoor
namespace Go.Proofs.YtenegcoapejbmaaGreatDoor
open Go.RowKit
theorem crc_odd {v : Nat} (h : v < 4294967296) (ho : v % 2 = 1) : bits .xor .u32 ((v : Int) / 2) 3988292384 = (crcB v : Int) := by
  have e : ((v : Int) / 2) = ((v / 2 : Nat) : Int) := by omega
  rw [e]
  refine (u32_xor_nat (v / 2) 3988292384 (by omega) (by omega)).trans ?_
  unfold crcB
  rw [if_pos ho]
theorem crc_even {v : Nat} (ho : ¬ v % 2 = 1) : ((v : Int) / 2) = (crcB v : Int) := by
  unfold crcB
  rw [if_neg ho]
  omega
theorem and_one {v : Nat} (h : v < 4294967296) : bits .and .u32 (v : Int) 1 = ((v % 2 : Nat) : Int) := by
  refine (u32_and_nat v 1 h (by omega)).trans ?_
  rw [Nat.and_one_is_mod]
theorem xor_byte {v : Nat} (h : v < 4294967296) (c : UInt8) : bits .xor .u32 (v : Int) (c.toNat : Int) = ((v ^^^ c.toNat : Nat) : Int) :=
  u32_xor_nat v c.toNat h (by have := c.toNat_lt; omega)
theorem xor_ones {v : Nat} (h : v < 4294967296) : bits .xor .u32 (v : Int) 4294967295 = ((v ^^^ 4294967295 : Nat) : Int) :=
  u32_xor_nat v 4294967295 h (by omega)
theorem ones_xor {v : Nat} (h : v < 4294967296) : bits .xor .u32 IntKind.u32.max (v : Int) = ((v ^^^ 4294967295 : Nat) : Int) := by
  rw [Nat.xor_comm]
  exact u32_xor_nat 4294967295 v (by omega) h
set_option maxHeartbeats 400000 in
theorem shiftedC (v : Nat) (h : v < 4294967296) (w : World) :
    Calls Tryz.prog 46 #[.int .u32 (v : Int)] w fun e w' => e = .returned (.int .u32 (crcB v : Int)) ∧ w' = w := by
  have a1 := and_one h
  by_cases ho : v % 2 = 1
  · rw [ho] at a1
    have a2 := crc_odd h ho
    generalize crcB v = y at a2 ⊢
    go_enter Tryz.func46, Tryz.ntmps46
    go_wp2
    go_ret
    exact ⟨rfl, rfl⟩
  · have a3 : v % 2 = 0 := by omega
    rw [a3] at a1
    have a2 := crc_even ho
    generalize crcB v = y at a2 ⊢
    go_enter Tryz.func46, Tryz.ntmps46
    go_wp2
    go_ret
    exact ⟨rfl, rfl⟩
set_option maxRecDepth 20000 in
set_option maxHeartbeats 1000000 in
theorem sumC (v : Value) (bs : List UInt8) (w : World) (hv : HoldsB w v bs) (hl : bs.length ≤ 1000000000000000) :
    Calls Tryz.prog 23 #[v] w fun e w' => e = .returned (.int .i64 (sumOf bs : Int)) ∧ w' = w := by
  obtain ⟨ao, cap, rfl, _, _, hc⟩ := hv
  have HC := hide' hc
  obtain ⟨n, hn⟩ : ∃ n, n = bs.length := ⟨_, rfl⟩
  have N1 : Hid (bs.length = n) := hn.symm
  have ln : n ≤ 1000000000000000 := by omega
  rw [N1.out]
  clear hc hl hn
  go_enter Tryz.func23, Tryz.ntmps23
  go_wp2
  go_loopw [3, 8] (fun s i wr => ∃ k : Nat, k ≤ n ∧ i = .int .i64 k ∧ Hid (wr = w) ∧ ∃ v : Nat, v < 4294967296 ∧ s = .int .u32 v ∧ Hid (v = crcL 4294967295 (bs.take k))) (fun _ i _ => n - (intOf i).toNat)
  case atStart => exact ⟨0, by omega, rfl, rfl, 4294967295, by decide, rfl, rfl⟩
  case round =>
    obtain ⟨k, hk, rfl, hw, v, hv, rfl, hV⟩ := hrel
    have hw' := hw.out.symm
    subst hw'
    by_cases hlt : k < n
    · have G1 : Hid (k < bs.length) := by unfold Hid; rw [N1.out]; exact hlt
      obtain ⟨b, off, e, hb, hcell⟩ := HC.out (fun e => by have := G1.out; rw [e] at this; exact absurd this (Nat.not_lt_zero _))
      subst e
      have x1 := hcell k G1.out
      unfold B at x1
      have E : Hid (crcL 4294967295 (bs.take (k + 1)) = crcN 8 (v ^^^ (bs[k]'G1.out).toNat)) := by
        unfold Hid; rw [List.take_succ_eq_append_getElem G1.out, crcL_snoc, ← hV.out]; rfl
      have hx := xor_byte hv (bs[k]'G1.out)
      have hxl := crcX_lt hv (bs[k]'G1.out)
      have hcl : ((bs[k]'G1.out).toNat : Int) ≤ 255 := (byte_lt _).2
      generalize (bs[k]'G1.out).toNat = c at x1 E hx hcl hxl
      generalize v ^^^ c = x at E hx hxl
      clear hV hcell
      go_wp2
      go_loopw [3, 16] (fun s i wr => ∃ j : Nat, j ≤ 8 ∧ i = .int .i64 j ∧ Hid (wr = w) ∧ ∃ u : Nat, u < 4294967296 ∧ s = .int .u32 u ∧ Hid (u = crcN j x)) (fun _ i _ => 8 - (intOf i).toNat)
      case atStart => exact ⟨0, by omega, rfl, rfl, x, hxl, rfl, rfl⟩
      case round =>
        obtain ⟨j, hj, rfl, hw2, u, hu, rfl, hU⟩ := hrel
        have hw2' := hw2.out.symm
        subst hw2'
        by_cases hjl : j < 8
        · have cS := hide' (shiftedC u hu w)
          have hu2 := crcB_lt hu
          have E2 : Hid (crcB u = crcN (j + 1) x) := by unfold Hid; rw [hU.out]; rfl
          generalize crcB u = y at cS hu2 E2
          go_wp2_with fail
          refine cS.out.mono ?_
          rintro e w9 ⟨rfl, ew⟩
          rw [ew]; clear ew w9 cS
          go_wp2_with fail
          go_roundw
          case rel => exact ⟨j + 1, by omega, by go_num, (by unfold Hid; first | trivial | rfl), y, hu2, rfl, E2⟩
          case measure => simp [intOf]; omega
        · obtain rfl : j = 8 := by omega
          go_wp2_with fail
          go_roundw
          case rel => exact ⟨k + 1, by omega, by go_num, (by unfold Hid; first | trivial | rfl), u, hu, rfl, by unfold Hid; rw [E.out, hU.out]⟩
          case measure => simp [intOf]; omega
    · have hx := ones_xor hv
      have E : Hid (sumOf bs = v ^^^ 4294967295) := by
        unfold Hid; rw [hV.out, List.take_of_length_le (by rw [N1.out]; omega)]; rfl
      have hxl : v ^^^ 4294967295 < 4294967296 := Nat.xor_lt_two_pow (n := 32) hv (by decide)
      generalize v ^^^ 4294967295 = y at hx E hxl
      have h64 : wrap64 (y : Int) = y := by unfold wrap64; omega
      go_wp2
      go_ret
      rw [E.out]
      exact ⟨rfl, rfl⟩
set_option maxRecDepth 20000 in
set_option maxHeartbeats 1000000 in
theorem sumRC (v : Value) (bs : List UInt8) (w : World) (hv : HoldsB w v bs) (hl : bs.length ≤ 1000000000000000) :
    Calls Tryz.prog 37 #[v] w fun e w' => e = .returned (.int .i64 (sumOf bs : Int)) ∧ w' = w := by
  obtain ⟨ao, cap, rfl, _, _, hc⟩ := hv
  have HC := hide' hc
  obtain ⟨n, hn⟩ : ∃ n, n = bs.length := ⟨_, rfl⟩
  have N1 : Hid (bs.length = n) := hn.symm
  have ln : n ≤ 1000000000000000 := by omega
  rw [N1.out]
  clear hc hl hn
  go_enter Tryz.func37, Tryz.ntmps37
  go_wp2
  go_loopw [3, 4] (fun s i wr => ∃ k : Nat, k ≤ n ∧ i = .int .i64 k ∧ Hid (wr = w) ∧ ∃ v : Nat, v < 4294967296 ∧ s = .int .u32 v ∧ Hid (v = crcL 4294967295 (bs.take k))) (fun _ i _ => n - (intOf i).toNat)
  case atStart => exact ⟨0, by omega, rfl, rfl, 4294967295, by decide, rfl, rfl⟩
  case round =>
    obtain ⟨k, hk, rfl, hw, v, hv, rfl, hV⟩ := hrel
    have hw' := hw.out.symm
    subst hw'
    by_cases hlt : k < n
    · have G1 : Hid (k < bs.length) := by unfold Hid; rw [N1.out]; exact hlt
      obtain ⟨b, off, e, hb, hcell⟩ := HC.out (fun e => by have := G1.out; rw [e] at this; exact absurd this (Nat.not_lt_zero _))
      subst e
      have x1 := hcell k G1.out
      unfold B at x1
      have E : Hid (crcL 4294967295 (bs.take (k + 1)) = crcN 8 (v ^^^ (bs[k]'G1.out).toNat)) := by
        unfold Hid; rw [List.take_succ_eq_append_getElem G1.out, crcL_snoc, ← hV.out]; rfl
      have hx := xor_byte hv (bs[k]'G1.out)
      have hxl := crcX_lt hv (bs[k]'G1.out)
      have hcl : ((bs[k]'G1.out).toNat : Int) ≤ 255 := (byte_lt _).2
      generalize (bs[k]'G1.out).toNat = c at x1 E hx hcl hxl
      generalize v ^^^ c = x at E hx hxl
      clear hV hcell
      go_wp2
      go_loopw [3, 5] (fun s i wr => ∃ j : Nat, j ≤ 8 ∧ i = .int .i64 j ∧ Hid (wr = w) ∧ ∃ u : Nat, u < 4294967296 ∧ s = .int .u32 u ∧ Hid (u = crcN j x)) (fun _ i _ => 8 - (intOf i).toNat)
      case atStart => exact ⟨0, by omega, rfl, rfl, x, hxl, rfl, rfl⟩
      case round =>
        obtain ⟨j, hj, rfl, hw2, u, hu, rfl, hU⟩ := hrel
        have hw2' := hw2.out.symm
        subst hw2'
        by_cases hjl : j < 8
        · have hu2 := crcB_lt hu
          have E2 : Hid (crcB u = crcN (j + 1) x) := by unfold Hid; rw [hU.out]; rfl
          have td : (u : Int).tdiv 2 = (u : Int) / 2 := Int.tdiv_eq_ediv_of_nonneg (by omega)
          have tm : (u : Int).tmod 2 = (u : Int) % 2 := Int.tmod_eq_emod_of_nonneg (by omega)
          by_cases ho : u % 2 = 1
          · have a1 : (u : Int) % 2 = 1 := by omega
            have a2 := crc_odd hu ho
            generalize crcB u = y at a2 hu2 E2
            go_wp2_with fail
            go_roundw
            case rel => exact ⟨j + 1, by omega, by go_num, (by unfold Hid; first | trivial | rfl), y, hu2, by first | rfl | (congr 1), E2⟩
            case measure => simp [intOf]; omega
          · have a1 : (u : Int) % 2 = 0 := by omega
            have a2 := crc_even ho
            generalize crcB u = y at a2 hu2 E2
            go_wp2_with fail
            go_roundw
            case rel => exact ⟨j + 1, by omega, by go_num, (by unfold Hid; first | trivial | rfl), y, hu2, by first | rfl | (congr 1), E2⟩
            case measure => simp [intOf]; omega
        · obtain rfl : j = 8 := by omega
          go_wp2_with fail
          go_roundw
          case rel => exact ⟨k + 1, by omega, by go_num, (by unfold Hid; first | trivial | rfl), u, hu, rfl, by unfold Hid; rw [E.out, hU.out]⟩
          case measure => simp [intOf]; omega
    · have hx := xor_ones hv
      have E : Hid (sumOf bs = v ^^^ 4294967295) := by
        unfold Hid; rw [hV.out, List.take_of_length_le (by rw [N1.out]; omega)]; rfl
      have hxl : v ^^^ 4294967295 < 4294967296 := Nat.xor_lt_two_pow (n := 32) hv (by decide)
      generalize v ^^^ 4294967295 = y at hx E hxl
      have h64 : wrap64 (y : Int) = y := by unfold wrap64; omega
      go_wp2
      go_ret
      rw [E.out]
      exact ⟨rfl, rfl⟩
end Go.Proofs.YtenegcoapejbmaaGreatDoor
namespace Go.Proofs.YtenegcoapejbmaaGreatDoor
open Go.RowKit
theorem ofInt_i64 (a : Nat) (ha : a < 4611686018427387904) : (BitVec.ofInt 64 (a : Int)).toNat = a := by
  rw [BitVec.ofInt_natCast, BitVec.toNat_ofNat]; exact Nat.mod_eq_of_lt (by omega)
theorem i64_or_nat (a b : Nat) (ha : a < 4611686018427387904) (hb : b < 4611686018427387904) : bits .or .i64 (a : Int) (b : Int) = ((a ||| b : Nat) : Int) := by
  have hx : a ||| b < 2 ^ 62 := Nat.or_lt_two_pow (by omega) (by omega)
  show IntKind.i64.wrap ((BitVec.ofInt 64 (a : Int) ||| BitVec.ofInt 64 (b : Int)).toNat : Int) = _
  rw [BitVec.toNat_or, ofInt_i64 a ha, ofInt_i64 b hb, IntKind.wrap_i64]
  omega
theorem i64_and_nat (a b : Nat) (ha : a < 4611686018427387904) (hb : b < 4611686018427387904) : bits .and .i64 (a : Int) (b : Int) = ((a &&& b : Nat) : Int) := by
  have hx : a &&& b < 2 ^ 62 := Nat.and_lt_two_pow _ (by omega)
  show IntKind.i64.wrap ((BitVec.ofInt 64 (a : Int) &&& BitVec.ofInt 64 (b : Int)).toNat : Int) = _
  rw [BitVec.toNat_and, ofInt_i64 a ha, ofInt_i64 b hb, IntKind.wrap_i64]
  omega
theorem or_byte (a : Nat) (c : UInt8) (ha : a < 4503599627370496) : bits .or .i64 ((a : Int) * 256) (c.toNat : Int) = ((a * 256 + c.toNat : Nat) : Int) := by
  have h := c.toNat_lt
  have e : (a : Int) * 256 = ((a * 256 : Nat) : Int) := by omega
  rw [e, i64_or_nat _ _ (by omega) (by omega), Nat.mul_comm a 256]
  exact congrArg _ (Nat.two_pow_add_eq_or_of_lt (i := 8) (by omega) a).symm
theorem and_255 (a : Nat) (ha : a < 4503599627370496) : bits .and .i64 (a : Int) 255 = ((a % 256 : Nat) : Int) := by
  refine (i64_and_nat a 255 (by omega) (by omega)).trans ?_
  exact congrArg _ (Nat.and_two_pow_sub_one_eq_mod a 8)
set_option maxRecDepth 20000 in
set_option maxHeartbeats 1000000 in
theorem valueRC (v : Value) (bs : List UInt8) (w : World) (hv : HoldsB w v bs) (hl : bs.length ≤ 4) :
    Calls Tryz.prog 14 #[v] w fun e w' => e = .returned (.int .i64 (valN bs : Int)) ∧ w' = w := by
  obtain ⟨ao, cap, rfl, _, _, hc⟩ := hv
  have HC := hide' hc
  obtain ⟨n, hn⟩ : ∃ n, n = bs.length := ⟨_, rfl⟩
  have N1 : Hid (bs.length = n) := hn.symm
  have ln : n ≤ 4 := by omega
  rw [N1.out]
  clear hc hl hn
  go_enter Tryz.func14, Tryz.ntmps14
  go_wp2
  go_loopw [3, 4] (fun s i wr => ∃ k : Nat, k ≤ n ∧ i = .int .i64 k ∧ Hid (wr = w) ∧ ∃ v : Nat, Hid (v < 256 ^ k) ∧ s = .int .i64 v ∧ Hid (v = valN (bs.take k))) (fun _ i _ => n - (intOf i).toNat)
  case atStart => exact ⟨0, by omega, rfl, rfl, 0, by unfold Hid; decide, rfl, rfl⟩
  case round =>
    obtain ⟨k, hk, rfl, hw, v, hv, rfl, hV⟩ := hrel
    have hw' := hw.out.symm
    subst hw'
    by_cases hlt : k < n
    · have G1 : Hid (k < bs.length) := by unfold Hid; rw [N1.out]; exact hlt
      obtain ⟨b, off, e, hb, hcell⟩ := HC.out (fun e => by have := G1.out; rw [e] at this; exact absurd this (Nat.not_lt_zero _))
      subst e
      have x1 := hcell k G1.out
      unfold B at x1
      have E : Hid (v * 256 + (bs[k]'G1.out).toNat = valN (bs.take (k + 1))) := by
        unfold Hid; rw [List.take_succ_eq_append_getElem G1.out, valN_snoc, ← hV.out]
      have hvl : v < 16777216 := Nat.lt_of_lt_of_le hv.out (Nat.le_trans (Nat.pow_le_pow_right (by decide) (show k ≤ 3 by omega)) (by decide))
      have hcl : ((bs[k]'G1.out).toNat : Int) ≤ 255 := (byte_lt _).2
      have E2 : Hid (v * 256 + (bs[k]'G1.out).toNat < 256 ^ (k + 1)) := by
        unfold Hid; have := hv.out; have := (bs[k]'G1.out).toNat_lt; rw [Nat.pow_succ]; omega
      generalize (bs[k]'G1.out).toNat = c at x1 E hcl E2
      clear hV hcell hv
      go_wp2
      go_roundw
      case rel => exact ⟨k + 1, by omega, by go_num, (by unfold Hid; first | trivial | rfl), v * 256 + c, E2, by first | rfl | go_num | (congr 1; omega), E⟩
      case measure => simp [intOf]; omega
    · have E : Hid (valN bs = v) := by
        unfold Hid; rw [hV.out, List.take_of_length_le (by rw [N1.out]; omega)]
      go_wp2
      go_ret
      rw [E.out]
      exact ⟨rfl, rfl⟩
end Go.Proofs.YtenegcoapejbmaaGreatDoor
namespace Go.Proofs.YtenegcoapejbmaaGreatDoor
open Go.RowKit
theorem be_byte (n k m : Nat) (hm : m = 256 ^ k) : ((n / m % 256 : Nat) : Int) = ((UInt8.ofNat (n / 256 ^ k)).toNat : Int) := by
  subst hm
  rw [ofNat_mod]
/-- what a new block with these bytes holds -/
theorem own_bytes (w : World) (l : List UInt8) (n : Nat) (hn : n = l.length) (vs : Array Value) (hv : vs = (l.map B).toArray) (hl : l.length ≤ 1000000) : Own w (.slice (some ⟨w.heap.size, 0, none⟩) n n) l (w.alloc (.cells vs 5)) := by
  subst hv hn
  refine ⟨?_, (Below.refl _ _).alloc (Nat.le_refl _) _⟩
  have h := World.ownsRow_lit (base := w.heap.size) (e := 5) (size := 1) w (l.map B).toArray l.length (Nat.le_refl _) (by unfold maxLen; omega) (by simp)
  simpa using h
theorem make2 (w : World) : (Instr.makeSlice 22 (.int .i64 2) (.int .i64 2)).run Tryz.prog w = .ok (.slice (some ⟨w.heap.size, 0, none⟩) 2 2) (w.alloc (.cells #[.int .u8 0, .int .u8 0] 5)) := by
  have h := run_make_row' (P := Tryz.prog) 22 5 (.int .u8 0) 1 Tryz.underlying22 Tryz.info5 rfl .i64 .i64 2 (by decide) (by decide) w
  rw [show madeCells #[Value.int .u8 0] 2 = #[.int .u8 0, .int .u8 0] from Array.ext' (by rw [toList_madeCells_one]; rfl)] at h
  exact h
theorem make4 (w : World) : (Instr.makeSlice 22 (.int .i64 4) (.int .i64 4)).run Tryz.prog w = .ok (.slice (some ⟨w.heap.size, 0, none⟩) 4 4) (w.alloc (.cells #[.int .u8 0, .int .u8 0, .int .u8 0, .int .u8 0] 5)) := by
  have h := run_make_row' (P := Tryz.prog) 22 5 (.int .u8 0) 1 Tryz.underlying22 Tryz.info5 rfl .i64 .i64 4 (by decide) (by decide) w
  rw [show madeCells #[Value.int .u8 0] 4 = #[.int .u8 0, .int .u8 0, .int .u8 0, .int .u8 0] from Array.ext' (by rw [toList_madeCells_one]; rfl)] at h
  exact h
set_option maxRecDepth 20000 in
set_option maxHeartbeats 1000000 in
theorem number2RC (n : Nat) (w : World) (hn : n < 65536) :
    Calls Tryz.prog 35 #[.int .i64 (n : Int), .int .i64 2] w fun e w' => ∃ u, e = .returned u ∧ Own w u (beN 2 n) w' := by
  have a0 := and_255 n (by omega)
  have a1 := and_255 (n / 256) (by omega)
  rw [← show (n : Int) / 256 = ((n / 256 : Nat) : Int) by omega] at a1
  have b0 := hide' (be_byte n 0 1 (by decide))
  have c0 : Hid ((n : Int) % 256 = ((n / 1 % 256 : Nat) : Int)) := by unfold Hid; omega
  have b1 := hide' (be_byte n 1 256 (by decide))
  have c1 : Hid ((n : Int) / 256 % 256 = ((n / 256 % 256 : Nat) : Int)) := by unfold Hid; omega
  have hmk := make2
  have E : Hid (#[Value.int .u8 ((n : Int) / 256 % 256), Value.int .u8 ((n : Int) % 256)] = ((beN 2 n).map B).toArray) := by
    unfold Hid
    show _ = #[Value.int .u8 ((UInt8.ofNat (n / 256 ^ 1)).toNat : Int), .int .u8 ((UInt8.ofNat (n / 256 ^ 0)).toNat : Int)]
    rw [c1.out, b1.out, c0.out, b0.out]
  go_enter Tryz.func35, Tryz.ntmps35
  go_wp2
  go_rounds 3
  go_ret
  exact ⟨_, rfl, own_bytes w (beN 2 n) 2 (beN_len 2 n).symm _ E.out (by rw [beN_len]; omega)⟩
set_option maxRecDepth 20000 in
set_option maxHeartbeats 1000000 in
theorem number4RC (n : Nat) (w : World) (hn : n < 4294967296) :
    Calls Tryz.prog 35 #[.int .i64 (n : Int), .int .i64 4] w fun e w' => ∃ u, e = .returned u ∧ Own w u (beN 4 n) w' := by
  have a0 := and_255 n (by omega)
  have a1 := and_255 (n / 256) (by omega)
  rw [← show (n : Int) / 256 = ((n / 256 : Nat) : Int) by omega] at a1
  have a2 := and_255 (n / 256 / 256) (by omega)
  rw [← show (n : Int) / 256 / 256 = ((n / 256 / 256 : Nat) : Int) by omega] at a2
  have a3 := and_255 (n / 256 / 256 / 256) (by omega)
  rw [← show (n : Int) / 256 / 256 / 256 = ((n / 256 / 256 / 256 : Nat) : Int) by omega] at a3
  have b0 := hide' (be_byte n 0 1 (by decide))
  have c0 : Hid ((n : Int) % 256 = ((n / 1 % 256 : Nat) : Int)) := by unfold Hid; omega
  have b1 := hide' (be_byte n 1 256 (by decide))
  have c1 : Hid ((n : Int) / 256 % 256 = ((n / 256 % 256 : Nat) : Int)) := by unfold Hid; omega
  have b2 := hide' (be_byte n 2 65536 (by decide))
  have c2 : Hid ((n : Int) / 256 / 256 % 256 = ((n / 65536 % 256 : Nat) : Int)) := by unfold Hid; omega
  have b3 := hide' (be_byte n 3 16777216 (by decide))
  have c3 : Hid ((n : Int) / 256 / 256 / 256 % 256 = ((n / 16777216 % 256 : Nat) : Int)) := by unfold Hid; omega
  have hmk := make4
  have E : Hid (#[Value.int .u8 ((n : Int) / 256 / 256 / 256 % 256), Value.int .u8 ((n : Int) / 256 / 256 % 256), Value.int .u8 ((n : Int) / 256 % 256), Value.int .u8 ((n : Int) % 256)] = ((beN 4 n).map B).toArray) := by
    unfold Hid
    show _ = #[Value.int .u8 ((UInt8.ofNat (n / 256 ^ 3)).toNat : Int), .int .u8 ((UInt8.ofNat (n / 256 ^ 2)).toNat : Int), .int .u8 ((UInt8.ofNat (n / 256 ^ 1)).toNat : Int), .int .u8 ((UInt8.ofNat (n / 256 ^ 0)).toNat : Int)]
    rw [c3.out, b3.out, c2.out, b2.out, c1.out, b1.out, c0.out, b0.out]
  go_enter Tryz.func35, Tryz.ntmps35
  go_wp2
  go_rounds 5
  go_ret
  exact ⟨_, rfl, own_bytes w (beN 4 n) 4 (beN_len 4 n).symm _ E.out (by rw [beN_len]; omega)⟩
end Go.Proofs.YtenegcoapejbmaaGreatDoor
namespace Go.Proofs.YtenegcoapejbmaaGreatDoor
open Go.RowKit
theorem sub_holds {w : World} {b off cap k m : Nat} {bs : List UInt8} (hk : k ≤ m) (hm : m ≤ bs.length) (hcp : bs.length ≤ cap) (hlt : b < w.heap.size) (hcell : ∀ j (h : j < bs.length), w.cell? ⟨b, off + j, none⟩ = some (B bs[j])) :
    HoldsB w (.slice (some ⟨b, off + k, none⟩) (m - k) (cap - k)) ((bs.drop k).take (m - k)) := by
  have hl : ((bs.drop k).take (m - k)).length = m - k := by rw [List.length_take, List.length_drop]; omega
  refine ⟨_, _, by rw [hl], (fun e => by cases e), by omega, fun _ => ⟨b, off + k, rfl, hlt, fun j hj => ?_⟩⟩
  rw [Nat.add_assoc, hcell (k + j) (by omega)]
  simp
theorem midB {w : World} {v : Value} {bs : List UInt8} (h : HoldsB w v bs) (k m : Nat) (hk : k ≤ m) (hm : m ≤ bs.length) :
    ∃ pv, (∀ W, Sem.run Tryz.prog (Instr.slice 22 v (some (.int .i64 (k : Int))) (some (.int .i64 (m : Int))) none) W = .ok pv W) ∧ HoldsB w pv ((bs.drop k).take (m - k)) := by
  obtain ⟨ao, cap, rfl, h0, hcp, hc⟩ := h
  have hel : Tryz.prog.elem 22 = 5 := by kernel_rfl
  have hh : ∀ W, Sem.run Tryz.prog (Instr.slice 22 (.slice ao bs.length cap) (some (.int .i64 (k : Int))) (some (.int .i64 (m : Int))) none) W = .ok (sliced ao k m cap 1) W := by
    intro W
    have h := run_slice_lh (P := Tryz.prog) W 22 ao bs.length cap (by rw [hel]; exact Tryz.underlying22) .i64 .i64 k m (by omega) (by omega) (by omega)
    rw [hel, Tryz.sizeOf5] at h
    simp only [Result.andThen, Int.toNat_natCast] at h
    exact h
  refine ⟨_, hh, ?_⟩
  unfold sliced
  by_cases hz : k < bs.length
  · obtain ⟨b, off, rfl, hlt, hcell⟩ := hc (by intro e; rw [e] at hz; simp at hz)
    rw [if_neg (by omega), Nat.mul_one, Option.map_some, Go.WideShapes.add_plain]
    exact sub_holds hk hm hcp hlt hcell
  · have hl : (bs.drop k).take (m - k) = [] := by rw [List.take_eq_nil_iff]; exact .inl (by omega)
    rw [hl]
    have hz : m - k = 0 := by omega
    rw [hz]
    cases ao with
    | none =>
      have := h0 rfl
      subst this
      refine ⟨none, 0, ?_, fun _ => rfl, Nat.le_refl _, fun h => absurd rfl h⟩
      simp
    | some ad =>
      by_cases hq : cap = k
      · refine ⟨some ad, 0, ?_, (fun h => by cases h), Nat.le_refl _, fun h => absurd rfl h⟩
        simp [hq]
      · refine ⟨some (ad.add k), cap - k, ?_, (fun h => by cases h), Nat.zero_le _, fun h => absurd rfl h⟩
        simp [hq]
theorem takeB {w : World} {v : Value} {bs : List UInt8} (h : HoldsB w v bs) (k : Nat) (hk : k ≤ bs.length) : ∃ pv, (∀ W, Sem.run Tryz.prog (Instr.slice 22 v none (some (.int .i64 (k : Int))) none) W = .ok pv W) ∧ HoldsB w pv (bs.take k) := by
  have h' := h
  obtain ⟨ao, cap, rfl, h0, hc, _⟩ := h'
  refine ⟨.slice ao k cap, fun W => ?_, holdsB_pre h k hk⟩
  have hel : Tryz.prog.elem 22 = 5 := by kernel_rfl
  have hh := run_slice_h (P := Tryz.prog) W 22 ao bs.length cap (by rw [hel]; exact Tryz.underlying22) .i64 k (by omega) (by omega)
  rw [hel, Tryz.sizeOf5] at hh
  simp only [Result.andThen, Int.toNat_natCast, sliced] at hh
  rw [hh]
  by_cases hz : cap = 0
  · subst hz
    obtain rfl : k = 0 := by omega
    cases ao <;> simp
  · simp [Addr.add]
theorem conv_holds {w : World} {v : Value} {bs : List UInt8} (h : HoldsB w v bs) : Sem.run Tryz.prog (convert 22 9 v) w = .ok (.string ⟨bs.toArray⟩) w := by
  obtain ⟨ao, cap, rfl, h0, hcp, hc⟩ := h
  by_cases hz : bs = []
  · subst hz
    rw [run_convert_bytes_string w 22 9 5 _ _ _ Tryz.underlying22 Tryz.underlying5 Tryz.underlying9]
    cases ao with
    | none =>
      unfold Conv.bytesToString
      simp [Sem.run_pure]
      rfl
    | some ad =>
      have hl : (loadCells ad 0).run Tryz.prog w = .ok ((([] : List UInt8).map (fun c => (c.toNat : Int))).map (Value.int .u8)).toArray w := by
        have := run_loadCells_list (P := Tryz.prog) (w := w) ad ([] : List Value) (fun j v hv => by simp at hv)
        simpa using this
      rw [List.length_nil, run_bytesToString w _ _ _ _ hl, fold_push]
      simp
  · obtain ⟨b, off, rfl, hlt, hcell⟩ := hc hz
    have hl : (loadCells ⟨b, off, none⟩ bs.length).run Tryz.prog w = .ok ((bs.map (fun c => (c.toNat : Int))).map (Value.int .u8)).toArray w := by
      have := run_loadCells_list (P := Tryz.prog) (w := w) ⟨b, off, none⟩ (bs.map B) (fun j v hv => by
        obtain ⟨hj1, hj2⟩ := List.getElem?_eq_some_iff.1 hv
        rw [List.length_map] at hj1
        rw [Go.WideShapes.add_plain, hcell j hj1, ← hj2]
        simp)
      simpa [map_B] using this
    rw [run_convert_bytes_string w 22 9 5 _ _ _ Tryz.underlying22 Tryz.underlying5 Tryz.underlying9, run_bytesToString w _ _ _ _ hl, fold_push]
    simp
end Go.Proofs.YtenegcoapejbmaaGreatDoor
namespace Go.Proofs.YtenegcoapejbmaaGreatDoor
open Go.RowKit
def mks : List UInt8 := [201, 202, 203, 204, 205, 206, 207, 208]
theorem mks_at : ∀ k (h : k < mks.length), ((mks[k]).toNat : Int) = 201 + (k : Int) := by
  intro k h
  have : ∀ j : Fin 8, ((mks[j.val]'(show j.val < mks.length from j.isLt)).toNat : Int) = 201 + (j.val : Int) := by decide
  exact this ⟨k, h⟩
set_option maxHeartbeats 1000000 in
theorem spareC (v : Value) (bs : List UInt8) (w : World) (hv : HoldsB w v bs) (hl : bs.length ≤ 140737488355000) :
    Calls Tryz.prog 5 #[v] w fun e w' => ∃ u, e = .returned u ∧ Own w u (bs ++ mks) w' := by
  have c0 := hide' (copyB v bs w hv (by omega))
  clear hv
  go_enter Tryz.func5, Tryz.ntmps5
  go_wp2_with fail
  refine c0.out.mono ?_
  rintro e w1 ⟨u, rfl, ho⟩
  have HO := hide' ho
  clear ho c0
  go_wp2
  go_loopw [3, 4] (fun v i wr => ∃ k : Nat, k ≤ 8 ∧ i = .int .i64 k ∧ Hid (Own w v (bs ++ mks.take k) wr)) (fun _ i _ => 8 - (intOf i).toNat)
  case atStart => exact ⟨0, by omega, rfl, by unfold Hid; rw [List.take_zero, List.append_nil]; exact HO.out⟩
  case round =>
    obtain ⟨k, hk, rfl, hO⟩ := hrel
    by_cases hlt : k < 8
    · have hm : Hid (((mks[k]'hlt).toNat : Int) = 201 + (k : Int)) := mks_at k hlt
      have ht : Hid (bs ++ mks.take (k + 1) = (bs ++ mks.take k) ++ [mks[k]'hlt]) := by
        unfold Hid; rw [List.take_succ_eq_append_getElem hlt, List.append_assoc]
      have hle : Hid ((bs ++ mks.take k).length + 1 ≤ 140737488355328) := by
        unfold Hid; rw [List.length_append, List.length_take]; have : mks.length = 8 := rfl; omega
      generalize mks[k]'hlt = c at hm ht
      go_wp2_with (at_builtin; refine app1 rfl (.tmp 11) (.tmp 15) rfl w _ _ rfl hO.out c (by rw [hm.out]) rfl hle.out ?_; intro v2 w2 hown2)
      go_roundw
      case rel => exact ⟨k + 1, by omega, by go_num, by unfold Hid; rw [ht.out]; exact hown2⟩
      case measure => simp [intOf]; omega
    · obtain rfl : k = 8 := by omega
      go_wp2
      go_ret
      exact ⟨_, rfl, hO.out⟩
end Go.Proofs.YtenegcoapejbmaaGreatDoor
