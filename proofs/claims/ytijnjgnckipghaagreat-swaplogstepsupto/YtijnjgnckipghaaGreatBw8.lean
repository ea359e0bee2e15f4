/- Records in the document's words, plain: the check sum, numbers of several bytes, a record's bytes, what is read of any bytes; that it is read as it was written, that one byte changed is told. Nothing of the program is named here. The contracts of the check sum: shifted, Sum, and the document's Sum. The contracts of a record's numbers: isOp, fits, opOf, number, appendNumber; the document's Value. The contracts of appendNumber and of the document's Number. A block of four cells that may be written. The contract of rec.Encode. -/
import Derived.Test.YtijnjgnckipghaaGreatBw4
import Derived.Laws.BitsAllLaws
import Derived.Deep.OwnRows
import Derived.Test.YtijnjgnckipghaaGreatBw1
import Derived.Lib.AppendStr
import Derived.OwnWalk
namespace Go.Proofs.YtijnjgnckipghaaGreat
/-- a check sum, moved on by one bit -/
def crcB (v : Nat) : Nat := if v % 2 = 1 then (v / 2) ^^^ 3988292384 else v / 2
def crcN : Nat → Nat → Nat
  | 0, v => v
  | n + 1, v => crcB (crcN n v)
/-- .. by one byte -/
def crcC (v : Nat) (c : UInt8) : Nat := crcN 8 (v ^^^ c.toNat)
def crcL (v : Nat) (l : List UInt8) : Nat := l.foldl crcC v
def sumOf (l : List UInt8) : Nat := crcL 4294967295 l ^^^ 4294967295
theorem crcB_lt {v : Nat} (h : v < 4294967296) : crcB v < 4294967296 := by
  unfold crcB
  split
  · exact Nat.xor_lt_two_pow (n := 32) (by omega) (by decide)
  · omega
theorem crcN_lt (n : Nat) {v : Nat} (h : v < 4294967296) : crcN n v < 4294967296 := by
  induction n with
  | zero => exact h
  | succ n ih => exact crcB_lt ih
theorem crcX_lt {v : Nat} (h : v < 4294967296) (c : UInt8) : v ^^^ c.toNat < 4294967296 :=
  Nat.xor_lt_two_pow (n := 32) h (by have := c.toNat_lt; omega)
theorem crcC_lt {v : Nat} (h : v < 4294967296) (c : UInt8) : crcC v c < 4294967296 := crcN_lt 8 (crcX_lt h c)
theorem crcL_lt (l : List UInt8) : ∀ {v : Nat}, v < 4294967296 → crcL v l < 4294967296 := by
  induction l with
  | nil => intro v h; exact h
  | cons c l ih => intro v h; exact ih (crcC_lt h c)
theorem sumOf_lt (l : List UInt8) : sumOf l < 4294967296 := Nat.xor_lt_two_pow (n := 32) (crcL_lt l (by decide)) (by decide)
theorem crcL_snoc (v : Nat) (l : List UInt8) (c : UInt8) : crcL v (l ++ [c]) = crcC (crcL v l) c := by simp [crcL]
theorem crcL_app (v : Nat) (l m : List UInt8) : crcL v (l ++ m) = crcL (crcL v l) m := by simp [crcL]
theorem odd_high {v : Nat} (h : v < 4294967296) (ho : v % 2 = 1) : (crcB v).testBit 31 = true := by
  unfold crcB
  rw [if_pos ho, Nat.testBit_xor, Nat.testBit_lt_two_pow (x := v / 2) (by omega)]
  decide
theorem even_low {v : Nat} (h : v < 4294967296) (ho : ¬ v % 2 = 1) : (crcB v).testBit 31 = false := by
  unfold crcB
  rw [if_neg ho]
  exact Nat.testBit_lt_two_pow (by omega)
theorem xor_inj {a b c : Nat} (h : a ^^^ c = b ^^^ c) : a = b := by
  have := congrArg (· ^^^ c) h
  simpa [Nat.xor_assoc] using this
theorem xor_injl {a b c : Nat} (h : c ^^^ a = c ^^^ b) : a = b := by
  rw [Nat.xor_comm c a, Nat.xor_comm c b] at h; exact xor_inj h
theorem crcB_inj {a b : Nat} (ha : a < 4294967296) (hb : b < 4294967296) (h : crcB a = crcB b) : a = b := by
  by_cases oa : a % 2 = 1
  · by_cases ob : b % 2 = 1
    · unfold crcB at h
      rw [if_pos oa, if_pos ob] at h
      have := xor_inj h
      omega
    · have h1 := odd_high ha oa
      rw [h, even_low hb ob] at h1
      cases h1
  · by_cases ob : b % 2 = 1
    · have h1 := odd_high hb ob
      rw [← h, even_low ha oa] at h1
      cases h1
    · unfold crcB at h
      rw [if_neg oa, if_neg ob] at h
      omega
theorem crcN_inj (n : Nat) {a b : Nat} (ha : a < 4294967296) (hb : b < 4294967296) (h : crcN n a = crcN n b) : a = b := by
  induction n with
  | zero => exact h
  | succ n ih => exact ih (crcB_inj (crcN_lt n ha) (crcN_lt n hb) h)
theorem crcL_inj (l : List UInt8) : ∀ {a b : Nat}, a < 4294967296 → b < 4294967296 → crcL a l = crcL b l → a = b := by
  induction l with
  | nil => intro a b _ _ h; exact h
  | cons c l ih =>
    intro a b ha hb h
    exact xor_inj (crcN_inj 8 (crcX_lt ha c) (crcX_lt hb c) (ih (crcC_lt ha c) (crcC_lt hb c) h))
/-- two rows that part at one byte alone have unlike sums -/
theorem sum_tells (xs ys : List UInt8) (c d : UInt8) (h : sumOf (xs ++ c :: ys) = sumOf (xs ++ d :: ys)) : c = d := by
  have h1 := xor_inj h
  rw [crcL_app, crcL_app] at h1
  have hv : crcL 4294967295 xs < 4294967296 := crcL_lt xs (by decide)
  have h2 := crcL_inj ys (crcC_lt hv c) (crcC_lt hv d) h1
  exact UInt8.toNat_inj.1 (xor_injl (crcN_inj 8 (crcX_lt hv c) (crcX_lt hv d) h2))
/-- a number in so many bytes, the greatest first -/
def beN : Nat → Nat → List UInt8
  | 0, _ => []
  | k + 1, v => UInt8.ofNat (v / 256 ^ k) :: beN k v
def valA (a : Nat) (l : List UInt8) : Nat := l.foldl (fun n c => n * 256 + c.toNat) a
def valN (l : List UInt8) : Nat := valA 0 l
theorem beN_len (k v : Nat) : (beN k v).length = k := by
  induction k with
  | zero => rfl
  | succ k ih => simp [beN, ih]
theorem valA_eq (l : List UInt8) : ∀ a, valA a l = a * 256 ^ l.length + valA 0 l := by
  induction l with
  | nil => intro a; simp [valA]
  | cons c l ih =>
    intro a
    show valA (a * 256 + c.toNat) l = _ + valA (0 * 256 + c.toNat) l
    rw [ih, ih (0 * 256 + c.toNat), List.length_cons, Nat.pow_succ, Nat.zero_mul, Nat.zero_add, Nat.add_mul, Nat.mul_assoc, Nat.mul_comm 256, Nat.add_assoc]
theorem valN_cons (c : UInt8) (l : List UInt8) : valN (c :: l) = c.toNat * 256 ^ l.length + valN l := by
  show valA (0 * 256 + c.toNat) l = _
  rw [valA_eq, Nat.zero_mul, Nat.zero_add]; rfl
theorem valN_snoc (l : List UInt8) (c : UInt8) : valN (l ++ [c]) = valN l * 256 + c.toNat := by simp [valN, valA]
theorem valN_lt (l : List UInt8) : valN l < 256 ^ l.length := by
  induction l with
  | nil => decide
  | cons c l ih =>
    rw [valN_cons, List.length_cons, Nat.pow_succ]
    have h := c.toNat_lt
    have : c.toNat * 256 ^ l.length + 256 ^ l.length ≤ 256 ^ l.length * 256 := by
      have := Nat.mul_le_mul_right (256 ^ l.length) (show c.toNat + 1 ≤ 256 by omega)
      rw [Nat.add_mul, Nat.one_mul] at this
      rw [Nat.mul_comm (256 ^ l.length) 256]
      exact this
    omega
theorem ofNat_mod (n : Nat) : (UInt8.ofNat n).toNat = n % 256 := by simp
theorem valN_be (k v : Nat) : valN (beN k v) = v % 256 ^ k := by
  induction k with
  | zero => rw [Nat.pow_zero, Nat.mod_one]; rfl
  | succ k ih =>
    show valN (_ :: beN k v) = _
    rw [valN_cons, beN_len, ih, ofNat_mod, Nat.pow_succ, Nat.mod_mul, Nat.mul_comm, Nat.add_comm]
theorem valN_be' (k v : Nat) (h : v < 256 ^ k) : valN (beN k v) = v := by rw [valN_be, Nat.mod_eq_of_lt h]
theorem beN_app (k : Nat) (v : Nat) (m : Nat) : beN k (m * 256 ^ k + v) = beN k v := by
  induction k generalizing m with
  | zero => rfl
  | succ k ih =>
    show UInt8.ofNat _ :: beN k _ = UInt8.ofNat _ :: beN k _
    congr 1
    · apply UInt8.toNat_inj.1
      rw [ofNat_mod, ofNat_mod, Nat.pow_succ, Nat.mul_comm (256 ^ k) 256, ← Nat.mul_assoc, Nat.add_comm, Nat.add_mul_div_right _ _ (Nat.pow_pos (by decide)), Nat.add_mul_mod_self_right]
    · rw [Nat.pow_succ, Nat.mul_comm (256 ^ k) 256, ← Nat.mul_assoc]
      exact ih (m * 256)
theorem beN_val (l : List UInt8) : beN l.length (valN l) = l := by
  induction l with
  | nil => rfl
  | cons c l ih =>
    rw [valN_cons, List.length_cons]
    show UInt8.ofNat _ :: beN l.length _ = _
    rw [beN_app, ih]
    congr 1
    apply UInt8.toNat_inj.1
    rw [ofNat_mod, Nat.add_comm, Nat.add_mul_div_right _ _ (Nat.pow_pos (by decide)), Nat.div_eq_of_lt (valN_lt l), Nat.zero_add]
    have := c.toNat_lt
    omega
/-- all of a record but its check sum -/
def recB (op seq no : Nat) (id : List UInt8) : List UInt8 := UInt8.ofNat (192 + op) :: (beN 2 id.length ++ (beN 4 seq ++ (beN 4 no ++ id)))
def recL (op seq no : Nat) (id : List UInt8) : List UInt8 := recB op seq no id ++ beN 4 (sumOf (recB op seq no id))
theorem recB_len (op seq no : Nat) (id : List UInt8) : (recB op seq no id).length = 11 + id.length := by simp [recB, beN_len]; omega
theorem recL_len (op seq no : Nat) (id : List UInt8) : (recL op seq no id).length = 15 + id.length := by rw [recL, List.length_append, recB_len, beN_len]; omega
/-- what Encode answers: seq, op, no are any integers -/
def encOf (seq op no : Int) (id : List UInt8) : List UInt8 × Int :=
  if (op = 1 ∨ op = 2) ∧ (0 ≤ seq ∧ seq ≤ 4294967295) ∧ (0 ≤ no ∧ no ≤ 4294967295) then
    (if id.length ≤ 4096 then (recL op.toNat seq.toNat no.toNat id, 0) else ([], 101))
  else ([], 100)
/-- a record as it is read: seq, op, no, id; its length; the error -/
structure RecD where
  seq : Nat
  op : Nat
  no : Nat
  id : List UInt8
  n : Nat
  e : Int
def decErr (e : Int) : RecD := ⟨0, 0, 0, [], 0, e⟩
def midN (l : List UInt8) (a b : Nat) : List UInt8 := (l.drop a).take (b - a)
def decOf (l : List UInt8) : RecD :=
  if l.length = 0 then decErr 0
  else if ¬ ((l[0]?.getD 0).toNat = 193 ∨ (l[0]?.getD 0).toNat = 194) then decErr 100
  else if l.length < 3 then decErr 0
  else if 4096 < valN (midN l 1 3) then decErr 100
  else if l.length < valN (midN l 1 3) + 15 then decErr 0
  else if valN (midN l (valN (midN l 1 3) + 11) (valN (midN l 1 3) + 15)) = sumOf (l.take (valN (midN l 1 3) + 11)) then
    ⟨valN (midN l 3 7), (l[0]?.getD 0).toNat - 192, valN (midN l 7 11), midN l 11 (valN (midN l 1 3) + 11), valN (midN l 1 3) + 15, 0⟩
  else decErr 100
end Go.Proofs.YtijnjgnckipghaaGreat
namespace Go.Proofs.YtijnjgnckipghaaGreat
open Go.RowKit
theorem crc_odd {v : Nat} (h : v < 4294967296) (ho : v % 2 = 1) : bits .xor .u32 ((v : Int) / 2) 3988292384 = (crcB v : Int) := by
  have e : ((v : Int) / 2) = ((v / 2 : Nat) : Int) := by omega
  rw [e]
  refine (u32_xor_nat (v / 2) 3988292384 (by omega) (by omega)).trans ?_
  unfold crcB
  rw [if_pos ho]
theorem crc_even {v : Nat} (ho : ¬ v % 2 = 1) : ((v : Int) / 2) = (crcB v : Int) := by
  unfold crcB
  rw [if_neg ho]
  omega
theorem and_one {v : Nat} (h : v < 4294967296) : bits .and .u32 (v : Int) 1 = ((v % 2 : Nat) : Int) := by
  refine (u32_and_nat v 1 h (by omega)).trans ?_
  rw [Nat.and_one_is_mod]
theorem xor_byte {v : Nat} (h : v < 4294967296) (c : UInt8) : bits .xor .u32 (v : Int) (c.toNat : Int) = ((v ^^^ c.toNat : Nat) : Int) :=
  u32_xor_nat v c.toNat h (by have := c.toNat_lt; omega)
theorem xor_ones {v : Nat} (h : v < 4294967296) : bits .xor .u32 (v : Int) 4294967295 = ((v ^^^ 4294967295 : Nat) : Int) :=
  u32_xor_nat v 4294967295 h (by omega)
theorem ones_xor {v : Nat} (h : v < 4294967296) : bits .xor .u32 IntKind.u32.max (v : Int) = ((v ^^^ 4294967295 : Nat) : Int) := by
  rw [Nat.xor_comm]
  exact u32_xor_nat 4294967295 v (by omega) h
set_option maxHeartbeats 400000 in
theorem shiftedC (v : Nat) (h : v < 4294967296) (w : World) :
    Calls Tryz.prog 102 #[.int .u32 (v : Int)] w fun e w' => e = .returned (.int .u32 (crcB v : Int)) ∧ w' = w := by
  have a1 := and_one h
  by_cases ho : v % 2 = 1
  · rw [ho] at a1
    have a2 := crc_odd h ho
    generalize crcB v = y at a2 ⊢
    go_enter Tryz.func102, Tryz.ntmps102
    go_wp2
    go_ret
    exact ⟨rfl, rfl⟩
  · have a3 : v % 2 = 0 := by omega
    rw [a3] at a1
    have a2 := crc_even ho
    generalize crcB v = y at a2 ⊢
    go_enter Tryz.func102, Tryz.ntmps102
    go_wp2
    go_ret
    exact ⟨rfl, rfl⟩
set_option maxRecDepth 20000 in
set_option maxHeartbeats 1000000 in
theorem sumC (v : Value) (bs : List UInt8) (w : World) (hv : HoldsB w v bs) (hl : bs.length ≤ 1000000000000000) :
    Calls Tryz.prog 86 #[v] w fun e w' => e = .returned (.int .i64 (sumOf bs : Int)) ∧ w' = w := by
  obtain ⟨ao, cap, rfl, _, _, hc⟩ := hv
  have HC := hide' hc
  obtain ⟨n, hn⟩ : ∃ n, n = bs.length := ⟨_, rfl⟩
  have N1 : Hid (bs.length = n) := hn.symm
  have ln : n ≤ 1000000000000000 := by omega
  rw [N1.out]
  clear hc hl hn
  go_enter Tryz.func86, Tryz.ntmps86
  go_wp2
  go_loopw [3, 8] (fun s i wr => ∃ k : Nat, k ≤ n ∧ i = .int .i64 k ∧ Hid (wr = w) ∧ ∃ v : Nat, v < 4294967296 ∧ s = .int .u32 v ∧ Hid (v = crcL 4294967295 (bs.take k))) (fun _ i _ => n - (intOf i).toNat)
  case atStart => exact ⟨0, by omega, rfl, rfl, 4294967295, by decide, rfl, rfl⟩
  case round =>
    obtain ⟨k, hk, rfl, hw, v, hv, rfl, hV⟩ := hrel
    have hw' := hw.out.symm
    subst hw'
    by_cases hlt : k < n
    · have G1 : Hid (k < bs.length) := by unfold Hid; rw [N1.out]; exact hlt
      obtain ⟨b, off, e, hb, hcell⟩ := HC.out (fun e => by have := G1.out; rw [e] at this; exact absurd this (Nat.not_lt_zero _))
      subst e
      have x1 := hcell k G1.out
      unfold B at x1
      have E : Hid (crcL 4294967295 (bs.take (k + 1)) = crcN 8 (v ^^^ (bs[k]'G1.out).toNat)) := by
        unfold Hid; rw [List.take_succ_eq_append_getElem G1.out, crcL_snoc, ← hV.out]; rfl
      have hx := xor_byte hv (bs[k]'G1.out)
      have hxl := crcX_lt hv (bs[k]'G1.out)
      have hcl : ((bs[k]'G1.out).toNat : Int) ≤ 255 := (byte_lt _).2
      generalize (bs[k]'G1.out).toNat = c at x1 E hx hcl hxl
      generalize v ^^^ c = x at E hx hxl
      clear hV hcell
      go_wp2
      go_loopw [3, 16] (fun s i wr => ∃ j : Nat, j ≤ 8 ∧ i = .int .i64 j ∧ Hid (wr = w) ∧ ∃ u : Nat, u < 4294967296 ∧ s = .int .u32 u ∧ Hid (u = crcN j x)) (fun _ i _ => 8 - (intOf i).toNat)
      case atStart => exact ⟨0, by omega, rfl, rfl, x, hxl, rfl, rfl⟩
      case round =>
        obtain ⟨j, hj, rfl, hw2, u, hu, rfl, hU⟩ := hrel
        have hw2' := hw2.out.symm
        subst hw2'
        by_cases hjl : j < 8
        · have cS := hide' (shiftedC u hu w)
          have hu2 := crcB_lt hu
          have E2 : Hid (crcB u = crcN (j + 1) x) := by unfold Hid; rw [hU.out]; rfl
          generalize crcB u = y at cS hu2 E2
          go_wp2_with fail
          refine cS.out.mono ?_
          rintro e w9 ⟨rfl, ew⟩
          rw [ew]; clear ew w9 cS
          go_wp2_with fail
          go_roundw
          case rel => exact ⟨j + 1, by omega, by go_num, (by unfold Hid; first | trivial | rfl), y, hu2, rfl, E2⟩
          case measure => simp [intOf]; omega
        · obtain rfl : j = 8 := by omega
          go_wp2_with fail
          go_roundw
          case rel => exact ⟨k + 1, by omega, by go_num, (by unfold Hid; first | trivial | rfl), u, hu, rfl, by unfold Hid; rw [E.out, hU.out]⟩
          case measure => simp [intOf]; omega
    · have hx := ones_xor hv
      have E : Hid (sumOf bs = v ^^^ 4294967295) := by
        unfold Hid; rw [hV.out, List.take_of_length_le (by rw [N1.out]; omega)]; rfl
      have hxl : v ^^^ 4294967295 < 4294967296 := Nat.xor_lt_two_pow (n := 32) hv (by decide)
      generalize v ^^^ 4294967295 = y at hx E hxl
      have h64 : wrap64 (y : Int) = y := by unfold wrap64; omega
      go_wp2
      go_ret
      rw [E.out]
      exact ⟨rfl, rfl⟩
set_option maxRecDepth 20000 in
set_option maxHeartbeats 1000000 in
theorem sumRC (v : Value) (bs : List UInt8) (w : World) (hv : HoldsB w v bs) (hl : bs.length ≤ 1000000000000000) :
    Calls Tryz.prog 73 #[v] w fun e w' => e = .returned (.int .i64 (sumOf bs : Int)) ∧ w' = w := by
  obtain ⟨ao, cap, rfl, _, _, hc⟩ := hv
  have HC := hide' hc
  obtain ⟨n, hn⟩ : ∃ n, n = bs.length := ⟨_, rfl⟩
  have N1 : Hid (bs.length = n) := hn.symm
  have ln : n ≤ 1000000000000000 := by omega
  rw [N1.out]
  clear hc hl hn
  go_enter Tryz.func73, Tryz.ntmps73
  go_wp2
  go_loopw [3, 4] (fun s i wr => ∃ k : Nat, k ≤ n ∧ i = .int .i64 k ∧ Hid (wr = w) ∧ ∃ v : Nat, v < 4294967296 ∧ s = .int .u32 v ∧ Hid (v = crcL 4294967295 (bs.take k))) (fun _ i _ => n - (intOf i).toNat)
  case atStart => exact ⟨0, by omega, rfl, rfl, 4294967295, by decide, rfl, rfl⟩
  case round =>
    obtain ⟨k, hk, rfl, hw, v, hv, rfl, hV⟩ := hrel
    have hw' := hw.out.symm
    subst hw'
    by_cases hlt : k < n
    · have G1 : Hid (k < bs.length) := by unfold Hid; rw [N1.out]; exact hlt
      obtain ⟨b, off, e, hb, hcell⟩ := HC.out (fun e => by have := G1.out; rw [e] at this; exact absurd this (Nat.not_lt_zero _))
      subst e
      have x1 := hcell k G1.out
      unfold B at x1
      have E : Hid (crcL 4294967295 (bs.take (k + 1)) = crcN 8 (v ^^^ (bs[k]'G1.out).toNat)) := by
        unfold Hid; rw [List.take_succ_eq_append_getElem G1.out, crcL_snoc, ← hV.out]; rfl
      have hx := xor_byte hv (bs[k]'G1.out)
      have hxl := crcX_lt hv (bs[k]'G1.out)
      have hcl : ((bs[k]'G1.out).toNat : Int) ≤ 255 := (byte_lt _).2
      generalize (bs[k]'G1.out).toNat = c at x1 E hx hcl hxl
      generalize v ^^^ c = x at E hx hxl
      clear hV hcell
      go_wp2
      go_loopw [3, 5] (fun s i wr => ∃ j : Nat, j ≤ 8 ∧ i = .int .i64 j ∧ Hid (wr = w) ∧ ∃ u : Nat, u < 4294967296 ∧ s = .int .u32 u ∧ Hid (u = crcN j x)) (fun _ i _ => 8 - (intOf i).toNat)
      case atStart => exact ⟨0, by omega, rfl, rfl, x, hxl, rfl, rfl⟩
      case round =>
        obtain ⟨j, hj, rfl, hw2, u, hu, rfl, hU⟩ := hrel
        have hw2' := hw2.out.symm
        subst hw2'
        by_cases hjl : j < 8
        · have hu2 := crcB_lt hu
          have E2 : Hid (crcB u = crcN (j + 1) x) := by unfold Hid; rw [hU.out]; rfl
          have td : (u : Int).tdiv 2 = (u : Int) / 2 := Int.tdiv_eq_ediv_of_nonneg (by omega)
          have tm : (u : Int).tmod 2 = (u : Int) % 2 := Int.tmod_eq_emod_of_nonneg (by omega)
          by_cases ho : u % 2 = 1
          · have a1 : (u : Int) % 2 = 1 := by omega
            have a2 := crc_odd hu ho
            generalize crcB u = y at a2 hu2 E2
            go_wp2_with fail
            go_roundw
            case rel => exact ⟨j + 1, by omega, by go_num, (by unfold Hid; first | trivial | rfl), y, hu2, by first | rfl | (congr 1), E2⟩
            case measure => simp [intOf]; omega
          · have a1 : (u : Int) % 2 = 0 := by omega
            have a2 := crc_even ho
            generalize crcB u = y at a2 hu2 E2
            go_wp2_with fail
            go_roundw
            case rel => exact ⟨j + 1, by omega, by go_num, (by unfold Hid; first | trivial | rfl), y, hu2, by first | rfl | (congr 1), E2⟩
            case measure => simp [intOf]; omega
        · obtain rfl : j = 8 := by omega
          go_wp2_with fail
          go_roundw
          case rel => exact ⟨k + 1, by omega, by go_num, (by unfold Hid; first | trivial | rfl), u, hu, rfl, by unfold Hid; rw [E.out, hU.out]⟩
          case measure => simp [intOf]; omega
    · have hx := xor_ones hv
      have E : Hid (sumOf bs = v ^^^ 4294967295) := by
        unfold Hid; rw [hV.out, List.take_of_length_le (by rw [N1.out]; omega)]; rfl
      have hxl : v ^^^ 4294967295 < 4294967296 := Nat.xor_lt_two_pow (n := 32) hv (by decide)
      generalize v ^^^ 4294967295 = y at hx E hxl
      have h64 : wrap64 (y : Int) = y := by unfold wrap64; omega
      go_wp2
      go_ret
      rw [E.out]
      exact ⟨rfl, rfl⟩
end Go.Proofs.YtijnjgnckipghaaGreat
namespace Go.Proofs.YtijnjgnckipghaaGreat
open Go.RowKit
theorem ofInt_i64 (a : Nat) (ha : a < 4611686018427387904) : (BitVec.ofInt 64 (a : Int)).toNat = a := by
  rw [BitVec.ofInt_natCast, BitVec.toNat_ofNat]; exact Nat.mod_eq_of_lt (by omega)
theorem i64_or_nat (a b : Nat) (ha : a < 4611686018427387904) (hb : b < 4611686018427387904) : bits .or .i64 (a : Int) (b : Int) = ((a ||| b : Nat) : Int) := by
  have hx : a ||| b < 2 ^ 62 := Nat.or_lt_two_pow (by omega) (by omega)
  show IntKind.i64.wrap ((BitVec.ofInt 64 (a : Int) ||| BitVec.ofInt 64 (b : Int)).toNat : Int) = _
  rw [BitVec.toNat_or, ofInt_i64 a ha, ofInt_i64 b hb, IntKind.wrap_i64]
  omega
theorem i64_and_nat (a b : Nat) (ha : a < 4611686018427387904) (hb : b < 4611686018427387904) : bits .and .i64 (a : Int) (b : Int) = ((a &&& b : Nat) : Int) := by
  have hx : a &&& b < 2 ^ 62 := Nat.and_lt_two_pow _ (by omega)
  show IntKind.i64.wrap ((BitVec.ofInt 64 (a : Int) &&& BitVec.ofInt 64 (b : Int)).toNat : Int) = _
  rw [BitVec.toNat_and, ofInt_i64 a ha, ofInt_i64 b hb, IntKind.wrap_i64]
  omega
theorem or_byte (a : Nat) (c : UInt8) (ha : a < 4503599627370496) : bits .or .i64 ((a : Int) * 256) (c.toNat : Int) = ((a * 256 + c.toNat : Nat) : Int) := by
  have h := c.toNat_lt
  have e : (a : Int) * 256 = ((a * 256 : Nat) : Int) := by omega
  rw [e, i64_or_nat _ _ (by omega) (by omega), Nat.mul_comm a 256]
  exact congrArg _ (Nat.two_pow_add_eq_or_of_lt (i := 8) (by omega) a).symm
theorem and_255 (a : Nat) (ha : a < 4503599627370496) : bits .and .i64 (a : Int) 255 = ((a % 256 : Nat) : Int) := by
  refine (i64_and_nat a 255 (by omega) (by omega)).trans ?_
  exact congrArg _ (Nat.and_two_pow_sub_one_eq_mod a 8)
theorem isOpC (op : Int) (w : World) : Calls Tryz.prog 83 #[.int .i64 op] w fun e w' => e = .returned (.bool (decide (op = 1 ∨ op = 2))) ∧ w' = w := by
  by_cases h1 : op = 1
  · subst h1
    go_enter Tryz.func83, Tryz.ntmps83
    go_wp2
    go_ret
    exact ⟨rfl, rfl⟩
  · by_cases h2 : op = 2
    · subst h2
      go_enter Tryz.func83, Tryz.ntmps83
      go_wp2
      go_ret
      exact ⟨rfl, rfl⟩
    · have H : Hid (decide (op = 1 ∨ op = 2) = false) := by unfold Hid; simp; omega
      have b1 : (op == 1) = false := by simpa using h1
      have b2 : (op == 2) = false := by simpa using h2
      go_enter Tryz.func83, Tryz.ntmps83
      go_wp2
      go_ret
      try rw [H.out]
      exact ⟨rfl, rfl⟩
theorem fitsC (n : Int) (w : World) : Calls Tryz.prog 84 #[.int .i64 n] w fun e w' => e = .returned (.bool (decide (0 ≤ n ∧ n ≤ 4294967295))) ∧ w' = w := by
  by_cases h1 : 0 ≤ n
  · by_cases h2 : n ≤ 4294967295
    · have H : Hid (decide (0 ≤ n ∧ n ≤ 4294967295) = true) := by unfold Hid; simp; omega
      have b1 : decide (0 ≤ n) = true := by simpa using h1
      have b2 : decide (n ≤ 4294967295) = true := by simpa using h2
      go_enter Tryz.func84, Tryz.ntmps84
      go_wp2
      go_ret
      try rw [H.out]
      exact ⟨rfl, rfl⟩
    · have H : Hid (decide (0 ≤ n ∧ n ≤ 4294967295) = false) := by unfold Hid; simp; omega
      have b1 : decide (0 ≤ n) = true := by simpa using h1
      have b2 : decide (n ≤ 4294967295) = false := by simpa using h2
      go_enter Tryz.func84, Tryz.ntmps84
      go_wp2
      go_ret
      try rw [H.out]
      exact ⟨rfl, rfl⟩
  · have H : Hid (decide (0 ≤ n ∧ n ≤ 4294967295) = false) := by unfold Hid; simp; omega
    have b1 : decide (0 ≤ n) = false := by simpa using h1
    go_enter Tryz.func84, Tryz.ntmps84
    go_wp2
    go_ret
    try rw [H.out]
    exact ⟨rfl, rfl⟩
theorem opOfC (c : Int) (h0 : 0 ≤ c) (h1 : c ≤ 255) (w : World) : Calls Tryz.prog 113 #[.int .u8 c] w fun e w' => e = .returned (.int .i64 (c - 192)) ∧ w' = w := by
  go_enter Tryz.func113, Tryz.ntmps113
  go_wp2
  go_ret
  exact ⟨by first | rfl | (congr 2; go_num), rfl⟩
set_option maxRecDepth 20000 in
set_option maxHeartbeats 1000000 in
theorem numberC (v : Value) (bs : List UInt8) (w : World) (hv : HoldsB w v bs) (hl : bs.length ≤ 4) :
    Calls Tryz.prog 112 #[v] w fun e w' => e = .returned (.int .i64 (valN bs : Int)) ∧ w' = w := by
  obtain ⟨ao, cap, rfl, _, _, hc⟩ := hv
  have HC := hide' hc
  obtain ⟨n, hn⟩ : ∃ n, n = bs.length := ⟨_, rfl⟩
  have N1 : Hid (bs.length = n) := hn.symm
  have ln : n ≤ 4 := by omega
  rw [N1.out]
  clear hc hl hn
  go_enter Tryz.func112, Tryz.ntmps112
  go_wp2
  go_loopw [3, 8] (fun s i wr => ∃ k : Nat, k ≤ n ∧ i = .int .i64 k ∧ Hid (wr = w) ∧ ∃ v : Nat, Hid (v < 256 ^ k) ∧ s = .int .i64 v ∧ Hid (v = valN (bs.take k))) (fun _ i _ => n - (intOf i).toNat)
  case atStart => exact ⟨0, by omega, rfl, rfl, 0, by unfold Hid; decide, rfl, rfl⟩
  case round =>
    obtain ⟨k, hk, rfl, hw, v, hv, rfl, hV⟩ := hrel
    have hw' := hw.out.symm
    subst hw'
    by_cases hlt : k < n
    · have G1 : Hid (k < bs.length) := by unfold Hid; rw [N1.out]; exact hlt
      obtain ⟨b, off, e, hb, hcell⟩ := HC.out (fun e => by have := G1.out; rw [e] at this; exact absurd this (Nat.not_lt_zero _))
      subst e
      have x1 := hcell k G1.out
      unfold B at x1
      have E : Hid (v * 256 + (bs[k]'G1.out).toNat = valN (bs.take (k + 1))) := by
        unfold Hid; rw [List.take_succ_eq_append_getElem G1.out, valN_snoc, ← hV.out]
      have hvl : v < 16777216 := Nat.lt_of_lt_of_le hv.out (Nat.le_trans (Nat.pow_le_pow_right (by decide) (show k ≤ 3 by omega)) (by decide))
      have hx := or_byte v (bs[k]'G1.out) (by omega)
      have hcl : ((bs[k]'G1.out).toNat : Int) ≤ 255 := (byte_lt _).2
      have E2 : Hid (v * 256 + (bs[k]'G1.out).toNat < 256 ^ (k + 1)) := by
        unfold Hid; have := hv.out; have := (bs[k]'G1.out).toNat_lt; rw [Nat.pow_succ]; omega
      generalize (bs[k]'G1.out).toNat = c at x1 E hx hcl E2
      have hy : v * 256 + c < 4294967296 := by omega
      generalize v * 256 + c = y at E E2 hx hy
      clear hV hcell hv
      go_wp2
      go_roundw
      case rel => exact ⟨k + 1, by omega, by go_num, (by unfold Hid; first | trivial | rfl), y, E2, by first | rfl | (congr 1), E⟩
      case measure => simp [intOf]; omega
    · have E : Hid (valN bs = v) := by
        unfold Hid; rw [hV.out, List.take_of_length_le (by rw [N1.out]; omega)]
      go_wp2
      go_ret
      rw [E.out]
      exact ⟨rfl, rfl⟩
set_option maxRecDepth 20000 in
set_option maxHeartbeats 1000000 in
theorem valueRC (v : Value) (bs : List UInt8) (w : World) (hv : HoldsB w v bs) (hl : bs.length ≤ 4) :
    Calls Tryz.prog 96 #[v] w fun e w' => e = .returned (.int .i64 (valN bs : Int)) ∧ w' = w := by
  obtain ⟨ao, cap, rfl, _, _, hc⟩ := hv
  have HC := hide' hc
  obtain ⟨n, hn⟩ : ∃ n, n = bs.length := ⟨_, rfl⟩
  have N1 : Hid (bs.length = n) := hn.symm
  have ln : n ≤ 4 := by omega
  rw [N1.out]
  clear hc hl hn
  go_enter Tryz.func96, Tryz.ntmps96
  go_wp2
  go_loopw [3, 4] (fun s i wr => ∃ k : Nat, k ≤ n ∧ i = .int .i64 k ∧ Hid (wr = w) ∧ ∃ v : Nat, Hid (v < 256 ^ k) ∧ s = .int .i64 v ∧ Hid (v = valN (bs.take k))) (fun _ i _ => n - (intOf i).toNat)
  case atStart => exact ⟨0, by omega, rfl, rfl, 0, by unfold Hid; decide, rfl, rfl⟩
  case round =>
    obtain ⟨k, hk, rfl, hw, v, hv, rfl, hV⟩ := hrel
    have hw' := hw.out.symm
    subst hw'
    by_cases hlt : k < n
    · have G1 : Hid (k < bs.length) := by unfold Hid; rw [N1.out]; exact hlt
      obtain ⟨b, off, e, hb, hcell⟩ := HC.out (fun e => by have := G1.out; rw [e] at this; exact absurd this (Nat.not_lt_zero _))
      subst e
      have x1 := hcell k G1.out
      unfold B at x1
      have E : Hid (v * 256 + (bs[k]'G1.out).toNat = valN (bs.take (k + 1))) := by
        unfold Hid; rw [List.take_succ_eq_append_getElem G1.out, valN_snoc, ← hV.out]
      have hvl : v < 16777216 := Nat.lt_of_lt_of_le hv.out (Nat.le_trans (Nat.pow_le_pow_right (by decide) (show k ≤ 3 by omega)) (by decide))
      have hcl : ((bs[k]'G1.out).toNat : Int) ≤ 255 := (byte_lt _).2
      have E2 : Hid (v * 256 + (bs[k]'G1.out).toNat < 256 ^ (k + 1)) := by
        unfold Hid; have := hv.out; have := (bs[k]'G1.out).toNat_lt; rw [Nat.pow_succ]; omega
      generalize (bs[k]'G1.out).toNat = c at x1 E hcl E2
      clear hV hcell hv
      go_wp2
      go_roundw
      case rel => exact ⟨k + 1, by omega, by go_num, (by unfold Hid; first | trivial | rfl), v * 256 + c, E2, by first | rfl | go_num | (congr 1; omega), E⟩
      case measure => simp [intOf]; omega
    · have E : Hid (valN bs = v) := by
        unfold Hid; rw [hV.out, List.take_of_length_le (by rw [N1.out]; omega)]
      go_wp2
      go_ret
      rw [E.out]
      exact ⟨rfl, rfl⟩
end Go.Proofs.YtijnjgnckipghaaGreat
namespace Go.Proofs.YtijnjgnckipghaaGreat
open Go.RowKit
theorem be_byte (n k m : Nat) (hm : m = 256 ^ k) : ((n / m % 256 : Nat) : Int) = ((UInt8.ofNat (n / 256 ^ k)).toNat : Int) := by
  subst hm
  rw [ofNat_mod]
set_option maxRecDepth 20000 in
set_option maxHeartbeats 1000000 in
theorem appendNumberC (v : Value) (bs : List UInt8) (w0 w : World) (n size : Nat) (hO : Own w0 v bs w) (hs : size ≤ 4) (hl : bs.length ≤ 1000000) :
    Calls Tryz.prog 85 #[v, .int .i64 (n : Int), .int .i64 (size : Int)] w fun e w' => ∃ u, e = .returned u ∧ Own w0 u (bs ++ beN size n) w' := by
  have HO := hide' hO
  obtain ⟨L, hL⟩ : ∃ L, L = bs ++ beN size n := ⟨_, rfl⟩
  have EL := hide' hL
  rw [← hL]
  clear hO hL
  go_enter Tryz.func85, Tryz.ntmps85
  go_wp2
  go_loopw [0, 7] (fun v i wr => ∃ (k : Nat) (pre : List UInt8), k ≤ 4 ∧ i = .int .i64 ((k : Int) - 1) ∧ Hid (pre ++ beN k n = L) ∧ Hid (pre.length + k ≤ 1000010) ∧ Hid (Own w0 v pre wr)) (fun _ i _ => (intOf i + 1).toNat)
  case atStart => exact ⟨size, bs, hs, by first | rfl | go_num, EL.out.symm, by unfold Hid; omega, HO⟩
  case round =>
    obtain ⟨k, pre, hk, rfl, hE, hP, hO⟩ := hrel
    match k, hk with
    | 0, _ =>
      have hO' := hO.out
      have e := hE.out
      rw [beN, List.append_nil] at e
      have E := hide' e
      clear e
      go_wp2
      go_ret
      exact ⟨_, rfl, by rw [← E.out]; exact hO'⟩
    | 1, _ =>
      have hb := hide' (be_byte n 0 1 (by decide))
      have ht : Hid ((pre ++ [UInt8.ofNat (n / 256 ^ 0)]) ++ beN 0 n = L) := by
        unfold Hid; rw [List.append_assoc]; exact hE.out
      have hle : Hid (pre.length + 1 ≤ 140737488355328) := by unfold Hid; have := hP.out; omega
      generalize UInt8.ofNat (n / 256 ^ 0) = c at hb ht
      go_wp2_with (at_builtin; refine app1 rfl (.tmp 14) (.tmp 20) rfl w0 _ _ rfl hO.out c (by have := hb.out; omega) rfl hle.out ?_; intro v2 w2 hown2)
      go_roundw
      case rel => exact ⟨0, pre ++ [c], by omega, by first | rfl | go_num, ht, by unfold Hid; have := hP.out; rw [List.length_append, List.length_singleton]; omega, hown2⟩
      case measure => simp [intOf]
    | 2, _ =>
      have hb := hide' (be_byte n 1 256 (by decide))
      have ht : Hid ((pre ++ [UInt8.ofNat (n / 256 ^ 1)]) ++ beN 1 n = L) := by
        unfold Hid; rw [List.append_assoc]; exact hE.out
      have hle : Hid (pre.length + 1 ≤ 140737488355328) := by unfold Hid; have := hP.out; omega
      generalize UInt8.ofNat (n / 256 ^ 1) = c at hb ht
      go_wp2_with (at_builtin; refine app1 rfl (.tmp 14) (.tmp 20) rfl w0 _ _ rfl hO.out c (by have := hb.out; omega) rfl hle.out ?_; intro v2 w2 hown2)
      go_roundw
      case rel => exact ⟨1, pre ++ [c], by omega, by first | rfl | go_num, ht, by unfold Hid; have := hP.out; rw [List.length_append, List.length_singleton]; omega, hown2⟩
      case measure => simp [intOf]
    | 3, _ =>
      have hb := hide' (be_byte n 2 65536 (by decide))
      have ht : Hid ((pre ++ [UInt8.ofNat (n / 256 ^ 2)]) ++ beN 2 n = L) := by
        unfold Hid; rw [List.append_assoc]; exact hE.out
      have hle : Hid (pre.length + 1 ≤ 140737488355328) := by unfold Hid; have := hP.out; omega
      generalize UInt8.ofNat (n / 256 ^ 2) = c at hb ht
      go_wp2_with (at_builtin; refine app1 rfl (.tmp 14) (.tmp 20) rfl w0 _ _ rfl hO.out c (by have := hb.out; omega) rfl hle.out ?_; intro v2 w2 hown2)
      go_roundw
      case rel => exact ⟨2, pre ++ [c], by omega, by first | rfl | go_num, ht, by unfold Hid; have := hP.out; rw [List.length_append, List.length_singleton]; omega, hown2⟩
      case measure => simp [intOf]
    | 4, _ =>
      have hb := hide' (be_byte n 3 16777216 (by decide))
      have ht : Hid ((pre ++ [UInt8.ofNat (n / 256 ^ 3)]) ++ beN 3 n = L) := by
        unfold Hid; rw [List.append_assoc]; exact hE.out
      have hle : Hid (pre.length + 1 ≤ 140737488355328) := by unfold Hid; have := hP.out; omega
      generalize UInt8.ofNat (n / 256 ^ 3) = c at hb ht
      go_wp2_with (at_builtin; refine app1 rfl (.tmp 14) (.tmp 20) rfl w0 _ _ rfl hO.out c (by have := hb.out; omega) rfl hle.out ?_; intro v2 w2 hown2)
      go_roundw
      case rel => exact ⟨3, pre ++ [c], by omega, by first | rfl | go_num, ht, by unfold Hid; have := hP.out; rw [List.length_append, List.length_singleton]; omega, hown2⟩
      case measure => simp [intOf]
/-- what a new block with these bytes holds -/
theorem own_bytes (w : World) (l : List UInt8) (n : Nat) (hn : n = l.length) (vs : Array Value) (hv : vs = (l.map B).toArray) (hl : l.length ≤ 1000000) : Own w (.slice (some ⟨w.heap.size, 0, none⟩) n n) l (w.alloc (.cells vs 5)) := by
  subst hv hn
  refine ⟨?_, (Below.refl _ _).alloc (Nat.le_refl _) _⟩
  have h := World.ownsRow_lit (base := w.heap.size) (e := 5) (size := 1) w (l.map B).toArray l.length (Nat.le_refl _) (by unfold maxLen; omega) (by simp)
  simpa using h
theorem make2 (w : World) : (Instr.makeSlice 67 (.int .i64 2) (.int .i64 2)).run Tryz.prog w = .ok (.slice (some ⟨w.heap.size, 0, none⟩) 2 2) (w.alloc (.cells #[.int .u8 0, .int .u8 0] 5)) := by
  have h := run_make_row' (P := Tryz.prog) 67 5 (.int .u8 0) 1 Tryz.underlying67 Tryz.info5 rfl .i64 .i64 2 (by decide) (by decide) w
  rw [show madeCells #[Value.int .u8 0] 2 = #[.int .u8 0, .int .u8 0] from Array.ext' (by rw [toList_madeCells_one]; rfl)] at h
  exact h
theorem make4 (w : World) : (Instr.makeSlice 67 (.int .i64 4) (.int .i64 4)).run Tryz.prog w = .ok (.slice (some ⟨w.heap.size, 0, none⟩) 4 4) (w.alloc (.cells #[.int .u8 0, .int .u8 0, .int .u8 0, .int .u8 0] 5)) := by
  have h := run_make_row' (P := Tryz.prog) 67 5 (.int .u8 0) 1 Tryz.underlying67 Tryz.info5 rfl .i64 .i64 4 (by decide) (by decide) w
  rw [show madeCells #[Value.int .u8 0] 4 = #[.int .u8 0, .int .u8 0, .int .u8 0, .int .u8 0] from Array.ext' (by rw [toList_madeCells_one]; rfl)] at h
  exact h
set_option maxRecDepth 20000 in
set_option maxHeartbeats 1000000 in
theorem number2RC (n : Nat) (w : World) (hn : n < 65536) :
    Calls Tryz.prog 72 #[.int .i64 (n : Int), .int .i64 2] w fun e w' => ∃ u, e = .returned u ∧ Own w u (beN 2 n) w' := by
  have a0 := and_255 n (by omega)
  have a1 := and_255 (n / 256) (by omega)
  rw [← show (n : Int) / 256 = ((n / 256 : Nat) : Int) by omega] at a1
  have b0 := hide' (be_byte n 0 1 (by decide))
  have c0 : Hid ((n : Int) % 256 = ((n / 1 % 256 : Nat) : Int)) := by unfold Hid; omega
  have b1 := hide' (be_byte n 1 256 (by decide))
  have c1 : Hid ((n : Int) / 256 % 256 = ((n / 256 % 256 : Nat) : Int)) := by unfold Hid; omega
  have hmk := make2
  have E : Hid (#[Value.int .u8 ((n : Int) / 256 % 256), Value.int .u8 ((n : Int) % 256)] = ((beN 2 n).map B).toArray) := by
    unfold Hid
    show _ = #[Value.int .u8 ((UInt8.ofNat (n / 256 ^ 1)).toNat : Int), .int .u8 ((UInt8.ofNat (n / 256 ^ 0)).toNat : Int)]
    rw [c1.out, b1.out, c0.out, b0.out]
  go_enter Tryz.func72, Tryz.ntmps72
  go_wp2
  go_rounds 3
  go_ret
  exact ⟨_, rfl, own_bytes w (beN 2 n) 2 (beN_len 2 n).symm _ E.out (by rw [beN_len]; omega)⟩
set_option maxRecDepth 20000 in
set_option maxHeartbeats 1000000 in
theorem number4RC (n : Nat) (w : World) (hn : n < 4294967296) :
    Calls Tryz.prog 72 #[.int .i64 (n : Int), .int .i64 4] w fun e w' => ∃ u, e = .returned u ∧ Own w u (beN 4 n) w' := by
  have a0 := and_255 n (by omega)
  have a1 := and_255 (n / 256) (by omega)
  rw [← show (n : Int) / 256 = ((n / 256 : Nat) : Int) by omega] at a1
  have a2 := and_255 (n / 256 / 256) (by omega)
  rw [← show (n : Int) / 256 / 256 = ((n / 256 / 256 : Nat) : Int) by omega] at a2
  have a3 := and_255 (n / 256 / 256 / 256) (by omega)
  rw [← show (n : Int) / 256 / 256 / 256 = ((n / 256 / 256 / 256 : Nat) : Int) by omega] at a3
  have b0 := hide' (be_byte n 0 1 (by decide))
  have c0 : Hid ((n : Int) % 256 = ((n / 1 % 256 : Nat) : Int)) := by unfold Hid; omega
  have b1 := hide' (be_byte n 1 256 (by decide))
  have c1 : Hid ((n : Int) / 256 % 256 = ((n / 256 % 256 : Nat) : Int)) := by unfold Hid; omega
  have b2 := hide' (be_byte n 2 65536 (by decide))
  have c2 : Hid ((n : Int) / 256 / 256 % 256 = ((n / 65536 % 256 : Nat) : Int)) := by unfold Hid; omega
  have b3 := hide' (be_byte n 3 16777216 (by decide))
  have c3 : Hid ((n : Int) / 256 / 256 / 256 % 256 = ((n / 16777216 % 256 : Nat) : Int)) := by unfold Hid; omega
  have hmk := make4
  have E : Hid (#[Value.int .u8 ((n : Int) / 256 / 256 / 256 % 256), Value.int .u8 ((n : Int) / 256 / 256 % 256), Value.int .u8 ((n : Int) / 256 % 256), Value.int .u8 ((n : Int) % 256)] = ((beN 4 n).map B).toArray) := by
    unfold Hid
    show _ = #[Value.int .u8 ((UInt8.ofNat (n / 256 ^ 3)).toNat : Int), .int .u8 ((UInt8.ofNat (n / 256 ^ 2)).toNat : Int), .int .u8 ((UInt8.ofNat (n / 256 ^ 1)).toNat : Int), .int .u8 ((UInt8.ofNat (n / 256 ^ 0)).toNat : Int)]
    rw [c3.out, b3.out, c2.out, b2.out, c1.out, b1.out, c0.out, b0.out]
  go_enter Tryz.func72, Tryz.ntmps72
  go_wp2
  go_rounds 5
  go_ret
  exact ⟨_, rfl, own_bytes w (beN 4 n) 4 (beN_len 4 n).symm _ E.out (by rw [beN_len]; omega)⟩
end Go.Proofs.YtijnjgnckipghaaGreat
namespace Go.Proofs.YtijnjgnckipghaaGreat
open Go.RowKit
/-- a block of four cells that may be written, and what they hold -/
def Quad (b : Nat) (W : World) (v0 v1 v2 v3 : Value) : Prop := W.cell? ⟨b, 0, none⟩ = some v0 ∧ W.cell? ⟨b, 1, none⟩ = some v1 ∧ W.cell? ⟨b, 2, none⟩ = some v2 ∧ W.cell? ⟨b, 3, none⟩ = some v3 ∧
  W.frozen? ⟨b, 0, none⟩ = false ∧ W.frozen? ⟨b, 1, none⟩ = false ∧ W.frozen? ⟨b, 2, none⟩ = false ∧ W.frozen? ⟨b, 3, none⟩ = false ∧ b < W.heap.size
theorem quad_below {b : Nat} {W W' : World} {v0 v1 v2 v3 : Value} (h : Quad b W v0 v1 v2 v3) (hb : Below W.heap.size W W') : Quad b W' v0 v1 v2 v3 := by
  obtain ⟨h0, h1, h2, h3, f0, f1, f2, f3, hz⟩ := h
  have c : ∀ o, W'.cell? ⟨b, o, none⟩ = W.cell? ⟨b, o, none⟩ := fun o => hb.cell (p := ⟨b, o, none⟩) hz
  have f : ∀ o, W'.frozen? ⟨b, o, none⟩ = W.frozen? ⟨b, o, none⟩ := fun o => hb.frozen (p := ⟨b, o, none⟩) hz
  exact ⟨by rw [c]; exact h0, by rw [c]; exact h1, by rw [c]; exact h2, by rw [c]; exact h3, by rw [f]; exact f0, by rw [f]; exact f1, by rw [f]; exact f2, by rw [f]; exact f3, Nat.lt_of_lt_of_le hz hb.size⟩
theorem oth4 {b i j : Nat} {W : World} {v : Value} (h : j ≠ i) : (W.setCell ⟨b, j, none⟩ v).cell? ⟨b, i, none⟩ = W.cell? ⟨b, i, none⟩ := World.cell?_setCell_other _ _ _ _ (by first | (simp; done) | omega)
def put4 (b : Nat) (W : World) (v0 v1 v2 v3 : Value) : World := (((W.setCell ⟨b, 0, none⟩ v0).setCell ⟨b, 1, none⟩ v1).setCell ⟨b, 2, none⟩ v2).setCell ⟨b, 3, none⟩ v3
theorem quad_store {b : Nat} {W : World} {u0 u1 u2 u3 : Value} (h : Quad b W u0 u1 u2 u3) (v0 v1 v2 v3 : Value) :
    (put4 b W v0 v1 v2 v3).cell? ⟨b, 0, none⟩ = some v0 ∧ (put4 b W v0 v1 v2 v3).cell? ⟨b, 1, none⟩ = some v1 ∧ (put4 b W v0 v1 v2 v3).cell? ⟨b, 2, none⟩ = some v2 ∧ (put4 b W v0 v1 v2 v3).cell? ⟨b, 3, none⟩ = some v3 := by
  obtain ⟨h0, h1, h2, h3, _⟩ := h
  unfold put4
  refine ⟨?_, ?_, ?_, ?_⟩
  · rw [oth4 (by decide), oth4 (by decide), oth4 (by decide)]
    exact World.cell?_setCell_same _ _ _ h0
  · rw [oth4 (by decide), oth4 (by decide)]
    exact World.cell?_setCell_same (u := u1) _ _ _ (by rw [oth4 (by decide)]; exact h1)
  · rw [oth4 (by decide)]
    exact World.cell?_setCell_same (u := u2) _ _ _ (by rw [oth4 (by decide), oth4 (by decide)]; exact h2)
  · exact World.cell?_setCell_same (u := u3) _ _ _ (by rw [oth4 (by decide), oth4 (by decide), oth4 (by decide)]; exact h3)
theorem put4_below {w W : World} {b : Nat} (h : Below w.heap.size w W) (hb : w.heap.size ≤ b) (v0 v1 v2 v3 : Value) : Below w.heap.size w (put4 b W v0 v1 v2 v3) :=
  (((h.setCell hb _).setCell hb _).setCell hb _).setCell hb _
theorem quad_lit (w : World) (v0 v1 v2 v3 : Value) (t : TypeId) : Quad w.heap.size (w.alloc (.cells #[v0, v1, v2, v3] t)) v0 v1 v2 v3 :=
  ⟨by simp, by simp, by simp, by simp, by simp, by simp, by simp, by simp, by simp⟩
theorem frozen_set4 {b i j : Nat} {W : World} {v : Value} : (W.setCell ⟨b, j, none⟩ v).frozen? ⟨b, i, none⟩ = W.frozen? ⟨b, i, none⟩ := by simp
theorem quad_put {b : Nat} {W : World} {u0 u1 u2 u3 : Value} (h : Quad b W u0 u1 u2 u3) (v0 v1 v2 v3 : Value) : Quad b (put4 b W v0 v1 v2 v3) v0 v1 v2 v3 := by
  obtain ⟨q0, q1, q2, q3⟩ := quad_store h v0 v1 v2 v3
  obtain ⟨_, _, _, _, f0, f1, f2, f3, hz⟩ := h
  refine ⟨q0, q1, q2, q3, ?_, ?_, ?_, ?_, by simp [put4, World.setCell]; exact hz⟩
  · unfold put4; rw [frozen_set4, frozen_set4, frozen_set4, frozen_set4]; exact f0
  · unfold put4; rw [frozen_set4, frozen_set4, frozen_set4, frozen_set4]; exact f1
  · unfold put4; rw [frozen_set4, frozen_set4, frozen_set4, frozen_set4]; exact f2
  · unfold put4; rw [frozen_set4, frozen_set4, frozen_set4, frozen_set4]; exact f3
theorem row_put {W : World} {base k n b : Nat} {t : TypeId} {v v0 v1 v2 v3 : Value} {cs : List Value} (h : W.ownsRow base t k v n cs) (hb : b < base) : (put4 b W v0 v1 v2 v3).ownsRow base t k v n cs :=
  row_poke (row_poke (row_poke (row_poke h hb) hb) hb) hb
theorem quad_set3 {b : Nat} {W : World} {v0 v1 v2 v3 : Value} (h : Quad b W v0 v1 v2 v3) (x : Value) : Quad b (W.setCell ⟨b, 3, none⟩ x) v0 v1 v2 x := by
  obtain ⟨h0, h1, h2, h3, f0, f1, f2, f3, hz⟩ := h
  exact ⟨by rw [oth4 (by decide)]; exact h0, by rw [oth4 (by decide)]; exact h1, by rw [oth4 (by decide)]; exact h2, World.cell?_setCell_same (u := v3) _ _ _ h3, by rw [frozen_set4]; exact f0, by rw [frozen_set4]; exact f1, by rw [frozen_set4]; exact f2, by rw [frozen_set4]; exact f3, by simpa using hz⟩
theorem quad_other {b c o : Nat} {W : World} {v0 v1 v2 v3 : Value} (h : Quad b W v0 v1 v2 v3) (hne : b ≠ c) (x : Value) : Quad b (W.setCell ⟨c, o, none⟩ x) v0 v1 v2 v3 := by
  obtain ⟨h0, h1, h2, h3, f0, f1, f2, f3, hz⟩ := h
  have c : ∀ i, (W.setCell ⟨c, o, none⟩ x).cell? ⟨b, i, none⟩ = W.cell? ⟨b, i, none⟩ := fun i => by simp [World.cell?, heap_setCell_other W ⟨c, o, none⟩ b x hne]
  exact ⟨by rw [c]; exact h0, by rw [c]; exact h1, by rw [c]; exact h2, by rw [c]; exact h3, by simpa using f0, by simpa using f1, by simpa using f2, by simpa using f3, by simpa using hz⟩
end Go.Proofs.YtijnjgnckipghaaGreat
namespace Go.Proofs.YtijnjgnckipghaaGreat
open Go.RowKit
/-- a record as a value -/
def recV (seq op no : Int) (id : List UInt8) : Value := .agg #[.int .i64 seq, .int .i64 op, .int .i64 no, .string ⟨id.toArray⟩]
theorem enc_bad1 {seq op no : Int} {id : List UInt8} (h : decide (op = 1 ∨ op = 2) = false) : encOf seq op no id = ([], 100) := by
  unfold encOf; rw [if_neg (fun g => (of_decide_eq_false h) g.1)]
theorem enc_bad2 {seq op no : Int} {id : List UInt8} (h : decide (0 ≤ seq ∧ seq ≤ 4294967295) = false) : encOf seq op no id = ([], 100) := by
  unfold encOf; rw [if_neg (fun g => (of_decide_eq_false h) g.2.1)]
theorem enc_bad3 {seq op no : Int} {id : List UInt8} (h : decide (0 ≤ no ∧ no ≤ 4294967295) = false) : encOf seq op no id = ([], 100) := by
  unfold encOf; rw [if_neg (fun g => (of_decide_eq_false h) g.2.2)]
theorem enc_ok {seq op no : Int} {id : List UInt8} (h1 : decide (op = 1 ∨ op = 2) = true) (h2 : decide (0 ≤ seq ∧ seq ≤ 4294967295) = true) (h3 : decide (0 ≤ no ∧ no ≤ 4294967295) = true) :
    encOf seq op no id = if id.length ≤ 4096 then (recL op.toNat seq.toNat no.toNat id, 0) else ([], 101) := by
  unfold encOf; rw [if_pos ⟨of_decide_eq_true h1, of_decide_eq_true h2, of_decide_eq_true h3⟩]
/-- a text's bytes appended -/
theorem appTxt {ops : Array Oper} {rest : List Oper} {o : Oper} {a : Act} {Q : Exit → Act → World → Prop} {wr : World} (hgd : o.guard = none) (s z : Operand)
    (ho : o.op = .call { callee := .builtin .append, args := #[s, z], argTypes := #[67, 9] }) (w0 : World) (v : Value) (ps : List UInt8) (hs : a.eval s = v) (hown : Own w0 v ps wr)
    (q : List UInt8) (hz : a.eval z = .string ⟨q.toArray⟩) (hlen : ps.length + q.length ≤ 140737488355328)
    (h : ∀ v' w', Own w0 v' (ps ++ q) w' → wpList Tryz.prog ops Q rest (a.put o.dst v') w') : wpList Tryz.prog ops Q (o :: rest) a wr := by
  obtain ⟨i0, hi, hz0, hz1, hz2⟩ := info_parts Tryz.info5
  have hsz := hown.2.size
  have hq : (⟨q.toArray⟩ : ByteArray).size = q.length := size_l q
  have hc : Lib.strCells ⟨q.toArray⟩ = q.map B := by unfold Lib.strCells B; simp
  refine Lib.wpList_append_own_string _ hgd s z 67 9 ho w0.heap.size 5 i0 Tryz.underlying67 Tryz.underlying9 hi hz0 hz1 hz2 v ps.length (ps.map B) hs hown.1 ⟨q.toArray⟩ hz (by rw [hq]; unfold maxLen; omega) (by rw [hq]; exact hlen) hsz ?_
  intro v' w' h1 h2 _
  rw [hq, hc] at h1
  refine h v' w' ⟨by rw [List.map_append, List.length_append]; exact h1, ?_⟩
  refine Below.grown hown.2 h2 (by omega) ?_
  intro k hk
  exact (hown.1.lt k hk).1
theorem makeN (w : World) (n : Nat) (hn : n ≤ 1000000) : (Instr.makeSlice 67 (.int .i64 0) (.int .i64 (n : Int))).run Tryz.prog w = .ok (.slice (some ⟨w.heap.size, 0, none⟩) 0 n) (w.alloc (.cells (madeCells #[.int .u8 0] n) 5)) := by
  obtain ⟨i0, hi, hz0, hz1, hz2⟩ := info_parts Tryz.info5
  have h := run_make (P := Tryz.prog) w 67 5 i0 (.int .u8 0) Tryz.underlying67 hi hz0 .i64 .i64 0 n (by omega) (by omega) (by rw [hz2]; omega) (by omega)
  rw [hz1] at h
  rw [show (Value.int .u8 0).cells = #[Value.int .u8 0] from rfl] at h
  simpa using h
theorem own_made (w : World) (n : Nat) (hn : n ≤ 1000000) : Own w (.slice (some ⟨w.heap.size, 0, none⟩) 0 n) [] (w.alloc (.cells (madeCells #[.int .u8 0] n) 5)) :=
  ⟨World.ownsRow_made w _ n (Nat.le_refl _) (by unfold maxLen; omega) (by rw [size_madeCells]; omega), (Below.refl _ _).alloc (Nat.le_refl _) _⟩
set_option maxRecDepth 20000 in
set_option maxHeartbeats 4000000 in
theorem encC (seq op no : Int) (id : List UInt8) (w : World) (hi : id.length ≤ 1000000000000000) :
    Calls Tryz.prog 48 #[recV seq op no id] w fun e w' => ∃ u, e = .returned (.tuple #[u, .int .i64 (encOf seq op no id).2]) ∧ Own w u (encOf seq op no id).1 w' := by
  have hsz : Hid ((⟨id.toArray⟩ : ByteArray).size = id.length) := size_l id
  obtain ⟨R, hR⟩ : ∃ R, R = encOf seq op no id := ⟨_, rfl⟩
  rw [← hR]
  obtain ⟨b1, hb1⟩ : ∃ b, b = decide (op = 1 ∨ op = 2) := ⟨_, rfl⟩
  obtain ⟨b2, hb2⟩ : ∃ b, b = decide (0 ≤ seq ∧ seq ≤ 4294967295) := ⟨_, rfl⟩
  obtain ⟨b3, hb3⟩ : ∃ b, b = decide (0 ≤ no ∧ no ≤ 4294967295) := ⟨_, rfl⟩
  have H1 := hide' hb1
  have H2 := hide' hb2
  have H3 := hide' hb3
  have HR := hide' hR
  have c1 : ∀ W, Hid (Calls Tryz.prog 83 #[.int .i64 op] W fun e w' => e = .returned (.bool b1) ∧ w' = W) := fun W => by unfold Hid; rw [hb1]; exact isOpC op W
  have c2 : ∀ W, Hid (Calls Tryz.prog 84 #[.int .i64 seq] W fun e w' => e = .returned (.bool b2) ∧ w' = W) := fun W => by unfold Hid; rw [hb2]; exact fitsC seq W
  have c3 : ∀ W, Hid (Calls Tryz.prog 84 #[.int .i64 no] W fun e w' => e = .returned (.bool b3) ∧ w' = W) := fun W => by unfold Hid; rw [hb3]; exact fitsC no W
  clear hb1 hb2 hb3 hR
  unfold recV
  obtain ⟨B0, hB0⟩ : ∃ B0, B0 = w.alloc (.cells #[.int .i64 seq, .int .i64 op, .int .i64 no, .string ⟨id.toArray⟩] 53) := ⟨_, rfl⟩
  have Q0 := quad_lit w (.int .i64 seq) (.int .i64 op) (.int .i64 no) (.string ⟨id.toArray⟩) 53
  have L0 := below_alloc' w (.cells #[.int .i64 seq, .int .i64 op, .int .i64 no, .string ⟨id.toArray⟩] 53)
  have HB0 := hide' hB0
  rw [← hB0] at Q0 L0
  have LB := hide' L0
  have HQ := hide' Q0
  clear hB0 L0 Q0
  go_enter Tryz.func48, Tryz.ntmps48
  go_wp2_with fail
  rw [← HB0.out]
  obtain ⟨q0, q1, q2, q3, -, -, -, -, qz⟩ := HQ.out
  refine (c1 B0).out.mono ?_
  rintro e w9 ⟨rfl, ew⟩
  rw [ew]; clear ew w9
  cases b1 with
  | false =>
    have eR : Hid (R = ([], 100)) := by unfold Hid; rw [HR.out]; exact enc_bad1 H1.out.symm
    go_wp2_with fail
    exact bodyPost_ret (v := .tuple #[.slice none 0 0, .int .i64 100]) (by simp [results, Tryz.results48, go_sem]) rfl ⟨.slice none 0 0, by rw [eR.out], by rw [eR.out]; exact own_nil w _ LB.out⟩
  | true =>
  go_wp2_with fail
  refine (c2 B0).out.mono ?_
  rintro e w9 ⟨rfl, ew⟩
  rw [ew]; clear ew w9
  cases b2 with
  | false =>
    have eR : Hid (R = ([], 100)) := by unfold Hid; rw [HR.out]; exact enc_bad2 H2.out.symm
    go_wp2_with fail
    exact bodyPost_ret (v := .tuple #[.slice none 0 0, .int .i64 100]) (by simp [results, Tryz.results48, go_sem]) rfl ⟨.slice none 0 0, by rw [eR.out], by rw [eR.out]; exact own_nil w _ LB.out⟩
  | true =>
  go_wp2_with fail
  refine (c3 B0).out.mono ?_
  rintro e w9 ⟨rfl, ew⟩
  rw [ew]; clear ew w9
  cases b3 with
  | false =>
    have eR : Hid (R = ([], 100)) := by unfold Hid; rw [HR.out]; exact enc_bad3 H3.out.symm
    go_wp2_with fail
    exact bodyPost_ret (v := .tuple #[.slice none 0 0, .int .i64 100]) (by simp [results, Tryz.results48, go_sem]) rfl ⟨.slice none 0 0, by rw [eR.out], by rw [eR.out]; exact own_nil w _ LB.out⟩
  | true =>
  obtain ⟨n, hn⟩ : ∃ n, n = id.length := ⟨_, rfl⟩
  have SZ : (⟨id.toArray⟩ : ByteArray).size = n := by rw [hsz.out, hn]
  have hnl : n ≤ 1000000000000000 := by omega
  by_cases hlong : n ≤ 4096
  · have eR : Hid (R = (recL op.toNat seq.toNat no.toNat id, 0)) := by
      unfold Hid; rw [HR.out, enc_ok H1.out.symm H2.out.symm H3.out.symm, if_pos (by omega)]
    obtain ⟨s1, hs1⟩ : ∃ s1 : Nat, (s1 : Int) = seq := ⟨seq.toNat, by have := of_decide_eq_true H2.out.symm; omega⟩
    obtain ⟨n1, hn1⟩ : ∃ n1 : Nat, (n1 : Int) = no := ⟨no.toNat, by have := of_decide_eq_true H3.out.symm; omega⟩
    have hop : op = 1 ∨ op = 2 := of_decide_eq_true H1.out.symm
    have hor : bits .or .i64 192 op = 192 + op := by rcases hop with rfl | rfl <;> decide
    have hc : Hid (((UInt8.ofNat (192 + op.toNat)).toNat : Int) = 192 + op) := by unfold Hid; rw [ofNat_mod]; omega
    have eL : Hid (recL op.toNat seq.toNat no.toNat id = ((((([] ++ [UInt8.ofNat (192 + op.toNat)]) ++ beN 2 n) ++ beN 4 s1) ++ beN 4 n1) ++ id) ++ beN 4 (sumOf (((((([] ++ [UInt8.ofNat (192 + op.toNat)]) ++ beN 2 n) ++ beN 4 s1) ++ beN 4 n1) ++ id)))) := by
      unfold Hid recL
      have e : recB op.toNat seq.toNat no.toNat id = ((((([] ++ [UInt8.ofNat (192 + op.toNat)]) ++ beN 2 n) ++ beN 4 s1) ++ beN 4 n1) ++ id) := by
        unfold recB
        rw [hn, show seq.toNat = s1 by omega, show no.toNat = n1 by omega]
        simp [List.append_assoc]
      rw [e]
    have hopi : 1 ≤ op ∧ op ≤ 2 := by omega
    have SL : Hid (s1 < 4503599627370496 ∧ n1 < 4503599627370496) := by
      unfold Hid; have := of_decide_eq_true H2.out.symm; have := of_decide_eq_true H3.out.symm; omega
    generalize UInt8.ofNat (192 + op.toNat) = c at hc eL
    have l1 : Hid (([] ++ [c]).length = 1) := rfl
    have l2 : Hid ((([] ++ [c]) ++ beN 2 n).length = 3) := by unfold Hid; simp [beN_len]
    have l3 : Hid (((([] ++ [c]) ++ beN 2 n) ++ beN 4 s1).length = 7) := by unfold Hid; simp [beN_len]
    have l4 : Hid ((((([] ++ [c]) ++ beN 2 n) ++ beN 4 s1) ++ beN 4 n1).length = 11) := by unfold Hid; simp [beN_len]
    have l5 : Hid (((((([] ++ [c]) ++ beN 2 n) ++ beN 4 s1) ++ beN 4 n1) ++ id).length = 11 + n) := by unfold Hid; simp [beN_len, hn]; omega
    have lid : Hid (id.length = n) := hn.symm
    have hmk := makeN B0 (n + 15) (by omega)
    have om := own_made B0 (n + 15) (by omega)
    have en : ((n + 15 : Nat) : Int) = 11 + (n : Int) + 4 := by omega
    rw [en] at hmk
    obtain ⟨B1, hB1⟩ : ∃ B1, B1 = B0.alloc (.cells (madeCells #[.int .u8 0] (n + 15)) 5) := ⟨_, rfl⟩
    rw [← hB1] at hmk om
    obtain ⟨x0, x1, x2, x3, -, -, -, -, xz⟩ := quad_below HQ.out om.2
    have OM := hide' om
    rw [← hs1] at q0 x0
    rw [← hn1] at q2 x2
    have HS1 := hide' hs1.symm
    have HN1 := hide' hn1.symm
    clear hB1 om en hn hs1 hn1 hop
    have hd : decide (4096 < (n : Int)) = false := by simp; omega
    go_wp2_with (at_builtin; refine app1 rfl (.tmp 31) (.tmp 36) rfl B0 _ [] rfl OM.out c (by have := hc.out; omega) rfl (by simp) ?_; intro v2 w2 ho2; obtain ⟨y0, y1, y2, y3, -, -, -, -, yz⟩ := quad_below HQ.out ho2.2; have O2 := hide' ho2; clear ho2)
    clear x0 x1 x2 x3 xz q0 q1 q2 q3 qz hmk OM
    go_wp2_with fail
    refine (appendNumberC v2 ([] ++ [c]) B0 w2 n 2 O2.out (by decide) (by rw [l1.out]; decide)).mono ?_
    rintro e w3 ⟨v3, rfl, ho3⟩
    obtain ⟨z0, z1, z2, z3, -, -, -, -, zz⟩ := quad_below HQ.out ho3.2
    rw [HS1.out] at z0
    have O3 := hide' ho3
    clear ho3 y0 y1 y2 y3 yz O2
    go_wp2_with fail
    refine (appendNumberC v3 _ B0 w3 s1 4 O3.out (by decide) (by rw [l2.out]; decide)).mono ?_
    rintro e w4 ⟨v4, rfl, ho4⟩
    obtain ⟨y0, y1, y2, y3, -, -, -, -, yz⟩ := quad_below HQ.out ho4.2
    rw [HN1.out] at y2
    have O4 := hide' ho4
    clear ho4 z0 z1 z2 z3 zz O3
    go_wp2_with fail
    refine (appendNumberC v4 _ B0 w4 n1 4 O4.out (by decide) (by rw [l3.out]; decide)).mono ?_
    rintro e w5 ⟨v5, rfl, ho5⟩
    obtain ⟨z0, z1, z2, z3, -, -, -, -, zz⟩ := quad_below HQ.out ho5.2
    have O5 := hide' ho5
    clear ho5 y0 y1 y2 y3 yz O4
    go_wp2_with (at_builtin; refine appTxt rfl (.tmp 51) (.tmp 53) rfl B0 _ _ rfl O5.out id rfl (by rw [l4.out, lid.out]; omega) ?_; intro v6 w6 ho6)
    have O6 := hide' ho6
    have S6 := hide' (holdsB_own ho6)
    clear ho6 z0 z1 z2 z3 zz O5
    generalize ((((([] ++ [c]) ++ beN 2 n) ++ beN 4 s1) ++ beN 4 n1) ++ id) = L5 at O6 S6 l5 eL
    go_wp2_with fail
    refine (sumC v6 L5 w6 S6.out (by rw [l5.out]; omega)).mono ?_
    rintro e w9 ⟨rfl, ew⟩
    rw [ew]; clear ew w9
    go_wp2_with fail
    refine (appendNumberC v6 L5 B0 w6 (sumOf L5) 4 O6.out (by decide) (by rw [l5.out]; omega)).mono ?_
    rintro e w7 ⟨v7, rfl, ho7⟩
    have O7 := hide' ho7
    clear ho7
    go_wp2_with fail
    exact bodyPost_ret (v := .tuple #[v7, .int .i64 0]) (by simp [results, Tryz.results48, go_sem]) rfl ⟨v7, by rw [eR.out], by rw [eR.out, eL.out]; exact own_base O7.out LB.out⟩
  · have eR : Hid (R = ([], 101)) := by unfold Hid; rw [HR.out, enc_ok H1.out.symm H2.out.symm H3.out.symm, if_neg (by omega)]
    have hd : decide (4096 < (n : Int)) = true := by simp; omega
    clear hn
    go_wp2_with fail
    exact bodyPost_ret (v := .tuple #[.slice none 0 0, .int .i64 101]) (by simp [results, Tryz.results48, go_sem]) rfl ⟨.slice none 0 0, by rw [eR.out], by rw [eR.out]; exact own_nil w _ LB.out⟩
end Go.Proofs.YtijnjgnckipghaaGreat
