/- Records in the document's words, plain: the check sum, numbers of several bytes, a record's bytes, what is read of any bytes; that it is read as it was written, that one byte changed is told. Nothing of the program is named here. -/
namespace Go.Proofs.Ytnbidckmekmcfab
/-- a check sum, moved on by one bit -/
def crcB (v : Nat) : Nat := if v % 2 = 1 then (v / 2) ^^^ 3988292384 else v / 2
def crcN : Nat → Nat → Nat
  | 0, v => v
  | n + 1, v => crcB (crcN n v)
/-- .. by one byte -/
def crcC (v : Nat) (c : UInt8) : Nat := crcN 8 (v ^^^ c.toNat)
def crcL (v : Nat) (l : List UInt8) : Nat := l.foldl crcC v
def sumOf (l : List UInt8) : Nat := crcL 4294967295 l ^^^ 4294967295
theorem crcB_lt {v : Nat} (h : v < 4294967296) : crcB v < 4294967296 := by
  unfold crcB
  split
  · exact Nat.xor_lt_two_pow (n := 32) (by omega) (by decide)
  · omega
theorem crcN_lt (n : Nat) {v : Nat} (h : v < 4294967296) : crcN n v < 4294967296 := by
  induction n with
  | zero => exact h
  | succ n ih => exact crcB_lt ih
theorem crcX_lt {v : Nat} (h : v < 4294967296) (c : UInt8) : v ^^^ c.toNat < 4294967296 :=
  Nat.xor_lt_two_pow (n := 32) h (by have := c.toNat_lt; omega)
theorem crcC_lt {v : Nat} (h : v < 4294967296) (c : UInt8) : crcC v c < 4294967296 := crcN_lt 8 (crcX_lt h c)
theorem crcL_lt (l : List UInt8) : ∀ {v : Nat}, v < 4294967296 → crcL v l < 4294967296 := by
  induction l with
  | nil => intro v h; exact h
  | cons c l ih => intro v h; exact ih (crcC_lt h c)
theorem sumOf_lt (l : List UInt8) : sumOf l < 4294967296 := Nat.xor_lt_two_pow (n := 32) (crcL_lt l (by decide)) (by decide)
theorem crcL_snoc (v : Nat) (l : List UInt8) (c : UInt8) : crcL v (l ++ [c]) = crcC (crcL v l) c := by simp [crcL]
theorem crcL_app (v : Nat) (l m : List UInt8) : crcL v (l ++ m) = crcL (crcL v l) m := by simp [crcL]
theorem odd_high {v : Nat} (h : v < 4294967296) (ho : v % 2 = 1) : (crcB v).testBit 31 = true := by
  unfold crcB
  rw [if_pos ho, Nat.testBit_xor, Nat.testBit_lt_two_pow (x := v / 2) (by omega)]
  decide
theorem even_low {v : Nat} (h : v < 4294967296) (ho : ¬ v % 2 = 1) : (crcB v).testBit 31 = false := by
  unfold crcB
  rw [if_neg ho]
  exact Nat.testBit_lt_two_pow (by omega)
theorem xor_inj {a b c : Nat} (h : a ^^^ c = b ^^^ c) : a = b := by
  have := congrArg (· ^^^ c) h
  simpa [Nat.xor_assoc] using this
theorem xor_injl {a b c : Nat} (h : c ^^^ a = c ^^^ b) : a = b := by
  rw [Nat.xor_comm c a, Nat.xor_comm c b] at h; exact xor_inj h
theorem crcB_inj {a b : Nat} (ha : a < 4294967296) (hb : b < 4294967296) (h : crcB a = crcB b) : a = b := by
  by_cases oa : a % 2 = 1
  · by_cases ob : b % 2 = 1
    · unfold crcB at h
      rw [if_pos oa, if_pos ob] at h
      have := xor_inj h
      omega
    · have h1 := odd_high ha oa
      rw [h, even_low hb ob] at h1
      cases h1
  · by_cases ob : b % 2 = 1
    · have h1 := odd_high hb ob
      rw [← h, even_low ha oa] at h1
      cases h1
    · unfold crcB at h
      rw [if_neg oa, if_neg ob] at h
      omega
theorem crcN_inj (n : Nat) {a b : Nat} (ha : a < 4294967296) (hb : b < 4294967296) (h : crcN n a = crcN n b) : a = b := by
  induction n with
  | zero => exact h
  | succ n ih => exact ih (crcB_inj (crcN_lt n ha) (crcN_lt n hb) h)
theorem crcL_inj (l : List UInt8) : ∀ {a b : Nat}, a < 4294967296 → b < 4294967296 → crcL a l = crcL b l → a = b := by
  induction l with
  | nil => intro a b _ _ h; exact h
  | cons c l ih =>
    intro a b ha hb h
    exact xor_inj (crcN_inj 8 (crcX_lt ha c) (crcX_lt hb c) (ih (crcC_lt ha c) (crcC_lt hb c) h))
/-- two rows that part at one byte alone have unlike sums -/
theorem sum_tells (xs ys : List UInt8) (c d : UInt8) (h : sumOf (xs ++ c :: ys) = sumOf (xs ++ d :: ys)) : c = d := by
  have h1 := xor_inj h
  rw [crcL_app, crcL_app] at h1
  have hv : crcL 4294967295 xs < 4294967296 := crcL_lt xs (by decide)
  have h2 := crcL_inj ys (crcC_lt hv c) (crcC_lt hv d) h1
  exact UInt8.toNat_inj.1 (xor_injl (crcN_inj 8 (crcX_lt hv c) (crcX_lt hv d) h2))
/-- a number in so many bytes, the greatest first -/
def beN : Nat → Nat → List UInt8
  | 0, _ => []
  | k + 1, v => UInt8.ofNat (v / 256 ^ k) :: beN k v
def valA (a : Nat) (l : List UInt8) : Nat := l.foldl (fun n c => n * 256 + c.toNat) a
def valN (l : List UInt8) : Nat := valA 0 l
theorem beN_len (k v : Nat) : (beN k v).length = k := by
  induction k with
  | zero => rfl
  | succ k ih => simp [beN, ih]
theorem valA_eq (l : List UInt8) : ∀ a, valA a l = a * 256 ^ l.length + valA 0 l := by
  induction l with
  | nil => intro a; simp [valA]
  | cons c l ih =>
    intro a
    show valA (a * 256 + c.toNat) l = _ + valA (0 * 256 + c.toNat) l
    rw [ih, ih (0 * 256 + c.toNat), List.length_cons, Nat.pow_succ, Nat.zero_mul, Nat.zero_add, Nat.add_mul, Nat.mul_assoc, Nat.mul_comm 256, Nat.add_assoc]
theorem valN_cons (c : UInt8) (l : List UInt8) : valN (c :: l) = c.toNat * 256 ^ l.length + valN l := by
  show valA (0 * 256 + c.toNat) l = _
  rw [valA_eq, Nat.zero_mul, Nat.zero_add]; rfl
theorem valN_snoc (l : List UInt8) (c : UInt8) : valN (l ++ [c]) = valN l * 256 + c.toNat := by simp [valN, valA]
theorem valN_lt (l : List UInt8) : valN l < 256 ^ l.length := by
  induction l with
  | nil => decide
  | cons c l ih =>
    rw [valN_cons, List.length_cons, Nat.pow_succ]
    have h := c.toNat_lt
    have : c.toNat * 256 ^ l.length + 256 ^ l.length ≤ 256 ^ l.length * 256 := by
      have := Nat.mul_le_mul_right (256 ^ l.length) (show c.toNat + 1 ≤ 256 by omega)
      rw [Nat.add_mul, Nat.one_mul] at this
      rw [Nat.mul_comm (256 ^ l.length) 256]
      exact this
    omega
theorem ofNat_mod (n : Nat) : (UInt8.ofNat n).toNat = n % 256 := by simp
theorem valN_be (k v : Nat) : valN (beN k v) = v % 256 ^ k := by
  induction k with
  | zero => rw [Nat.pow_zero, Nat.mod_one]; rfl
  | succ k ih =>
    show valN (_ :: beN k v) = _
    rw [valN_cons, beN_len, ih, ofNat_mod, Nat.pow_succ, Nat.mod_mul, Nat.mul_comm, Nat.add_comm]
theorem valN_be' (k v : Nat) (h : v < 256 ^ k) : valN (beN k v) = v := by rw [valN_be, Nat.mod_eq_of_lt h]
theorem beN_app (k : Nat) (v : Nat) (m : Nat) : beN k (m * 256 ^ k + v) = beN k v := by
  induction k generalizing m with
  | zero => rfl
  | succ k ih =>
    show UInt8.ofNat _ :: beN k _ = UInt8.ofNat _ :: beN k _
    congr 1
    · apply UInt8.toNat_inj.1
      rw [ofNat_mod, ofNat_mod, Nat.pow_succ, Nat.mul_comm (256 ^ k) 256, ← Nat.mul_assoc, Nat.add_comm, Nat.add_mul_div_right _ _ (Nat.pow_pos (by decide)), Nat.add_mul_mod_self_right]
    · rw [Nat.pow_succ, Nat.mul_comm (256 ^ k) 256, ← Nat.mul_assoc]
      exact ih (m * 256)
theorem beN_val (l : List UInt8) : beN l.length (valN l) = l := by
  induction l with
  | nil => rfl
  | cons c l ih =>
    rw [valN_cons, List.length_cons]
    show UInt8.ofNat _ :: beN l.length _ = _
    rw [beN_app, ih]
    congr 1
    apply UInt8.toNat_inj.1
    rw [ofNat_mod, Nat.add_comm, Nat.add_mul_div_right _ _ (Nat.pow_pos (by decide)), Nat.div_eq_of_lt (valN_lt l), Nat.zero_add]
    have := c.toNat_lt
    omega
/-- all of a record but its check sum -/
def recB (op seq no : Nat) (id : List UInt8) : List UInt8 := UInt8.ofNat (192 + op) :: (beN 2 id.length ++ (beN 4 seq ++ (beN 4 no ++ id)))
def recL (op seq no : Nat) (id : List UInt8) : List UInt8 := recB op seq no id ++ beN 4 (sumOf (recB op seq no id))
theorem recB_len (op seq no : Nat) (id : List UInt8) : (recB op seq no id).length = 11 + id.length := by simp [recB, beN_len]; omega
theorem recL_len (op seq no : Nat) (id : List UInt8) : (recL op seq no id).length = 15 + id.length := by rw [recL, List.length_append, recB_len, beN_len]; omega
/-- what Encode answers: seq, op, no are any integers -/
def encOf (seq op no : Int) (id : List UInt8) : List UInt8 × Int :=
  if (op = 1 ∨ op = 2) ∧ (0 ≤ seq ∧ seq ≤ 4294967295) ∧ (0 ≤ no ∧ no ≤ 4294967295) then
    (if id.length ≤ 4096 then (recL op.toNat seq.toNat no.toNat id, 0) else ([], 101))
  else ([], 100)
/-- a record as it is read: seq, op, no, id; its length; the error -/
structure RecD where
  seq : Nat
  op : Nat
  no : Nat
  id : List UInt8
  n : Nat
  e : Int
def decErr (e : Int) : RecD := ⟨0, 0, 0, [], 0, e⟩
def midN (l : List UInt8) (a b : Nat) : List UInt8 := (l.drop a).take (b - a)
def decOf (l : List UInt8) : RecD :=
  if l.length = 0 then decErr 0
  else if ¬ ((l[0]?.getD 0).toNat = 193 ∨ (l[0]?.getD 0).toNat = 194) then decErr 100
  else if l.length < 3 then decErr 0
  else if 4096 < valN (midN l 1 3) then decErr 100
  else if l.length < valN (midN l 1 3) + 15 then decErr 0
  else if valN (midN l (valN (midN l 1 3) + 11) (valN (midN l 1 3) + 15)) = sumOf (l.take (valN (midN l 1 3) + 11)) then
    ⟨valN (midN l 3 7), (l[0]?.getD 0).toNat - 192, valN (midN l 7 11), midN l 11 (valN (midN l 1 3) + 11), valN (midN l 1 3) + 15, 0⟩
  else decErr 100
end Go.Proofs.Ytnbidckmekmcfab
