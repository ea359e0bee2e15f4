/- Plain: the number that an element tells; the lengths' rule, the codings', the fields'; what folding leaves of a number. Nothing of the program is named here. Numbers of 1 to 18 digits, gathered from the left. Plain (layer 19, ahead of its landing): where a text stands in bytes; the least number whose boundary does not stand in them. Plain (layer 19, ahead of its landing): what an element of a Range tells, and what a whole one. Plain (layer 19, ahead of its landing): a Range that is written out of two numbers is read as its span. Where a pattern first stands in a text, in plain words: with more behind, and ahead of the end; pairs ahead; the head's end. Plain (layer 19): a text cut at its first '-'; what an element tells, as the program reads it. Plain (layer 19): the numbers of the boundaries that stand in bytes, gathered mark by mark; the least one that doesn't is none above their length. -/
import Derived.Test.YtipcmbonhkelbabGreatDoorBm
import Derived.Lib.ItoaNum
import Derived.Test.YtipcmbonhkelbabGreatDoorPlain
import Derived.Test.YtipcmbonhkelbabGreatDoorBl
import Derived.Lib.IndexMore
import Derived.Lib.Split
import Derived.Lib.IndexAny
namespace Go.Proofs.YtipcmbonhkelbabGreatDoor
open Go.RowKit
def digF (c : UInt8) : Bool := decide (48 ≤ c.toNat ∧ c.toNat ≤ 57)
/-- one to 18 digits -/
def isNum (l : List UInt8) : Bool := decide (1 ≤ l.length) && decide (l.length ≤ 18) && l.all digF
def numA (acc : Nat) (l : List UInt8) : Nat := l.foldl (fun a c => a * 10 + (c.toNat - 48)) acc
theorem numA_nil (acc : Nat) : numA acc [] = acc := by unfold numA; rw [List.foldl_nil]
theorem numA_cons (acc : Nat) (c : UInt8) (r : List UInt8) : numA acc (c :: r) = numA (acc * 10 + (c.toNat - 48)) r := by unfold numA; rw [List.foldl_cons]
def numF (l : List UInt8) : Nat := numA 0 l
/-- the number, or -1 -/
def numR (l : List UInt8) : Int := if isNum l = true then (numF l : Int) else -1
def lensOf : List (List UInt8) → Int × Int × Int
  | [] => (0, 0, 60)
  | x :: r => if (isNum x && r.all (fun y => isNum y && decide (numF y = numF x))) = true then (if 65536 < numF x then (0, 0, 71) else (1, (numF x : Int), 0)) else (0, 0, 60)
def chunkedB : List UInt8 := [99, 104, 117, 110, 107, 101, 100]
def codOf (minor : Int) (ws : List (List UInt8)) : Int × Int × Int := if minor = 0 ∨ ¬ ws = [chunkedB] then (0, 0, 62) else (2, 0, 0)
def TEb : List UInt8 := [84, 114, 97, 110, 115, 102, 101, 114, 45, 69, 110, 99, 111, 100, 105, 110, 103]
def CLb : List UInt8 := [67, 111, 110, 116, 101, 110, 116, 45, 76, 101, 110, 103, 116, 104]
def COb : List UInt8 := [67, 111, 110, 110, 101, 99, 116, 105, 111, 110]
def teb : List UInt8 := [116, 114, 97, 110, 115, 102, 101, 114, 45, 101, 110, 99, 111, 100, 105, 110, 103]
def clb : List UInt8 := [99, 111, 110, 116, 101, 110, 116, 45, 108, 101, 110, 103, 116, 104]
def cob : List UInt8 := [99, 111, 110, 110, 101, 99, 116, 105, 111, 110]
def closeB : List UInt8 := [99, 108, 111, 115, 101]
def keepB : List UInt8 := [107, 101, 101, 112, 45, 97, 108, 105, 118, 101]
/-- the fields' rule: kind, length, error; silent is the kind where the fields tell none -/
def ruleOf (minor : Int) (fs : FL) (silent : Int) : Int × Int × Int :=
  if 0 < (valsOf fs TEb).length ∧ 0 < (valsOf fs CLb).length then (0, 0, 61)
  else if 0 < (valsOf fs TEb).length then codOf minor (toksOf (valsOf fs TEb))
  else if 0 < (valsOf fs CLb).length then lensOf (toksOf (valsOf fs CLb))
  else (silent, 0, 0)
def headB : List UInt8 := [72, 69, 65, 68]
def connB : List UInt8 := [67, 79, 78, 78, 69, 67, 84]
def bareOf (s : Int) (m : List UInt8) : Bool := decide (m = headB ∨ (100 ≤ s ∧ s ≤ 199) ∨ s = 204 ∨ s = 304 ∨ (m = connB ∧ 200 ≤ s ∧ s ≤ 299))
def fresOf (s minor : Int) (fs : FL) (m : List UInt8) : Int × Int × Int := if bareOf s m = true then (0, 0, 0) else ruleOf minor fs 3
def lastOf (minor : Int) (ws : List (List UInt8)) : Bool := decide (closeB ∈ ws) || (decide (minor = 0) && ! decide (keepB ∈ ws))
theorem vals_low {n m : List UInt8} (h : lows n = lows m) (fs : FL) : valsOf fs n = valsOf fs m := by unfold valsOf; rw [h]
theorem vals_te (fs : FL) : valsOf fs teb = valsOf fs TEb := vals_low (by decide) fs
theorem vals_cl (fs : FL) : valsOf fs clb = valsOf fs CLb := vals_low (by decide) fs
theorem vals_co (fs : FL) : valsOf fs cob = valsOf fs COb := vals_low (by decide) fs
theorem dig_low : ∀ n : Fin 256, digF (low (UInt8.ofNat n.val)) = digF (UInt8.ofNat n.val) ∧ (digF (UInt8.ofNat n.val) = true → low (UInt8.ofNat n.val) = UInt8.ofNat n.val) := by decide +kernel
theorem dig_low' (c : UInt8) : digF (low c) = digF c ∧ (digF c = true → low c = c) := by
  have h := dig_low ⟨c.toNat, c.toNat_lt⟩
  simp only [UInt8.ofNat_toNat] at h
  exact h
theorem all_low (l : List UInt8) : (lows l).all digF = l.all digF := by
  induction l with
  | nil => rfl
  | cons c r ih =>
    have e : lows (c :: r) = low c :: lows r := rfl
    rw [e, List.all_cons, List.all_cons, ih, (dig_low' c).1]
theorem isNum_low (l : List UInt8) : isNum (lows l) = isNum l := by
  have e : (lows l).length = l.length := by simp [lows]
  unfold isNum; rw [all_low, e]
theorem lows_dig (l : List UInt8) (h : l.all digF = true) : lows l = l := by
  induction l with
  | nil => rfl
  | cons c r ih =>
    rw [List.all_cons, Bool.and_eq_true] at h
    have e : lows (c :: r) = low c :: lows r := rfl
    rw [e, ih h.2, (dig_low' c).2 h.1]
theorem isNum_parts {l : List UInt8} (h : isNum l = true) : 1 ≤ l.length ∧ l.length ≤ 18 ∧ l.all digF = true := by
  unfold isNum at h
  simp only [Bool.and_eq_true, decide_eq_true_eq] at h
  exact ⟨h.1.1, h.1.2, h.2⟩
theorem numF_low {l : List UInt8} (h : isNum l = true) : numF (lows l) = numF l := by rw [lows_dig l (isNum_parts h).2.2]
theorem lens_low (els : List (List UInt8)) : lensOf (els.map lows) = lensOf els := by
  cases els with
  | nil => rfl
  | cons x r =>
    rw [List.map_cons]
    simp only [lensOf]
    rw [isNum_low]
    cases hx : isNum x with
    | false => rfl
    | true =>
      have e : (r.map lows).all (fun y => isNum y && decide (numF y = numF (lows x))) = r.all (fun y => isNum y && decide (numF y = numF x)) := by
        rw [List.all_map]
        congr 1
        funext y
        simp only [Function.comp, isNum_low, numF_low hx]
        cases hy : isNum y with
        | false => rfl
        | true => rw [numF_low hy]
      rw [e, numF_low hx]
theorem lens_toks (vs : List (List UInt8)) : lensOf (toksOf vs) = lensOf (vs.flatMap listOf) := lens_low _
theorem numA_bound (l : List UInt8) : ∀ acc, l.all digF = true → numA acc l < (acc + 1) * 10 ^ l.length := by
  induction l with
  | nil =>
    intro acc _
    rw [List.length_nil, Nat.pow_zero, Nat.mul_one, numA_nil]
    exact Nat.lt_succ_self acc
  | cons c r ih =>
    intro acc h
    rw [List.all_cons, Bool.and_eq_true] at h
    have h1 := ih (acc * 10 + (c.toNat - 48)) h.2
    have h2 : c.toNat - 48 ≤ 9 := by
      have := h.1
      unfold digF at this
      simp at this; omega
    have h3 : (acc * 10 + (c.toNat - 48) + 1) * 10 ^ r.length ≤ ((acc + 1) * 10) * 10 ^ r.length := Nat.mul_le_mul_right _ (by omega)
    rw [List.length_cons, Nat.pow_succ, Nat.mul_comm (10 ^ r.length) 10, ← Nat.mul_assoc, numA_cons]
    exact Nat.lt_of_lt_of_le h1 h3
theorem numF_bound {l : List UInt8} (h : isNum l = true) : numF l < 1000000000000000000 := by
  obtain ⟨_, h2, h3⟩ := isNum_parts h
  have h1 := numA_bound l 0 h3
  have h4 : (10 : Nat) ^ l.length ≤ 10 ^ 18 := Nat.pow_le_pow_right (by decide) h2
  rw [Nat.zero_add, Nat.one_mul] at h1
  exact Nat.lt_of_lt_of_le h1 h4
theorem toks_le (fs : FL) (nm : List UInt8) (hb : bulkF fs ≤ 1048576) : (toksOf (valsOf fs nm)).length ≤ 1048576 := by
  have h1 := toks_len (valsOf fs nm)
  have h2 := bulk_vals fs nm
  omega
end Go.Proofs.YtipcmbonhkelbabGreatDoor
namespace Go.Proofs.YtipcmbonhkelbabGreatDoor
open Go.RowKit
theorem numA_snoc (l : List UInt8) (c : UInt8) (acc : Nat) : numA acc (l ++ [c]) = numA acc l * 10 + (c.toNat - 48) := by unfold numA; rw [List.foldl_append]; rfl
theorem numR_short {l : List UInt8} (h : l.length < 1) : numR l = -1 := by
  unfold numR isNum
  rw [decide_eq_false (by omega)]
  rfl
theorem numR_long {l : List UInt8} (h : 18 < l.length) : numR l = -1 := by
  unfold numR isNum
  rw [decide_eq_false (p := l.length ≤ 18) (by omega), Bool.and_false, Bool.false_and]
  rfl
theorem numR_bad {l : List UInt8} {k : Nat} (hk : k < l.length) (h : digF l[k] = false) : numR l = -1 := by
  unfold numR isNum
  have : l.all digF = false := by rw [List.all_eq_false]; exact ⟨l[k], List.getElem_mem _, by simp [h]⟩
  rw [this, Bool.and_false]
  rfl
theorem numR_good {l : List UInt8} (h1 : 1 ≤ l.length) (h2 : l.length ≤ 18) (h3 : l.all digF = true) : numR l = (numF l : Int) := by
  unfold numR isNum
  rw [decide_eq_true h1, decide_eq_true h2, h3]
  rfl
/-- what is gathered of the first k bytes, all digits -/
def NumTo (s : ByteArray) (k : Nat) (a : Int) : Prop := (s.data.toList.take k).all digF = true ∧ a = (numF (s.data.toList.take k) : Int) ∧ 0 ≤ a ∧ a < 10 ^ k
theorem numTo_next {s : ByteArray} {k : Nat} {a : Int} (h : NumTo s k a) (hk : k < s.size) (h0 : 48 ≤ s[k].toNat) (h1 : s[k].toNat ≤ 57) : NumTo s (k + 1) (a * 10 + (s[k].toNat : Int) - 48) := by
  obtain ⟨h2, h3, h4, h5⟩ := h
  refine ⟨?_, ?_, by omega, ?_⟩
  · rw [take_snoc s k hk, List.all_append, h2, List.all_cons, List.all_nil, Bool.and_true, Bool.true_and]
    exact decide_eq_true ⟨h0, h1⟩
  · rw [take_snoc s k hk]
    unfold numF at h3 ⊢
    rw [numA_snoc]
    omega
  · rw [Int.pow_succ]
    omega
theorem pow17 {k : Nat} (h : k ≤ 17) : (10 : Int) ^ k ≤ 100000000000000000 := by
  have h1 : (10 : Nat) ^ k ≤ 10 ^ 17 := Nat.pow_le_pow_right (by decide) h
  have h2 : ((10 ^ k : Nat) : Int) ≤ ((10 ^ 17 : Nat) : Int) := by exact_mod_cast h1
  have h3 : ((10 ^ k : Nat) : Int) = (10 : Int) ^ k := by push_cast; rfl
  rw [← h3]
  exact h2
end Go.Proofs.YtipcmbonhkelbabGreatDoor
namespace Go.Proofs.YtipcmbonhkelbabGreatDoor
open Go.RowKit
theorem pigeon : ∀ (K M : Nat) (f : Nat → Nat), (∀ n, n ≤ M → f n < K) → (∀ a b, a ≤ M → b ≤ M → f a = f b → a = b) → M + 1 ≤ K := by
  intro K
  induction K with
  | zero => intro M f h _; exact absurd (h 0 (Nat.zero_le _)) (Nat.not_lt_zero _)
  | succ K ih =>
    intro M f h inj
    cases M with
    | zero => omega
    | succ M =>
      have key := ih M (fun n => if f n = K then f (M + 1) else f n) ?_ ?_
      · omega
      · intro n hn
        have h1 := h n (by omega)
        have h2 := h (M + 1) (Nat.le_refl _)
        by_cases e : f n = K
        · simp only [if_pos e]
          have : ¬ f (M + 1) = K := fun e2 => by
            have := inj n (M + 1) (by omega) (Nat.le_refl _) (e.trans e2.symm)
            omega
          omega
        · simp only [if_neg e]
          omega
      · intro a b ha hb
        by_cases ea : f a = K
        · by_cases eb : f b = K
          · intro _; exact inj a b (by omega) (by omega) (ea.trans eb.symm)
          · rw [if_pos ea, if_neg eb]
            intro e
            have := inj (M + 1) b (Nat.le_refl _) (by omega) e
            omega
        · by_cases eb : f b = K
          · rw [if_neg ea, if_pos eb]
            intro e
            have := inj a (M + 1) (by omega) (Nat.le_refl _) e
            omega
          · rw [if_neg ea, if_neg eb]
            exact inj a b (by omega) (by omega)
/-- the value of digits -/
def numT (l : List UInt8) : Nat := l.foldl (fun v c => v * 10 + (c.toNat - 48)) 0
theorem numT_dec (n : Nat) : numT (Lib.decDigits n) = n := by
  induction n using Nat.strongRecOn with
  | ind n ih =>
    have dd : ∀ k, k < 10 → (UInt8.ofNat (48 + k)).toNat - 48 = k := fun k hk => by rw [UInt8.toNat_ofNat']; omega
    by_cases h : n < 10
    · rw [Lib.decDigits_one h]
      unfold numT
      simp only [List.foldl_cons, List.foldl_nil, dd n h]
      omega
    · rw [Lib.decDigits, dif_neg h]
      have e := ih (n / 10) (by omega)
      unfold numT at e ⊢
      rw [List.foldl_append, e]
      simp only [List.foldl_cons, List.foldl_nil, dd (n % 10) (by omega)]
      omega
theorem decT_len : ∀ (k n : Nat), n < 10 ^ (k + 1) → (Lib.decDigits n).length ≤ k + 1
  | 0, n, h => by rw [Lib.decDigits_one (by simpa using h)]; simp
  | k + 1, n, h => by
    by_cases h1 : n < 10
    · rw [Lib.decDigits_one h1]; simp
    · rw [Lib.decDigits, dif_neg h1]
      have := decT_len k (n / 10) (by rw [Nat.pow_succ] at h; omega)
      simp; omega
/-- s stands in b at i -/
def stAt (s b : List UInt8) (i : Nat) : Bool := decide (i + s.length ≤ b.length) && decide ((b.drop i).take s.length = s)
def stIn (s b : List UInt8) : Bool := (List.range (b.length + 1)).any (stAt s b)
theorem stIn_iff (s b : List UInt8) : stIn s b = true ↔ ∃ i, stAt s b i = true := by
  unfold stIn
  rw [List.any_eq_true]
  constructor
  · rintro ⟨i, _, h⟩; exact ⟨i, h⟩
  · rintro ⟨i, h⟩
    refine ⟨i, ?_, h⟩
    unfold stAt at h
    simp only [Bool.and_eq_true, decide_eq_true_eq] at h
    exact List.mem_range.2 (by omega)
def dashC : List UInt8 := [45, 45, 99, 111, 110, 100, 117, 105, 116, 45]
def markB (n : Nat) : List UInt8 := dashC ++ Lib.decDigits n
theorem mark_inj {b : List UInt8} {i m n : Nat} (h1 : stAt (markB m) b i = true) (h2 : stAt (markB n) b i = true) (hl : (Lib.decDigits m).length = (Lib.decDigits n).length) : m = n := by
  unfold stAt at h1 h2
  simp only [Bool.and_eq_true, decide_eq_true_eq] at h1 h2
  have el : (markB m).length = (markB n).length := by unfold markB; rw [List.length_append, List.length_append, hl]
  have e : markB m = markB n := by rw [← h1.2, ← h2.2, el]
  unfold markB at e
  have e2 := List.append_cancel_left e
  rw [← numT_dec m, ← numT_dec n, e2]
open Classical in
theorem mark_free (b : List UInt8) (hb : b.length ≤ 140737488355328) : ∃ n, n ≤ 20 * (b.length + 1) ∧ stIn (markB n) b = false := by
  apply Classical.byContradiction
  intro hno
  have all : ∀ n, n ≤ 20 * (b.length + 1) → ∃ i, stAt (markB n) b i = true := fun n hn => by
    have : ¬ stIn (markB n) b = false := fun e => hno ⟨n, hn, e⟩
    rw [Bool.not_eq_false] at this
    exact (stIn_iff _ _).1 this
  let pos : Nat → Nat := fun n => if h : ∃ i, stAt (markB n) b i = true then Classical.choose h else 0
  have hpos : ∀ n, n ≤ 20 * (b.length + 1) → stAt (markB n) b (pos n) = true := fun n hn => by
    show stAt (markB n) b (if h : ∃ i, stAt (markB n) b i = true then Classical.choose h else 0) = true
    rw [dif_pos (all n hn)]
    exact Classical.choose_spec (all n hn)
  have hlt : ∀ n, n ≤ 20 * (b.length + 1) → pos n < b.length + 1 := fun n hn => by
    have := hpos n hn
    unfold stAt at this
    simp only [Bool.and_eq_true, decide_eq_true_eq] at this
    omega
  have hd : ∀ n, n ≤ 20 * (b.length + 1) → (Lib.decDigits n).length < 20 := fun n hn => by
    have := decT_len 18 n (by show n < 10000000000000000000; omega)
    omega
  have := pigeon ((b.length + 1) * 20) (20 * (b.length + 1)) (fun n => pos n * 20 + (Lib.decDigits n).length) ?_ ?_
  · omega
  · intro n hn
    have h1 := hlt n hn
    have h2 := hd n hn
    have : pos n * 20 + 20 ≤ (b.length + 1) * 20 := by
      have : (pos n + 1) * 20 ≤ (b.length + 1) * 20 := Nat.mul_le_mul_right 20 h1
      omega
    omega
  · intro a c ha hc e
    have h1 := hd a ha
    have h2 := hd c hc
    have e1 : pos a = pos c := by omega
    have e2 : (Lib.decDigits a).length = (Lib.decDigits c).length := by omega
    have p1 := hpos a ha
    rw [e1] at p1
    exact mark_inj p1 (hpos c hc) e2
/-- the least number whose boundary doesn't stand in b -/
def markN (b : List UInt8) : Nat := (List.range (20 * (b.length + 1) + 1)).findIdx (fun n => !stIn (markB n) b)
theorem markN_spec (b : List UInt8) (hb : b.length ≤ 140737488355328) : markN b ≤ 20 * (b.length + 1) ∧ stIn (markB (markN b)) b = false ∧ ∀ m, m < markN b → stIn (markB m) b = true := by
  obtain ⟨n, hn, h⟩ := mark_free b hb
  have hlt : markN b < (List.range (20 * (b.length + 1) + 1)).length := List.findIdx_lt_length_of_exists ⟨n, List.mem_range.2 (by omega), by rw [h]; rfl⟩
  have h1 : (!stIn (markB (markN b)) b) = true := by
    have h1 := List.findIdx_getElem (w := hlt)
    have e : ∀ (i : Nat) (h : i < (List.range (20 * (b.length + 1) + 1)).length), (List.range (20 * (b.length + 1) + 1))[i]'h = i := fun i h => List.getElem_range h
    exact (congrArg (fun n => !stIn (markB n) b) (e _ hlt)).symm.trans h1
  rw [List.length_range] at hlt
  refine ⟨by omega, by simpa using h1, ?_⟩
  intro m hm
  have h2 := List.not_of_lt_findIdx hm
  simp only [List.getElem_range] at h2
  simpa using h2
end Go.Proofs.YtipcmbonhkelbabGreatDoor
namespace Go.Proofs.YtipcmbonhkelbabGreatDoor
open Go.RowKit
/-- where the first '-' stands -/
def dashK (s : List UInt8) : Nat := (s.takeWhile (fun c => decide (¬ (c.toNat : Int) = 45))).length
def rngA (s : List UInt8) : List UInt8 := s.take (dashK s)
def rngB (s : List UInt8) : List UInt8 := s.drop (dashK s + 1)
/-- is it neither of the two kinds? -/
def rngBad (s : List UInt8) : Bool :=
  !(decide (dashK s < s.length)) || (if dashK s = 0 then decide (numR (rngB s) < 0) else decide (numR (rngA s) < 0) || (!(rngB s).isEmpty && decide (numR (rngB s) < numR (rngA s))))
/-- the span that it tells -/
def rngSp (z : Int) (s : List UInt8) : Option (Int × Int) :=
  if dashK s = 0 then (if 0 < min (numR (rngB s)) z then some (z - min (numR (rngB s)) z, z - 1) else none)
  else if numR (rngA s) < z then some (numR (rngA s), if numR (rngB s) < 0 ∨ z - 1 < numR (rngB s) then z - 1 else numR (rngB s)) else none
def bytB : List UInt8 := [98, 121, 116, 101, 115, 61]
def rngL (z : Int) (els : List (List UInt8)) : List (Int × Int) := els.filterMap (rngSp z)
/-- what a Range tells of z bytes: the error, the spans -/
def rngP (l : List UInt8) (z : Int) : Int × List (Int × Int) :=
  if z < 0 ∨ l.length < 6 ∨ ¬ lows (l.take 6) = bytB then (190, [])
  else if (listOf (l.drop 6)).length = 0 ∨ 8 < (listOf (l.drop 6)).length then (190, [])
  else if (listOf (l.drop 6)).any rngBad = true then (190, [])
  else if rngL z (listOf (l.drop 6)) = [] then (191, []) else (0, rngL z (listOf (l.drop 6)))
theorem tw_self {p : UInt8 → Bool} : ∀ (l : List UInt8), (∀ c ∈ l, p c = true) → l.takeWhile p = l
  | [], _ => rfl
  | c :: r, h => by rw [List.takeWhile_cons, h c List.mem_cons_self, if_pos rfl, tw_self r (fun x hx => h x (List.mem_cons_of_mem _ hx))]
theorem dash_le (s : List UInt8) : dashK s ≤ s.length := by
  unfold dashK
  exact (List.takeWhile_prefix _).length_le
theorem dash_eq (s : List UInt8) (k : Nat) (h : ∀ c ∈ s.take k, ¬ (c.toNat : Int) = 45) (hk : k ≤ s.length) (he : ∀ h : k < s.length, (s[k].toNat : Int) = 45) : dashK s = k := by
  unfold dashK
  have e : s = s.take k ++ s.drop k := (List.take_append_drop k s).symm
  have hw : (s.take k).takeWhile (fun c => decide (¬ (c.toNat : Int) = 45)) = s.take k := tw_self _ (fun c hc => decide_eq_true (h c hc))
  rw [e, List.takeWhile_append, hw, if_pos rfl]
  have h2 : (s.drop k).takeWhile (fun c => decide (¬ (c.toNat : Int) = 45)) = [] := by
    by_cases hlt : k < s.length
    · rw [List.drop_eq_getElem_cons hlt, List.takeWhile_cons, decide_eq_false (fun hn => hn (he hlt))]
      rfl
    · rw [List.drop_eq_nil_of_le (by omega)]; rfl
  rw [h2, List.append_nil, List.length_take]
  omega
theorem numR_low (l : List UInt8) : -1 ≤ numR l ∧ numR l < 1000000000000000000 := by
  unfold numR
  split
  · rename_i h
    have := numF_bound h
    omega
  · omega
theorem rngL_snoc (z : Int) (els : List (List UInt8)) (e : List UInt8) : rngL z (els ++ [e]) = rngL z els ++ (rngSp z e).toList := by
  unfold rngL
  rw [List.filterMap_append]
  cases h : rngSp z e <;> simp [h]
theorem rngL_len (z : Int) (els : List (List UInt8)) : (rngL z els).length ≤ els.length := List.length_filterMap_le _ _
theorem rngP_short (l : List UInt8) (z : Int) (h : z < 0 ∨ l.length < 6) : rngP l z = (190, []) := by
  unfold rngP
  rw [if_pos (by rcases h with h | h; exact .inl h; exact .inr (.inl h))]
theorem rngP_word (l : List UInt8) (z : Int) (h : ¬ lows (l.take 6) = bytB) : rngP l z = (190, []) := by
  unfold rngP
  rw [if_pos (.inr (.inr h))]
theorem rngP_count (l : List UInt8) (z : Int) (h : (listOf (l.drop 6)).length = 0 ∨ 8 < (listOf (l.drop 6)).length) : rngP l z = (190, []) := by
  unfold rngP
  split
  · rfl
  · rfl
theorem rngP_bad (l : List UInt8) (z : Int) (h : (listOf (l.drop 6)).any rngBad = true) : rngP l z = (190, []) := by
  unfold rngP
  split
  · rfl
  · split
    · rfl
    · rfl
theorem rngP_good (l : List UInt8) (z : Int) (h1 : 0 ≤ z) (h2 : 6 ≤ l.length) (h3 : lows (l.take 6) = bytB) (h4 : ¬ (listOf (l.drop 6)).length = 0) (h5 : (listOf (l.drop 6)).length ≤ 8) (h6 : (listOf (l.drop 6)).any rngBad = false) : rngP l z = if rngL z (listOf (l.drop 6)) = [] then (191, []) else (0, rngL z (listOf (l.drop 6))) := by
  unfold rngP
  rw [if_neg (by rintro (h | h | h); omega; omega; exact h h3), if_neg (by omega), h6, if_neg (by decide)]
/-- the spans lie within -/
theorem rngSp_in (z : Int) (s : List UInt8) (hb : rngBad s = false) {p : Int × Int} (h : rngSp z s = some p) : 0 ≤ p.1 ∧ p.1 ≤ p.2 ∧ p.2 < z := by
  have n1 := numR_low (rngA s)
  have n2 := numR_low (rngB s)
  unfold rngBad at hb
  unfold rngSp at h
  by_cases h0 : dashK s = 0
  · rw [if_pos h0] at h
    split at h
    · obtain rfl := Option.some.inj h
      dsimp only
      omega
    · cases h
  · rw [if_neg h0] at h hb
    simp only [Bool.or_eq_false_iff, Bool.and_eq_false_iff, decide_eq_false_iff_not, Bool.not_eq_false'] at hb
    obtain ⟨_, hb1, hb2⟩ := hb
    split at h
    · obtain rfl := Option.some.inj h
      dsimp only
      rename_i hz
      refine ⟨by omega, ?_, ?_⟩
      · split
        · omega
        · rename_i hn
          rcases hb2 with hb2 | hb2
          · rw [List.isEmpty_iff] at hb2
            exfalso
            apply hn
            left
            rw [hb2]
            decide
          · omega
      · split <;> omega
    · cases h
theorem rngP_in (l : List UInt8) (z : Int) : ∀ p ∈ (rngP l z).2, 0 ≤ p.1 ∧ p.1 ≤ p.2 ∧ p.2 < z := by
  unfold rngP
  split
  · intro p hp; cases hp
  · split
    · intro p hp; cases hp
    · split
      · intro p hp; cases hp
      · rename_i hb
        split
        · intro p hp; cases hp
        · intro p hp
          unfold rngL at hp
          obtain ⟨s, hs, e⟩ := List.mem_filterMap.1 hp
          refine rngSp_in z s ?_ e
          cases h : rngBad s with
          | false => rfl
          | true => exact absurd (List.any_eq_true.2 ⟨s, hs, h⟩) hb
theorem rngP_len (l : List UInt8) (z : Int) : (rngP l z).2.length ≤ 8 := by
  unfold rngP
  split
  · exact Nat.zero_le _
  · split
    · exact Nat.zero_le _
    · rename_i hc
      split
      · exact Nat.zero_le _
      · split
        · exact Nat.zero_le _
        · have := rngL_len z (listOf (l.drop 6))
          dsimp only
          omega
theorem rngP_cases (l : List UInt8) (z : Int) : ((rngP l z).1 = 190 ∧ (rngP l z).2 = []) ∨ ((rngP l z).1 = 191 ∧ (rngP l z).2 = []) ∨ ((rngP l z).1 = 0 ∧ (rngP l z).2 ≠ []) := by
  unfold rngP
  split
  · exact .inl ⟨rfl, rfl⟩
  · split
    · exact .inl ⟨rfl, rfl⟩
    · split
      · exact .inl ⟨rfl, rfl⟩
      · split
        · exact .inr (.inl ⟨rfl, rfl⟩)
        · rename_i h
          exact .inr (.inr ⟨rfl, h⟩)
end Go.Proofs.YtipcmbonhkelbabGreatDoor
namespace Go.Proofs.YtipcmbonhkelbabGreatDoor
open Go.RowKit
/-- a byte that is a digit or '-' -/
def rgC (c : UInt8) : Bool := decide (45 ≤ (c.toNat : Int) ∧ (c.toNat : Int) ≤ 57 ∧ ¬ (c.toNat : Int) = 46)
theorem pcs_words : ∀ (l cur : List UInt8), (∀ c ∈ l, rgC c = true) → pcs 44 false cur l = [cur ++ l] := by
  intro l
  induction l with
  | nil => intro cur _; simp [pcs]
  | cons x r ih =>
    intro cur h
    have hx := h x List.mem_cons_self
    unfold rgC at hx
    rw [decide_eq_true_eq] at hx
    rw [pcs_plain _ _ _ _ _ (by omega) (by intro e; cases e.1) (by intro e; omega), ih _ (fun c hc => h c (List.mem_cons_of_mem _ hc))]
    simp
theorem listOf_rg (l : List UInt8) (hne : l ≠ []) (h : ∀ c ∈ l, rgC c = true) : listOf l = [l] := by
  have bl : ∀ c ∈ l, blankI (c.toNat : Int) = false := fun c hc => by
    have := h c hc
    unfold rgC at this
    rw [decide_eq_true_eq] at this
    unfold blankI
    exact decide_eq_false (by omega)
  have ht : trimT l = l := by
    obtain ⟨a, m, e⟩ := List.exists_cons_of_ne_nil hne
    have e2 := (List.dropLast_concat_getLast hne).symm
    exact trim_both l a (l.getLast hne) m e l.dropLast e2 (bl a (by rw [e]; exact List.mem_cons_self)) (bl _ (List.getLast_mem hne))
  unfold listOf pieces
  rw [pcs_words l [] h, List.nil_append, List.map_cons, List.map_nil, ht]
  unfold filt
  cases l with
  | nil => exact absurd rfl hne
  | cons a m => rfl
theorem dg_toNat (k : Nat) (hk : k < 10) : (UInt8.ofNat (48 + k)).toNat = 48 + k := by rw [UInt8.toNat_ofNat']; omega
/-- a number's digits, as they are read -/
theorem decF : ∀ (n : Nat), (Lib.decDigits n).all digF = true ∧ numF (Lib.decDigits n) = n ∧ Lib.decDigits n ≠ [] := by
  intro n
  induction n using Nat.strongRecOn with
  | ind n ih =>
    by_cases h : n < 10
    · have e := dg_toNat n h
      rw [Lib.decDigits_one h]
      refine ⟨?_, ?_, by simp⟩
      · rw [List.all_cons, List.all_nil, Bool.and_true]
        unfold digF
        exact decide_eq_true (by omega)
      · rw [show [UInt8.ofNat (48 + n)] = [] ++ [UInt8.ofNat (48 + n)] from rfl]
        unfold numF
        rw [numA_snoc, numA_nil]
        omega
    · obtain ⟨h1, h2, h3⟩ := ih (n / 10) (by omega)
      have e := dg_toNat (n % 10) (by omega)
      rw [Lib.decDigits, dif_neg h]
      refine ⟨?_, ?_, by simp⟩
      · rw [List.all_append, h1, List.all_cons, List.all_nil, Bool.and_true, Bool.true_and]
        unfold digF
        exact decide_eq_true (by omega)
      · unfold numF at h2 ⊢
        rw [numA_snoc, h2]
        omega
theorem decL : ∀ (k n : Nat), n < 10 ^ (k + 1) → (Lib.decDigits n).length ≤ k + 1
  | 0, n, h => by rw [Lib.decDigits_one (by simpa using h)]; simp
  | k + 1, n, h => by
    by_cases h1 : n < 10
    · rw [Lib.decDigits_one h1]; simp
    · rw [Lib.decDigits, dif_neg h1]
      have := decL k (n / 10) (by rw [Nat.pow_succ] at h; omega)
      simp; omega
theorem numR_dec (n : Nat) (h : n < 1000000000000000000) : numR (Lib.decDigits n) = n := by
  obtain ⟨h1, h2, h3⟩ := decF n
  have h4 := decL 17 n h
  rw [numR_good (by have := List.length_pos_iff.2 h3; omega) h4 h1, h2]
theorem dec_rgC (n : Nat) : ∀ c ∈ Lib.decDigits n, rgC c = true ∧ ¬ (c.toNat : Int) = 45 := by
  intro c hc
  have := List.all_eq_true.1 (decF n).1 c hc
  unfold digF at this
  rw [decide_eq_true_eq] at this
  unfold rgC
  exact ⟨decide_eq_true (by omega), by omega⟩
/-- the element "a-r" -/
def rgE (a : Nat) (r : List UInt8) : List UInt8 := Lib.decDigits a ++ 45 :: r
theorem rgE_dash (a : Nat) (r : List UInt8) : dashK (rgE a r) = (Lib.decDigits a).length := by
  refine dash_eq _ _ ?_ ?_ ?_
  · intro c hc
    unfold rgE at hc
    rw [List.take_left] at hc
    exact (dec_rgC a c hc).2
  · unfold rgE; simp
  · intro h
    have e : (rgE a r)[(Lib.decDigits a).length]'h = 45 := by
      have h2 : (rgE a r)[(Lib.decDigits a).length]? = some 45 := by
        unfold rgE
        rw [List.getElem?_append_right (Nat.le_refl _), Nat.sub_self]
        rfl
      rw [List.getElem?_eq_getElem h] at h2
      exact Option.some.inj h2
    rw [e]
    decide
theorem rgE_parts (a : Nat) (r : List UInt8) : rngA (rgE a r) = Lib.decDigits a ∧ rngB (rgE a r) = r ∧ ¬ dashK (rgE a r) = 0 ∧ dashK (rgE a r) < (rgE a r).length := by
  have hp := List.length_pos_iff.2 (decF a).2.2
  unfold rngA rngB
  rw [rgE_dash]
  refine ⟨?_, ?_, by omega, by unfold rgE; simp⟩
  · unfold rgE; rw [List.take_left]
  · unfold rgE
    rw [show Lib.decDigits a ++ 45 :: r = (Lib.decDigits a ++ [45]) ++ r by simp, List.drop_left' (by simp)]
theorem rgE_sp (a : Nat) (r : List UInt8) (z : Int) (ha : a < 1000000000000000000) (hr : r = [] ∨ ∃ b : Nat, r = Lib.decDigits b ∧ a ≤ b ∧ b < 1000000000000000000) (hz : (a : Int) < z) :
    rngBad (rgE a r) = false ∧ rngSp z (rgE a r) = some ((a : Int), if numR r < 0 ∨ z - 1 < numR r then z - 1 else numR r) := by
  obtain ⟨h1, h2, h3, h4⟩ := rgE_parts a r
  have na := numR_dec a ha
  unfold rngBad rngSp
  rw [h1, h2, if_neg h3, if_neg h3, na, decide_eq_true h4, if_pos hz]
  refine ⟨?_, rfl⟩
  rw [decide_eq_false (show ¬ (a : Int) < 0 by omega)]
  rcases hr with rfl | ⟨b, rfl, hab, hb⟩
  · rfl
  · rw [numR_dec b hb, decide_eq_false (show ¬ (b : Int) < (a : Int) by omega)]
    simp
/-- "bytes=a-b", the letters in either case -/
theorem rng_text (p : List UInt8) (hp : lows p = bytB) (a : Nat) (r : List UInt8) (z : Int) (ha : a < 1000000000000000000) (hr : r = [] ∨ ∃ b : Nat, r = Lib.decDigits b ∧ a ≤ b ∧ b < 1000000000000000000) (hz : (a : Int) < z) :
    rngP (p ++ rgE a r) z = (0, [((a : Int), if numR r < 0 ∨ z - 1 < numR r then z - 1 else numR r)]) := by
  have pl : p.length = 6 := by
    have h := congrArg List.length hp
    unfold lows at h
    rw [List.length_map] at h
    exact h
  have hd : (p ++ rgE a r).drop 6 = rgE a r := List.drop_left' pl
  have ht : (p ++ rgE a r).take 6 = p := List.take_left' pl
  have hw : ∀ c ∈ rgE a r, rgC c = true := by
    intro c hc
    unfold rgE at hc
    rcases List.mem_append.1 hc with hc | hc
    · exact (dec_rgC a c hc).1
    · rcases List.mem_cons.1 hc with rfl | hc
      · decide
      · rcases hr with rfl | ⟨b, rfl, _, _⟩
        · cases hc
        · exact (dec_rgC b c hc).1
  have hne : rgE a r ≠ [] := by unfold rgE; simp
  obtain ⟨hb, hs⟩ := rgE_sp a r z ha hr hz
  have hl := listOf_rg _ hne hw
  rw [rngP_good _ z (by omega) (by rw [List.length_append, pl]; omega) (by rw [ht]; exact hp) (by rw [hd, hl]; simp) (by rw [hd, hl]; simp) (by rw [hd, hl, List.any_cons, List.any_nil, hb]; rfl), hd, hl]
  unfold rngL
  rw [List.filterMap_cons, hs, List.filterMap_nil]
  rfl
theorem rng_two (p : List UInt8) (hp : lows p = bytB) (a b : Nat) (z : Int) (hab : a ≤ b) (hb : b < 1000000000000000000) (hz : (a : Int) < z) :
    rngP (p ++ rgE a (Lib.decDigits b)) z = (0, [((a : Int), if z - 1 < (b : Int) then z - 1 else (b : Int))]) := by
  rw [rng_text p hp a _ z (by omega) (.inr ⟨b, rfl, hab, hb⟩) hz, numR_dec b hb]
  have e : ((b : Int) < 0 ∨ z - 1 < (b : Int)) ↔ (z - 1 < (b : Int)) := ⟨fun h => h.elim (fun h => absurd h (by omega)) id, .inr⟩
  simp only [e]
theorem rng_open (p : List UInt8) (hp : lows p = bytB) (a : Nat) (z : Int) (ha : a < 1000000000000000000) (hz : (a : Int) < z) :
    rngP (p ++ rgE a []) z = (0, [((a : Int), z - 1)]) := by
  rw [rng_text p hp a [] z ha (.inl rfl) hz, if_pos (.inl (by decide))]
end Go.Proofs.YtipcmbonhkelbabGreatDoor
namespace Go.Proofs.YtipcmbonhkelbabGreatDoor
open Go.RowKit
def E2 : List UInt8 := [13, 10]
def E4 : List UInt8 := [13, 10, 13, 10]
theorem pre_app (p l m : List UInt8) (h : p.isPrefixOf l = true) : p.isPrefixOf (l ++ m) = true := by
  rw [List.isPrefixOf_iff_prefix] at h ⊢
  obtain ⟨t, rfl⟩ := h
  exact ⟨t ++ m, by rw [List.append_assoc]⟩
theorem pre_cut (p l m : List UInt8) (h : p.isPrefixOf (l ++ m) = true) (hl : p.length ≤ l.length) : p.isPrefixOf l = true := by
  rw [List.isPrefixOf_iff_prefix] at h ⊢
  exact List.prefix_of_prefix_length_le h (List.prefix_append l m) hl
theorem pre_len (p l : List UInt8) (h : p.isPrefixOf l = true) : p.length ≤ l.length := by
  rw [List.isPrefixOf_iff_prefix] at h
  exact h.length_le
theorem occ_app (l m p : List UInt8) (j : Nat) (hj : j ≤ l.length) (h : Lib.occAt l p j = true) : Lib.occAt (l ++ m) p j = true := by
  unfold Lib.occAt at *
  rw [List.drop_append_of_le_length hj]
  exact pre_app _ _ _ h
theorem occ_cut (l m p : List UInt8) (j : Nat) (h : Lib.occAt (l ++ m) p j = true) (hj : j + p.length ≤ l.length) : Lib.occAt l p j = true := by
  unfold Lib.occAt at *
  rw [List.drop_append_of_le_length (by omega)] at h
  exact pre_cut _ _ _ h (by rw [List.length_drop]; omega)
theorem occ_len (l p : List UInt8) (j : Nat) (hp : p ≠ []) (h : Lib.occAt l p j = true) : j + p.length ≤ l.length := by
  unfold Lib.occAt at h
  have := pre_len _ _ h
  rw [List.length_drop] at this
  have : 0 < p.length := List.length_pos_iff.2 hp
  omega
theorem index_app (l m p : List UInt8) (hp : p ≠ []) (i : Nat) (h : Lib.index l p = i) : Lib.index (l ++ m) p = i := by
  rcases Lib.index_spec l p with ⟨h1, _⟩ | ⟨k, h1, h2, h3, h4⟩
  · omega
  · obtain rfl : k = i := by omega
    have hk := occ_len _ _ _ hp h3
    refine Lib.index_first (by rw [List.length_append]; omega) (occ_app _ _ _ _ h2 h3) (fun j hj => ?_)
    cases e : Lib.occAt (l ++ m) p j with
    | false => rfl
    | true => have := occ_cut l m p j e (by omega); rw [h4 j hj] at this; cases this
theorem index_none_of (l p : List UInt8) (h : Lib.index l p = -1) (j : Nat) (hp : p ≠ []) : Lib.occAt l p j = false := by
  rcases Lib.index_spec l p with ⟨_, h2⟩ | ⟨k, h1, _⟩
  · by_cases hj : j ≤ l.length
    · exact h2 j hj
    · cases e : Lib.occAt l p j with
      | false => rfl
      | true => have := occ_len _ _ _ hp e; omega
  · omega
theorem index_app_none (l m p : List UInt8) (hp : p ≠ []) (h : Lib.index l p = -1) (i : Nat) (hi : Lib.index (l ++ m) p = i) : l.length < i + p.length := by
  rcases Lib.index_spec (l ++ m) p with ⟨h1, _⟩ | ⟨k, h1, _, h3, _⟩
  · omega
  · obtain rfl : k = i := by omega
    rcases Nat.lt_or_ge l.length (k + p.length) with h' | h'
    · exact h'
    · have := occ_cut l m p k h3 (by omega); rw [index_none_of l p h k hp] at this; cases this
theorem index_some_of (l p : List UInt8) (j : Nat) (hp : p ≠ []) (h : Lib.occAt l p j = true) : ∃ i : Nat, Lib.index l p = i ∧ i ≤ j := by
  rcases Lib.index_spec l p with ⟨_, h2⟩ | ⟨k, h1, _, _, h4⟩
  · have := occ_len _ _ _ hp h
    rw [h2 j (by omega)] at h; cases h
  · refine ⟨k, h1, ?_⟩
    rcases Nat.lt_or_ge j k with h' | h'
    · rw [h4 j h'] at h; cases h
    · exact h'
theorem index_is (l p : List UInt8) (i : Nat) (h : Lib.index l p = i) : i ≤ l.length ∧ Lib.occAt l p i = true ∧ ∀ j, j < i → Lib.occAt l p j = false := by
  rcases Lib.index_spec l p with ⟨h1, _⟩ | ⟨k, h1, h2, h3, h4⟩
  · omega
  · obtain rfl : k = i := by omega
    exact ⟨h2, h3, h4⟩
theorem index_cases (l p : List UInt8) : Lib.index l p = -1 ∨ ∃ i : Nat, Lib.index l p = i := by
  rcases Lib.index_spec l p with ⟨h1, _⟩ | ⟨k, h1, _⟩
  · exact .inl h1
  · exact .inr ⟨k, h1⟩
/-- how many bytes the pairs ahead take -/
def leadOf : List UInt8 → Nat
  | a :: b :: t => if a = 13 ∧ b = 10 then leadOf t + 2 else 0
  | _ => 0
def pairB (l : List UInt8) : Bool := E2.isPrefixOf l
theorem pair_iff (l : List UInt8) : pairB l = true ↔ ∃ t, l = 13 :: 10 :: t := by
  unfold pairB E2
  rw [List.isPrefixOf_iff_prefix]
  constructor
  · rintro ⟨t, rfl⟩; exact ⟨t, rfl⟩
  · rintro ⟨t, rfl⟩; exact ⟨t, rfl⟩
theorem lead_yes (l : List UInt8) (h : pairB l = true) : leadOf l = leadOf (l.drop 2) + 2 := by
  obtain ⟨t, rfl⟩ := (pair_iff l).1 h
  rw [leadOf]; simp
theorem lead_no (l : List UInt8) (h : pairB l = false) : leadOf l = 0 := by
  match l with
  | [] => rfl
  | [a] => rfl
  | a :: b :: t =>
    rw [leadOf, if_neg]
    rintro ⟨rfl, rfl⟩
    have := (pair_iff (13 :: 10 :: t)).2 ⟨t, rfl⟩
    rw [h] at this; cases this
theorem lead_le : ∀ (n : Nat) (l : List UInt8), l.length ≤ n → leadOf l ≤ l.length := by
  intro n
  induction n with
  | zero => intro l h; obtain rfl : l = [] := List.eq_nil_of_length_eq_zero (by omega); simp [leadOf]
  | succ n ih =>
    intro l h
    cases hp : pairB l with
    | false => rw [lead_no l hp]; omega
    | true =>
      rw [lead_yes l hp]
      obtain ⟨t, rfl⟩ := (pair_iff l).1 hp
      simp at h ⊢
      exact ih t (by omega)
theorem lead_bound (l : List UInt8) : leadOf l ≤ l.length := lead_le _ l (Nat.le_refl _)
theorem lead_end : ∀ (n : Nat) (l : List UInt8), l.length ≤ n → pairB (l.drop (leadOf l)) = false := by
  intro n
  induction n with
  | zero => intro l h; obtain rfl : l = [] := List.eq_nil_of_length_eq_zero (by omega); rfl
  | succ n ih =>
    intro l h
    cases hp : pairB l with
    | false => rw [lead_no l hp]; exact hp
    | true =>
      rw [lead_yes l hp]
      obtain ⟨t, rfl⟩ := (pair_iff l).1 hp
      have := ih t (by simp at h; omega)
      simpa using this
theorem lead_app : ∀ (n : Nat) (l m : List UInt8), l.length ≤ n → leadOf l + 2 ≤ l.length → leadOf (l ++ m) = leadOf l := by
  intro n
  induction n with
  | zero => intro l m h h2; omega
  | succ n ih =>
    intro l m h h2
    cases hp : pairB l with
    | false =>
      rw [lead_no l hp]
      apply lead_no
      cases e : pairB (l ++ m) with
      | false => rfl
      | true =>
        have := pre_cut E2 l m e (by show 2 ≤ l.length; omega)
        rw [show E2.isPrefixOf l = pairB l from rfl, hp] at this; cases this
    | true =>
      rw [lead_yes l hp] at h2 ⊢
      obtain ⟨t, rfl⟩ := (pair_iff l).1 hp
      simp at h h2 ⊢
      have e : pairB (13 :: 10 :: (t ++ m)) = true := (pair_iff _).2 ⟨_, rfl⟩
      rw [lead_yes _ e]
      simp
      exact ih t m (by omega) (by omega)
theorem lead_more : ∀ (n : Nat) (l m : List UInt8), l.length ≤ n → leadOf l ≤ leadOf (l ++ m) := by
  intro n
  induction n with
  | zero => intro l m h; obtain rfl : l = [] := List.eq_nil_of_length_eq_zero (by omega); simp [leadOf]
  | succ n ih =>
    intro l m h
    cases hp : pairB l with
    | false => rw [lead_no l hp]; omega
    | true =>
      obtain ⟨t, rfl⟩ := (pair_iff l).1 hp
      have e : pairB (13 :: 10 :: (t ++ m)) = true := (pair_iff _).2 ⟨_, rfl⟩
      rw [lead_yes _ hp, show (13 :: 10 :: t) ++ m = 13 :: 10 :: (t ++ m) from rfl, lead_yes _ e]
      simp at h ⊢
      exact ih t m (by omega)
/-- where the head ends, counted from the beginning, the pairs of p bytes passed over; 0 and 0: it isn't there yet -/
def endOf (bs : List UInt8) (p : Nat) : Nat × Int :=
  if Lib.index (bs.drop p) E4 = -1 then (if 8192 ≤ bs.length then (0, 51) else (0, 0))
  else if 8192 < p + (Lib.index (bs.drop p) E4).toNat + 4 then (0, 51) else (p + (Lib.index (bs.drop p) E4).toNat + 4, 0)
theorem end_none (bs : List UInt8) (p : Nat) (h : Lib.index (bs.drop p) E4 = -1) : endOf bs p = if 8192 ≤ bs.length then (0, 51) else (0, 0) := by unfold endOf; rw [if_pos h]
theorem end_some (bs : List UInt8) (p i : Nat) (h : Lib.index (bs.drop p) E4 = i) : endOf bs p = if 8192 < p + i + 4 then (0, 51) else (p + i + 4, 0) := by
  unfold endOf; rw [if_neg (by omega), h, Int.toNat_natCast]
/-- what is told of an end is told with more behind -/
theorem end_app (b m : List UInt8) (p : Nat) (hp : p ≤ b.length) (hd : Lib.index (b.drop p) E4 ≠ -1) : endOf (b ++ m) p = endOf b p := by
  rcases index_cases (b.drop p) E4 with h1 | ⟨i, h1⟩
  · exact absurd h1 hd
  · rw [end_some b p i h1, end_some (b ++ m) p i]
    rw [List.drop_append_of_le_length hp]
    exact index_app _ _ _ (by decide) _ h1
theorem end_over (b m : List UInt8) (p q : Nat) (hp : p ≤ b.length) (hq : p ≤ q) (h : Lib.index (b.drop p) E4 = -1) (hl : 8192 ≤ b.length) : endOf (b ++ m) q = (0, 51) := by
  rcases index_cases ((b ++ m).drop q) E4 with h1 | ⟨i, h1⟩
  · rw [end_none _ _ h1, if_pos (by rw [List.length_append]; omega)]
  · rw [end_some _ _ _ h1, if_pos]
    have h2 := (index_is _ _ _ h1).2.1
    have h3 : Lib.occAt (b.drop p ++ m) E4 (q - p + i) = true := by
      unfold Lib.occAt at h2 ⊢
      rw [← List.drop_append_of_le_length hp, List.drop_drop]
      rw [List.drop_drop] at h2
      rwa [show p + (q - p + i) = q + i by omega]
    rcases Nat.lt_or_ge 8192 (q + i + 4) with h' | h'
    · exact h'
    · have := occ_cut (b.drop p) m E4 (q - p + i) h3 (by rw [List.length_drop]; show _ + 4 ≤ _; omega)
      rw [index_none_of _ _ h _ (by decide)] at this; cases this
end Go.Proofs.YtipcmbonhkelbabGreatDoor
namespace Go.Proofs.YtipcmbonhkelbabGreatDoor
open Go.RowKit
theorem wh_app (p : UInt8 → Bool) (l : List UInt8) : l.take (l.takeWhile p).length = l.takeWhile p ∧ ∀ k, l.drop ((l.takeWhile p).length + k) = (l.dropWhile p).drop k := by
  induction l with
  | nil => exact ⟨rfl, fun k => by simp⟩
  | cons c r ih =>
    by_cases h : p c = true
    · rw [List.takeWhile_cons_of_pos h, List.dropWhile_cons_of_pos h]
      refine ⟨by simp [ih.1], fun k => ?_⟩
      rw [List.length_cons, show (r.takeWhile p).length + 1 + k = ((r.takeWhile p).length + k) + 1 by omega, List.drop_succ_cons]
      exact ih.2 k
    · rw [List.takeWhile_cons_of_neg h, List.dropWhile_cons_of_neg h]
      exact ⟨rfl, fun k => by simp⟩
theorem wh_all (p : UInt8 → Bool) : ∀ (l : List UInt8), l.all p = true → l.takeWhile p = l ∧ l.dropWhile p = []
  | [], _ => ⟨rfl, rfl⟩
  | c :: r, h => by
    rw [List.all_cons, Bool.and_eq_true] at h
    have ih := wh_all p r h.2
    rw [List.takeWhile_cons_of_pos h.1, List.dropWhile_cons_of_pos h.1, ih.1, ih.2]
    exact ⟨rfl, rfl⟩
theorem index_oneR (p : UInt8 → Bool) (c : UInt8) (hp : ∀ x, p x = false ↔ x = c) (l : List UInt8) : Lib.index l [c] = if l.all p = true then -1 else ((l.takeWhile p).length : Int) := by
  induction l with
  | nil => rfl
  | cons b l ih =>
    rw [Lib.index]
    by_cases e : b = c
    · subst e
      have h1 := (hp b).2 rfl
      have h2 : [b].isPrefixOf (b :: l) = true := by simp [List.isPrefixOf]
      rw [if_pos h2, List.all_cons, h1, Bool.false_and, if_neg (by simp), List.takeWhile_cons_of_neg (by simp [h1])]; rfl
    · have h1 : p b = true := by
        cases h : p b with
        | true => rfl
        | false => exact absurd ((hp b).1 h) e
      have h2 : ¬ [c].isPrefixOf (b :: l) = true := by simp [List.isPrefixOf]; exact fun x => e x.symm
      rw [if_neg h2, ih, List.all_cons, h1, Bool.true_and, List.takeWhile_cons_of_pos h1]
      by_cases h : l.all p = true
      · rw [if_pos h, if_pos h]; rfl
      · rw [if_neg h, if_neg h, if_neg]
        · simp
        · intro x; have := beq_iff_eq.1 x; omega
theorem cut_dash (l : List UInt8) : Lib.cut l [45] = (rngA l, rngB l, decide (dashK l < l.length)) := by
  have hp : ∀ x : UInt8, (fun c : UInt8 => decide (¬ (c.toNat : Int) = 45)) x = false ↔ x = 45 := by
    intro x
    simp only [decide_eq_false_iff_not, Classical.not_not]
    constructor
    · intro h; exact UInt8.toNat_inj.1 (by show x.toNat = 45; omega)
    · intro h; rw [h]; rfl
  have ha : rngA l = l.takeWhile (fun c => decide (¬ (c.toNat : Int) = 45)) := (wh_app _ l).1
  have hb : rngB l = (l.dropWhile (fun c => decide (¬ (c.toNat : Int) = 45))).drop 1 := (wh_app _ l).2 1
  have hd : dashK l = (l.takeWhile (fun c => decide (¬ (c.toNat : Int) = 45))).length := rfl
  unfold Lib.cut
  rw [index_oneR _ 45 hp l, ha, hb, hd]
  generalize (fun c : UInt8 => decide (¬ (c.toNat : Int) = 45)) = p
  by_cases h : l.all p = true
  · rw [if_pos h, if_neg (by omega), (wh_all p l h).1, (wh_all p l h).2, decide_eq_false (by omega)]; rfl
  · rw [if_neg h, if_pos (by omega), Int.toNat_natCast, (wh_app p l).1, show ([45] : List UInt8).length = 1 from rfl, (wh_app p l).2 1]
    rw [decide_eq_true]
    rw [List.all_eq_true] at h
    apply Classical.byContradiction
    intro hno
    apply h
    have h2 := (List.takeWhile_prefix p (l := l))
    have h3 := h2.eq_of_length_le (by omega)
    intro c hc
    rw [← h3] at hc
    exact List.all_eq_true.1 List.all_takeWhile c hc
theorem rngA_nil (l : List UInt8) : rngA l = [] ↔ dashK l = 0 := by
  unfold rngA
  have := dash_le l
  constructor
  · intro h
    have := congrArg List.length h
    rw [List.length_take, List.length_nil] at this
    omega
  · intro h; rw [h]; rfl
/-- what is kept of a span: where the element is well-formed, its span if it has a byte, else none -/
def Spn (z : Int) (l : List UInt8) (p : Int × Int) : Prop := rngBad l = false → (p.1 ≤ p.2 → rngSp z l = some p) ∧ (¬ p.1 ≤ p.2 → rngSp z l = none)
theorem bad_nodash {l : List UInt8} (h : decide (dashK l < l.length) = false) : rngBad l = true := by unfold rngBad; rw [h]; rfl
theorem bad_last {l : List UInt8} (h1 : decide (dashK l < l.length) = true) (h2 : rngA l = []) : rngBad l = !(decide (0 ≤ numR (rngB l))) := by
  unfold rngBad
  rw [h1, if_pos ((rngA_nil l).1 h2), Bool.not_true, Bool.false_or]
  by_cases h : numR (rngB l) < 0
  · rw [decide_eq_true h, decide_eq_false (by omega)]; rfl
  · rw [decide_eq_false h, decide_eq_true (by omega)]; rfl
theorem spn_last {z : Int} {l : List UInt8} (h2 : rngA l = []) (hn : 0 ≤ numR (rngB l)) (hz : 0 ≤ z) : Spn z l (max (z - numR (rngB l)) 0, z - 1) := by
  intro _
  unfold rngSp
  rw [if_pos ((rngA_nil l).1 h2)]
  dsimp only
  by_cases h : 0 < min (numR (rngB l)) z
  · rw [if_pos h]
    refine ⟨fun _ => ?_, fun h3 => absurd (by omega) h3⟩
    have e : z - min (numR (rngB l)) z = max (z - numR (rngB l)) 0 := by omega
    rw [e]
  · rw [if_neg h]
    exact ⟨fun h3 => by exfalso; omega, fun _ => rfl⟩
theorem bad_open {l : List UInt8} (h1 : decide (dashK l < l.length) = true) (h2 : ¬ rngA l = []) (h3 : rngB l = []) : rngBad l = !(decide (0 ≤ numR (rngA l))) := by
  unfold rngBad
  rw [h1, if_neg (fun h => h2 ((rngA_nil l).2 h)), h3, Bool.not_true, Bool.false_or]
  by_cases h : numR (rngA l) < 0
  · rw [decide_eq_true h, decide_eq_false (show ¬ 0 ≤ numR (rngA l) by omega)]; rfl
  · rw [decide_eq_false h, decide_eq_true (show 0 ≤ numR (rngA l) by omega)]; rfl
theorem spn_open {z : Int} {l : List UInt8} (h2 : ¬ rngA l = []) (h3 : rngB l = []) : Spn z l (numR (rngA l), z - 1) := by
  intro _
  unfold rngSp
  rw [if_neg (fun h => h2 ((rngA_nil l).2 h)), h3, numR_short (by decide : ([] : List UInt8).length < 1)]
  dsimp only
  by_cases h : numR (rngA l) < z
  · rw [if_pos h, if_pos (.inl (by decide))]
    exact ⟨fun _ => rfl, fun h3 => absurd (by omega) h3⟩
  · rw [if_neg h]
    exact ⟨fun h3 => by exfalso; omega, fun _ => rfl⟩
theorem bad_two {l : List UInt8} (h1 : decide (dashK l < l.length) = true) (h2 : ¬ rngA l = []) (h3 : ¬ rngB l = []) : rngBad l = !(decide (0 ≤ numR (rngA l)) && (decide (0 ≤ numR (rngB l)) && decide (numR (rngA l) ≤ numR (rngB l)))) := by
  unfold rngBad
  rw [h1, if_neg (fun h => h2 ((rngA_nil l).2 h)), Bool.not_true, Bool.false_or]
  have he : (rngB l).isEmpty = false := by
    cases hb : rngB l with
    | nil => exact absurd hb h3
    | cons c r => rfl
  rw [he, Bool.not_false, Bool.true_and]
  by_cases h : numR (rngA l) < 0
  · rw [decide_eq_true h, decide_eq_false (show ¬ 0 ≤ numR (rngA l) by omega)]; rfl
  · rw [decide_eq_false h, decide_eq_true (show 0 ≤ numR (rngA l) by omega), Bool.false_or, Bool.true_and]
    by_cases h4 : numR (rngB l) < numR (rngA l)
    · rw [decide_eq_true h4, decide_eq_false (show ¬ numR (rngA l) ≤ numR (rngB l) by omega), Bool.and_false]; rfl
    · rw [decide_eq_false h4, decide_eq_true (show numR (rngA l) ≤ numR (rngB l) by omega), decide_eq_true (show 0 ≤ numR (rngB l) by omega)]; rfl
theorem spn_two {z : Int} {l : List UInt8} (h2 : ¬ rngA l = []) (hb : 0 ≤ numR (rngA l) ∧ numR (rngA l) ≤ numR (rngB l)) : Spn z l (numR (rngA l), min (numR (rngB l)) (z - 1)) := by
  intro _
  unfold rngSp
  rw [if_neg (fun h => h2 ((rngA_nil l).2 h))]
  dsimp only
  by_cases h : numR (rngA l) < z
  · rw [if_pos h]
    have e : (if numR (rngB l) < 0 ∨ z - 1 < numR (rngB l) then z - 1 else numR (rngB l)) = min (numR (rngB l)) (z - 1) := by split <;> omega
    rw [e]
    exact ⟨fun _ => rfl, fun h3 => absurd (by omega) h3⟩
  · rw [if_neg h]
    exact ⟨fun h3 => by exfalso; omega, fun _ => rfl⟩
theorem spn_bad {z : Int} {l : List UInt8} {p : Int × Int} (h : rngBad l = true) : Spn z l p := fun h2 => by rw [h] at h2; cases h2
/-- what number answers: the number, 0 where it is none; and whether it is one -/
def numQ (l : List UInt8) : Int := if 0 ≤ numR l then numR l else 0
theorem numQ_ok {l : List UInt8} (h : 0 ≤ numR l) : numQ l = numR l := if_pos h
theorem numQ_in (l : List UInt8) : 0 ≤ numQ l ∧ numQ l < 1000000000000000000 := by
  unfold numQ
  have := numR_low l
  split <;> omega
end Go.Proofs.YtipcmbonhkelbabGreatDoor
namespace Go.Proofs.YtipcmbonhkelbabGreatDoor
open Go.RowKit
theorem st_get {s b : List UInt8} {i : Nat} (h : stAt s b i = true) (k : Nat) (hk : k < s.length) : b[i + k]? = s[k]? := by
  unfold stAt at h
  simp only [Bool.and_eq_true, decide_eq_true_eq] at h
  have e := congrArg (fun l => l[k]?) h.2
  rw [List.getElem?_take_of_lt hk, List.getElem?_drop] at e
  exact e
theorem st_len {s b : List UInt8} {i : Nat} (h : stAt s b i = true) : i + s.length ≤ b.length := by
  unfold stAt at h
  simp only [Bool.and_eq_true, decide_eq_true_eq] at h
  exact h.1
theorem markB_len (n : Nat) : (markB n).length = 10 + (Lib.decDigits n).length := by
  unfold markB
  rw [List.length_append]
  rfl
theorem mark_dig {b : List UInt8} {i n : Nat} (h : stAt (markB n) b i = true) (k : Nat) (hk : k < (Lib.decDigits n).length) : ∃ c, b[i + (10 + k)]? = some c ∧ digF c = true := by
  have e := st_get h (10 + k) (by rw [markB_len]; omega)
  unfold markB at e
  rw [List.getElem?_append_right (by show 10 ≤ 10 + k; omega)] at e
  have e2 : (10 + k - dashC.length) = k := by show 10 + k - 10 = k; omega
  rw [e2, List.getElem?_eq_getElem hk] at e
  exact ⟨_, e, List.all_eq_true.1 (decF n).1 _ (List.getElem_mem _)⟩
theorem mark_dash {b : List UInt8} {i n : Nat} (h : stAt (markB n) b i = true) (k : Nat) (hk : k < 10) : b[i + k]? = dashC[k]? := by
  rw [st_get h k (by rw [markB_len]; omega)]
  unfold markB
  rw [List.getElem?_append_left (by show k < 10; omega)]
/-- two boundaries that end at one byte are one -/
theorem mark_last {b : List UInt8} {i j m n : Nat} (h1 : stAt (markB m) b i = true) (h2 : stAt (markB n) b j = true) (he : i + (Lib.decDigits m).length = j + (Lib.decDigits n).length) : m = n := by
  have key : ∀ {i j m n : Nat}, stAt (markB m) b i = true → stAt (markB n) b j = true → i + (Lib.decDigits m).length = j + (Lib.decDigits n).length → i < j → False := by
    intro i j m n h1 h2 he hlt
    have hn := List.length_pos_iff.2 (decF n).2.2
    obtain ⟨c, e1, e2⟩ := mark_dig h1 (j - i - 1) (by omega)
    have e3 := mark_dash h2 9 (by omega)
    rw [show i + (10 + (j - i - 1)) = j + 9 by omega, e3] at e1
    have : c = 45 := by
      have := Option.some.inj (e1.symm.trans (show dashC[9]? = some 45 from rfl))
      exact this
    rw [this] at e2
    revert e2; decide
  rcases Nat.lt_trichotomy i j with h | h | h
  · exact (key h1 h2 he h).elim
  · subst h
    exact mark_inj h1 h2 (by omega)
  · exact (key h2 h1 he.symm h).elim
open Classical in
theorem markN_le (b : List UInt8) (hb : b.length ≤ 140737488355328) : markN b ≤ b.length := by
  apply Classical.byContradiction
  intro hno
  obtain ⟨_, _, hall⟩ := markN_spec b hb
  have all : ∀ n, n ≤ b.length → ∃ i, stAt (markB n) b i = true := fun n hn => (stIn_iff _ _).1 (hall n (by omega))
  let pos : Nat → Nat := fun n => if h : ∃ i, stAt (markB n) b i = true then Classical.choose h else 0
  have hpos : ∀ n, n ≤ b.length → stAt (markB n) b (pos n) = true := fun n hn => by
    show stAt (markB n) b (if h : ∃ i, stAt (markB n) b i = true then Classical.choose h else 0) = true
    rw [dif_pos (all n hn)]
    exact Classical.choose_spec (all n hn)
  have := pigeon b.length b.length (fun n => pos n + (Lib.decDigits n).length) ?_ ?_
  · omega
  · intro n hn
    have h1 := st_len (hpos n hn)
    rw [markB_len] at h1
    show pos n + (Lib.decDigits n).length < b.length
    omega
  · intro a c ha hc e
    exact mark_last (hpos a ha) (hpos c hc) e
/-- the numbers that digits begin with, none above most; n: what was read of them so far -/
def takeA (most n : Int) : List UInt8 → List Int
  | [] => []
  | c :: r => if digF c = false then [] else if most < n * 10 + ((c.toNat : Int) - 48) then [] else if n * 10 + ((c.toNat : Int) - 48) = 0 then [0] else (n * 10 + ((c.toNat : Int) - 48)) :: takeA most (n * 10 + ((c.toNat : Int) - 48)) r
theorem takeA_len (most : Int) : ∀ (l : List UInt8) (n : Int), (takeA most n l).length ≤ l.length
  | [], _ => Nat.le_refl _
  | c :: r, n => by
    unfold takeA
    split
    · simp
    · split
      · simp
      · split
        · simp
        · simp only [List.length_cons]
          have := takeA_len most r (n * 10 + ((c.toNat : Int) - 48))
          omega
theorem dec_snoc (v d : Nat) (hv : 0 < v) (hd : d < 10) : Lib.decDigits (v * 10 + d) = Lib.decDigits v ++ [UInt8.ofNat (48 + d)] := by
  conv => lhs; rw [Lib.decDigits]
  rw [dif_neg (by omega), show (v * 10 + d) / 10 = v by omega, show (v * 10 + d) % 10 = d by omega]
theorem dig_ofNat {c : UInt8} (h : digF c = true) : UInt8.ofNat (48 + (c.toNat - 48)) = c ∧ c.toNat - 48 < 10 ∧ 48 ≤ c.toNat := by
  unfold digF at h
  rw [decide_eq_true_eq] at h
  refine ⟨?_, by omega, by omega⟩
  rw [show 48 + (c.toNat - 48) = c.toNat by omega]
  exact UInt8.ofNat_toNat
theorem numA_le (l : List UInt8) : ∀ a, a ≤ numA a l := by
  induction l with
  | nil => intro a; rw [numA_nil]; exact Nat.le_refl _
  | cons c r ih => intro a; rw [numA_cons]; have := ih (a * 10 + (c.toNat - 48)); omega
theorem dec_inj {m n : Nat} (h : Lib.decDigits m = Lib.decDigits n) : m = n := by
  have := congrArg numF h
  rw [(decF m).2.1, (decF n).2.1] at this
  exact this
theorem takeA_mem (most : Int) : ∀ (l : List UInt8) (v : Nat) (m : Int), 0 < v → (m ∈ takeA most v l ↔ ∃ k : Nat, m = k ∧ (k : Int) ≤ most ∧ ∃ p, p ≠ [] ∧ Lib.decDigits k = Lib.decDigits v ++ p ∧ p <+: l) := by
  intro l
  induction l with
  | nil =>
    intro v m hv
    constructor
    · intro h; cases h
    · rintro ⟨k, _, _, p, hp, _, h⟩
      exact absurd (List.prefix_nil.1 h) hp
  | cons c r ih =>
    intro v m hv
    by_cases hd : digF c = true
    · obtain ⟨e1, e2, e3⟩ := dig_ofNat hd
      have ev : (v : Int) * 10 + ((c.toNat : Int) - 48) = ((v * 10 + (c.toNat - 48) : Nat) : Int) := by push_cast; omega
      have es := dec_snoc v (c.toNat - 48) hv e2
      rw [e1] at es
      have back : ∀ k p, Lib.decDigits k = Lib.decDigits v ++ p → p ≠ [] → p <+: c :: r → ∃ q, p = c :: q ∧ q <+: r ∧ Lib.decDigits k = Lib.decDigits (v * 10 + (c.toNat - 48)) ++ q ∧ v * 10 + (c.toNat - 48) ≤ k := by
        intro k p hk hp hpre
        obtain ⟨x, q, rfl⟩ := List.exists_cons_of_ne_nil hp
        obtain ⟨rfl, hq⟩ := List.cons_prefix_cons.1 hpre
        have hk2 : Lib.decDigits k = Lib.decDigits (v * 10 + (x.toNat - 48)) ++ q := by rw [es, hk]; simp
        refine ⟨q, rfl, hq, hk2, ?_⟩
        have h3 := congrArg numF hk2
        unfold numF at h3
        rw [show numA 0 (Lib.decDigits k) = k from (decF k).2.1, show numA 0 (Lib.decDigits (v * 10 + (x.toNat - 48)) ++ q) = numA (numA 0 (Lib.decDigits (v * 10 + (x.toNat - 48)))) q by unfold numA; rw [List.foldl_append], show numA 0 (Lib.decDigits (v * 10 + (x.toNat - 48))) = v * 10 + (x.toNat - 48) from (decF _).2.1] at h3
        rw [h3]
        exact numA_le _ _
      unfold takeA
      rw [if_neg (by simp [hd]), ev]
      generalize v * 10 + (c.toNat - 48) = u at *
      by_cases hm : most < (u : Int)
      · rw [if_pos hm]
        constructor
        · intro h; cases h
        · rintro ⟨k, _, hk, p, hp, h1, h2⟩
          obtain ⟨q, _, _, _, h4⟩ := back k p h1 hp h2
          omega
      · rw [if_neg hm]
        by_cases hz : (u : Int) = 0
        · exfalso
          have : u = 0 := by omega
          subst this
          have := congrArg List.length es
          rw [Lib.decDigits_one (by omega)] at this
          have hp := List.length_pos_iff.2 (decF v).2.2
          simp at this
          omega
        · rw [if_neg hz, List.mem_cons, ih u m (by omega)]
          constructor
          · rintro (rfl | ⟨k, h1, h2, p, h3, h4, h5⟩)
            · exact ⟨u, rfl, by omega, [c], by simp, es, List.cons_prefix_cons.2 ⟨rfl, List.nil_prefix⟩⟩
            · exact ⟨k, h1, h2, c :: p, by simp, by rw [h4, es]; simp, List.cons_prefix_cons.2 ⟨rfl, h5⟩⟩
          · rintro ⟨k, h1, h2, p, h3, h4, h5⟩
            obtain ⟨q, rfl, hq, h6, _⟩ := back k p h4 h3 h5
            by_cases hq0 : q = []
            · left
              rw [hq0, List.append_nil] at h6
              rw [h1, dec_inj h6]
            · exact .inr ⟨k, h1, h2, q, hq0, h6, hq⟩
    · have hd' : digF c = false := by simpa using hd
      unfold takeA
      rw [if_pos hd']
      constructor
      · intro h; cases h
      · rintro ⟨k, _, _, p, hp, h1, h2⟩
        obtain ⟨x, q, rfl⟩ := List.exists_cons_of_ne_nil hp
        obtain ⟨rfl, _⟩ := List.cons_prefix_cons.1 h2
        have := List.all_eq_true.1 (decF k).1 x (by rw [h1]; simp)
        exact absurd this hd
theorem dec_head0 : ∀ (k : Nat) (p : List UInt8), Lib.decDigits k = 48 :: p → k = 0 := by
  intro k
  induction k using Nat.strongRecOn with
  | ind k ih =>
    intro p h
    by_cases hk : k < 10
    · rw [Lib.decDigits_one hk] at h
      have e := congrArg (fun l : List UInt8 => l.head?.map UInt8.toNat) h
      simp only [List.head?_cons, Option.map_some] at e
      have := Option.some.inj e
      rw [dg_toNat k hk] at this
      have h48 : (48 : UInt8).toNat = 48 := rfl
      omega
    · rw [Lib.decDigits, dif_neg hk] at h
      obtain ⟨x, q, e⟩ := List.exists_cons_of_ne_nil (decF (k / 10)).2.2
      rw [e] at h
      simp only [List.cons_append, List.cons.injEq] at h
      have := ih (k / 10) (by omega) q (by rw [e, h.1])
      omega
/-- the numbers that digits begin with -/
theorem takeA_all (most : Int) (l : List UInt8) (m : Int) : m ∈ takeA most 0 l ↔ ∃ k : Nat, m = k ∧ (k : Int) ≤ most ∧ Lib.decDigits k <+: l := by
  cases l with
  | nil =>
    constructor
    · intro h; cases h
    · rintro ⟨k, _, _, h⟩
      exact absurd (List.prefix_nil.1 h) (decF k).2.2
  | cons c r =>
    by_cases hd : digF c = true
    · obtain ⟨e1, e2, e3⟩ := dig_ofNat hd
      have ev : (0 : Int) * 10 + ((c.toNat : Int) - 48) = ((c.toNat - 48 : Nat) : Int) := by omega
      have es := Lib.decDigits_one e2
      rw [e1] at es
      have back : ∀ k : Nat, Lib.decDigits k <+: c :: r → (k = c.toNat - 48) ∨ (0 < c.toNat - 48 ∧ c.toNat - 48 ≤ k ∧ ∃ p, p ≠ [] ∧ Lib.decDigits k = Lib.decDigits (c.toNat - 48) ++ p ∧ p <+: r) := by
        intro k hk
        obtain ⟨x, q, ek⟩ := List.exists_cons_of_ne_nil (decF k).2.2
        rw [ek] at hk
        obtain ⟨rfl, hq⟩ := List.cons_prefix_cons.1 hk
        by_cases hq0 : q = []
        · left
          rw [hq0, ← es] at ek
          exact dec_inj ek
        · right
          refine ⟨?_, ?_, q, hq0, by rw [es, ek]; rfl, hq⟩
          · apply Classical.byContradiction
            intro hz
            have h48 : x = 48 := UInt8.toNat_inj.1 (by show x.toNat = 48; omega)
            rw [h48] at ek
            have := dec_head0 k q ek
            subst this
            rw [Lib.decDigits_one (by omega)] at ek
            simp only [List.cons.injEq] at ek
            exact hq0 ek.2.symm
          · have h3 := congrArg numF ek
            rw [(decF k).2.1] at h3
            unfold numF at h3
            rw [numA_cons] at h3
            have := numA_le q (0 * 10 + (x.toNat - 48))
            omega
      unfold takeA
      rw [if_neg (by simp [hd]), ev]
      generalize c.toNat - 48 = u at *
      by_cases hm : most < (u : Int)
      · rw [if_pos hm]
        constructor
        · intro h; cases h
        · rintro ⟨k, _, hk, h⟩
          rcases back k h with h | h <;> omega
      · rw [if_neg hm]
        by_cases hz : (u : Int) = 0
        · rw [if_pos hz, List.mem_singleton]
          constructor
          · rintro rfl
            exact ⟨u, by omega, by omega, by rw [es]; exact List.cons_prefix_cons.2 ⟨rfl, List.nil_prefix⟩⟩
          · rintro ⟨k, h1, h2, h3⟩
            rcases back k h3 with h | h <;> omega
        · rw [if_neg hz, List.mem_cons, takeA_mem most r u m (by omega)]
          constructor
          · rintro (rfl | ⟨k, h1, h2, p, h3, h4, h5⟩)
            · exact ⟨u, rfl, by omega, by rw [es]; exact List.cons_prefix_cons.2 ⟨rfl, List.nil_prefix⟩⟩
            · exact ⟨k, h1, h2, by rw [h4, es]; exact List.cons_prefix_cons.2 ⟨rfl, h5⟩⟩
          · rintro ⟨k, h1, h2, h3⟩
            rcases back k h3 with h | ⟨_, _, p, h4, h5, h6⟩
            · left; omega
            · exact .inr ⟨k, h1, h2, p, h4, h5, h6⟩
    · have hd' : digF c = false := by simpa using hd
      unfold takeA
      rw [if_pos hd']
      constructor
      · intro h; cases h
      · rintro ⟨k, _, _, h2⟩
        obtain ⟨x, q, ek⟩ := List.exists_cons_of_ne_nil (decF k).2.2
        rw [ek] at h2
        obtain ⟨rfl, _⟩ := List.cons_prefix_cons.1 h2
        have := List.all_eq_true.1 (decF k).1 x (by rw [ek]; simp)
        exact absurd this hd
/-- the numbers whose boundary begins ahead of p -/
def TakM (b : List UInt8) (p : Nat) (m : Int) : Prop := ∃ k : Nat, m = k ∧ k ≤ b.length ∧ ∃ i, i < p ∧ stAt (markB k) b i = true
theorem occ_st {s b : List UInt8} {i : Nat} (hl : i ≤ b.length) : stAt s b i = Lib.occAt b s i := by
  unfold stAt Lib.occAt
  rw [Bool.eq_iff_iff]
  simp only [Bool.and_eq_true, decide_eq_true_eq, List.isPrefixOf_iff_prefix]
  constructor
  · rintro ⟨_, h⟩
    rw [← h]
    exact List.take_prefix _ _
  · intro h
    have hle := h.length_le
    rw [List.length_drop] at hle
    exact ⟨by omega, (List.prefix_iff_eq_take.1 h).symm⟩
theorem st_split {n : Nat} {b : List UInt8} {i : Nat} : stAt (markB n) b i = true ↔ stAt dashC b i = true ∧ Lib.decDigits n <+: b.drop (i + 10) := by
  constructor
  · intro h
    have h1 := st_len h
    rw [markB_len] at h1
    rw [occ_st (by omega)] at h
    unfold Lib.occAt markB at h
    rw [List.isPrefixOf_iff_prefix] at h
    obtain ⟨t, ht⟩ := h
    have hd : b.drop (i + 10) = Lib.decDigits n ++ t := by
      rw [← List.drop_drop, ← ht, List.append_assoc]
      exact List.drop_left' (by rfl)
    refine ⟨?_, ⟨t, hd.symm⟩⟩
    rw [occ_st (by omega)]
    unfold Lib.occAt
    rw [List.isPrefixOf_iff_prefix]
    exact ⟨Lib.decDigits n ++ t, by rw [← ht, List.append_assoc]⟩
  · rintro ⟨h1, t, ht⟩
    have hl := st_len h1
    have h10 : dashC.length = 10 := rfl
    rw [occ_st (by omega)] at h1 ⊢
    unfold Lib.occAt at h1 ⊢
    unfold markB
    rw [List.isPrefixOf_iff_prefix] at h1 ⊢
    obtain ⟨u, hu⟩ := h1
    refine ⟨t, ?_⟩
    have hd : b.drop (i + 10) = u := by
      rw [← List.drop_drop, ← hu]
      exact List.drop_left' h10
    rw [List.append_assoc, ht, hd, hu]
/-- behind a mark the next one begins at its last byte at the soonest -/
theorem dash_far {b : List UInt8} {i j : Nat} (h1 : stAt dashC b i = true) (h2 : stAt dashC b j = true) (hlt : i < j) : i + 9 ≤ j := by
  apply Classical.byContradiction
  intro hno
  have e0 := st_get h2 0 (by decide)
  have e1 := st_get h2 1 (by decide)
  have f0 := st_get h1 (j - i) (by show j - i < 10; omega)
  have f1 := st_get h1 (j - i + 1) (by show j - i + 1 < 10; omega)
  rw [show i + (j - i) = j + 0 by omega, e0] at f0
  rw [show i + (j - i + 1) = j + 1 by omega, e1] at f1
  have hk : j - i < 9 := by omega
  have hk0 : 0 < j - i := by omega
  generalize j - i = k at *
  clear e0 e1 h1 h2
  match k, hk, hk0 with
  | 1, _, _ => revert f1; decide
  | 2, _, _ => revert f0; decide
  | 3, _, _ => revert f0; decide
  | 4, _, _ => revert f0; decide
  | 5, _, _ => revert f0; decide
  | 6, _, _ => revert f0; decide
  | 7, _, _ => revert f0; decide
  | 8, _, _ => revert f0; decide
theorem tak_step {b : List UInt8} {p q : Nat} (hpq : p ≤ q) (hq : stAt dashC b q = true) (hf : ∀ i, p ≤ i → i < q → stAt dashC b i = false) (m : Int) : TakM b (q + 9) m ↔ TakM b p m ∨ m ∈ takeA b.length 0 (b.drop (q + 10)) := by
  rw [takeA_all]
  unfold TakM
  constructor
  · rintro ⟨k, h1, h2, i, hi, h3⟩
    by_cases hip : i < p
    · exact .inl ⟨k, h1, h2, i, hip, h3⟩
    · right
      obtain ⟨h4, h5⟩ := st_split.1 h3
      have : i = q := by
        rcases Nat.lt_trichotomy i q with h | h | h
        · rw [hf i (by omega) h] at h4; cases h4
        · exact h
        · have := dash_far hq h4 h; omega
      subst this
      exact ⟨k, h1, by omega, h5⟩
  · rintro (⟨k, h1, h2, i, hi, h3⟩ | ⟨k, h1, h2, h3⟩)
    · exact ⟨k, h1, h2, i, by omega, h3⟩
    · exact ⟨k, h1, by omega, q, by omega, st_split.2 ⟨hq, h3⟩⟩
theorem tak_end {b : List UInt8} {p : Nat} (hf : ∀ i, p ≤ i → stAt dashC b i = false) (k : Nat) (hk : k ≤ b.length) : TakM b p k ↔ stIn (markB k) b = true := by
  rw [stIn_iff]
  unfold TakM
  constructor
  · rintro ⟨n, h1, _, i, _, h2⟩
    have : k = n := by omega
    subst this
    exact ⟨i, h2⟩
  · rintro ⟨i, h⟩
    refine ⟨k, rfl, hk, i, ?_, h⟩
    apply Classical.byContradiction
    intro hno
    have h2 := (st_split.1 h).1
    rw [hf i (by omega)] at h2
    cases h2
end Go.Proofs.YtipcmbonhkelbabGreatDoor
