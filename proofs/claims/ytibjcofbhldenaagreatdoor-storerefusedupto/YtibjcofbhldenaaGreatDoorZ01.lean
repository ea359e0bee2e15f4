/- Plain lemmas on bytes and lists, and how a row of bytes that a call owns is read as a string; nothing of the program is named here. The bodies of the library's functions that are met here are those that the kit's contracts were proved of: the tables of numbers, checked body by body. Records in the document's words, plain: the check sum, numbers of several bytes, a record's bytes, what is read of any bytes; that it is read as it was written, that one byte changed is told. Nothing of the program is named here. The bodies of the library's functions that are met here are those that the kit's contracts were proved of: the tables of numbers, checked body by body. The bodies of the library's functions that are met here are those that the kit's contracts were proved of: the tables of numbers, checked body by body. The bodies of the library's functions that are met here are those that the kit's contracts were proved of: the tables of numbers, checked body by body. The bodies of the library's functions that are met here are those that the kit's contracts were proved of: the tables of numbers, checked body by body. The bodies of the library's functions that are met here are those that the kit's contracts were proved of: the tables of numbers, checked body by body. Small things that every text uses. A row of bytes that a call itself made: one more byte appended to it, and its conversion to a string. A row of texts that a call itself made: one more text appended to it, and what it holds in later worlds; the contract of SameTexts. The contract of Clone. Where a pattern first stands in a text, in plain words: with more behind, and ahead of the end; pairs ahead; the head's end. Rows that are owned, beside blocks that are written. A slice whose elements are these bytes. The contracts of trimmed, Clone, Trim and of the document's Trim. The contracts of Fold and of the document's Lower. The bodies of the library's functions that are met here are those that the kit's contracts were proved of: the tables of numbers, checked body by body. A block of any number of cells that may be written (a struct of several parts). A block of four cells that may be written. The contracts of textByte and of the document's Text. Fields in plain words: the values of a name, the fields of other names, a name put in. A row of fields that a call itself made: more appended to it, and what it holds in later worlds; a list of fields that came in. Heads and entries as plain records. A whole list of bytes appended; the contracts of CopyBytes and SameBytes. The contract of bytes.Clone. A part of a list of bytes as a value; such a list as a text. Worlds that are alike but for some blocks. -/
import Derived.WalkKit
import Derived.ProofKit
import Derived.Shelf.Strings.SlTrimAscii
import Derived.Shelf.Strconv.Clone
import Derived.Shelf.Strings.Search1
import Derived.Test.YtibjcofbhldenaaGreatDoorProg
import Derived.Shelf.Strings.Cut
import Derived.Shelf.Strings.IndexAnyAll
import Derived.Shelf.Bytes.SlTrimWalks
import Derived.Shelf.Spec.DecodeRune
import Derived.Shelf.Bytes.SlSmallAll
import Derived.Shelf.Bytes.SlIndexWhole
import Derived.Shelf.Small.Wraps
import Derived.Shelf.Strconv.Atoi
import Derived.Test.YtibjcofbhldenaaGreatDoorRows
import Derived.Handy
import Derived.Deep.QuietTactic
import Derived.BigQuiet
import Derived.Lib.IndexMore
import Derived.Laws.DeepStrings4
import Derived.Shelf.Bytes.SlCut
import Derived.Shelf.LaysM
import Derived.Laws.AppendOwnNone
import Derived.WideShapes
import Derived.Lib.SliceRun
import Derived.Maps.AppendAt
namespace Go.Proofs.YtibjcofbhldenaaGreatDoor
open Go.RowKit

/-- a byte as the cell that holds it -/
def B (c : UInt8) : Value := .int .u8 (c.toNat : Int)
def txtI (c : Int) : Bool := decide (c = 9 ∨ (32 ≤ c ∧ c ≠ 127))
def txt (c : UInt8) : Bool := txtI (c.toNat : Int)
theorem byte_lt (c : UInt8) : 0 ≤ (c.toNat : Int) ∧ (c.toNat : Int) ≤ 255 := by have := c.toNat_lt; omega
theorem take_snoc (s : ByteArray) (k : Nat) (h : k < s.size) : s.data.toList.take (k + 1) = s.data.toList.take k ++ [s[k]] := by
  rw [List.take_succ_eq_append_getElem (by simpa using h)]; rfl
theorem take_all (s : ByteArray) (k : Nat) (h : s.size ≤ k) : s.data.toList.take k = s.data.toList := by
  exact List.take_of_length_le (by simpa using h)
theorem all_false (l : List UInt8) (k : Nat) (h : k < l.length) (hc : txt l[k] = false) : l.all txt = false := by
  rw [List.all_eq_false]; exact ⟨l[k], List.getElem_mem _, by simp [hc]⟩
theorem fold_push (l : List UInt8) : ∀ r : ByteArray, (l.map (fun c => (c.toNat : Int))).foldl (fun r n => r.push (UInt8.ofNat n.toNat)) r = ⟨r.data ++ l.toArray⟩ := by
  induction l with
  | nil => intro r; simp
  | cons c l ih =>
    intro r
    simp only [List.map_cons, List.foldl_cons]
    rw [ih]
    simp [ByteArray.push]
theorem map_B (l : List UInt8) : l.map B = (l.map (fun c => (c.toNat : Int))).map (Value.int .u8) := by simp [B, Function.comp_def]
theorem ba_eta (s : ByteArray) : (⟨s.data.toList.toArray⟩ : ByteArray) = s := by cases s; simp
end Go.Proofs.YtibjcofbhldenaaGreatDoor
namespace Go.Proofs
open Go.Shelf
def Tryz.lays160_ren : Go.Shelf.Ren := ⟨fun | 160 => 287 | 232 => 295 | 231 => 294 | 227 => 285 | 234 => 297 | 233 => 296 | 236 => 299 | 235 => 298 | 228 => 286 | 271 => 306 | 151 => 305 | 197 => 304 | 120 => 308 | 152 => 283 | 260 => 307 | 137 => 184 | 119 => 291 | 224 => 257 | 225 => 282 | 217 => 204 | 266 => 231 | n => n, fun | 9 => 9 | 4 => 4 | 3 => 3 | 5 => 5 | 117 => 310 | 116 => 309 | 0 => 0 | 124 => 322 | 21 => 21 | 105 => 306 | 46 => 202 | 119 => 330 | 139 => 333 | 138 => 332 | n => n, fun | 3 => 6 | 4 => 7 | n => n⟩
theorem Tryz.lays160 : Go.Proofs.Lays.n160 Tryz.prog Tryz.lays160_ren := {
  mixed := by kernel_rfl
  f119 := Tryz.func291.trans (congrArg some (by kernel_rfl))
  f120 := Tryz.func308.trans (congrArg some (by kernel_rfl))
  f137 := Tryz.func184.trans (congrArg some (by kernel_rfl))
  f151 := Tryz.func305.trans (congrArg some (by kernel_rfl))
  f152 := Tryz.func283.trans (congrArg some (by kernel_rfl))
  f160 := Tryz.func287.trans (congrArg some (by kernel_rfl))
  f197 := Tryz.func304.trans (congrArg some (by kernel_rfl))
  f217 := Tryz.func204.trans (congrArg some (by kernel_rfl))
  f224 := Tryz.func257.trans (congrArg some (by kernel_rfl))
  f225 := Tryz.func282.trans (congrArg some (by kernel_rfl))
  f227 := Tryz.func285.trans (congrArg some (by kernel_rfl))
  f228 := Tryz.func286.trans (congrArg some (by kernel_rfl))
  f231 := Tryz.func294.trans (congrArg some (by kernel_rfl))
  f232 := Tryz.func295.trans (congrArg some (by kernel_rfl))
  f233 := Tryz.func296.trans (congrArg some (by kernel_rfl))
  f234 := Tryz.func297.trans (congrArg some (by kernel_rfl))
  f235 := Tryz.func298.trans (congrArg some (by kernel_rfl))
  f236 := Tryz.func299.trans (congrArg some (by kernel_rfl))
  f260 := Tryz.func307.trans (congrArg some (by kernel_rfl))
  f266 := Tryz.func231.trans (congrArg some (by kernel_rfl))
  f271 := Tryz.func306.trans (congrArg some (by kernel_rfl))
  t0 := Tryz.underlying0
  a0 := Tryz.isAgg0
  z0 := Tryz.sizeOf0
  v0 := Tryz.zeroValue0
  t3 := Tryz.underlying3
  a3 := Tryz.isAgg3
  z3 := Tryz.sizeOf3
  v3 := Tryz.zeroValue3
  t4 := Tryz.underlying4
  a4 := Tryz.isAgg4
  z4 := Tryz.sizeOf4
  v4 := Tryz.zeroValue4
  t5 := Tryz.underlying5
  a5 := Tryz.isAgg5
  z5 := Tryz.sizeOf5
  v5 := Tryz.zeroValue5
  t9 := Tryz.underlying9
  a9 := Tryz.isAgg9
  z9 := Tryz.sizeOf9
  v9 := Tryz.zeroValue9
  t21 := Tryz.underlying21
  a21 := Tryz.isAgg21
  z21 := Tryz.sizeOf21
  v21 := Tryz.zeroValue21
  t46 := Tryz.underlying202
  a46 := Tryz.isAgg202
  z46 := Tryz.sizeOf202
  v46 := Tryz.zeroValue202
  t105 := Tryz.underlying306
  a105 := Tryz.isAgg306
  z105 := Tryz.sizeOf306
  v105 := Tryz.zeroValue306
  t116 := Tryz.underlying309
  a116 := Tryz.isAgg309
  z116 := Tryz.sizeOf309
  t117 := Tryz.underlying310
  a117 := Tryz.isAgg310
  z117 := Tryz.sizeOf310
  v117 := Tryz.zeroValue310
  t119 := Tryz.underlying330
  a119 := Tryz.isAgg330
  z119 := Tryz.sizeOf330
  t124 := Tryz.underlying322
  a124 := Tryz.isAgg322
  z124 := Tryz.sizeOf322
  v124 := Tryz.zeroValue322
  t138 := Tryz.underlying332
  a138 := Tryz.isAgg332
  z138 := Tryz.sizeOf332
  v138 := Tryz.zeroValue332
  t139 := Tryz.underlying333
  a139 := Tryz.isAgg333
  z139 := Tryz.sizeOf333
  v139 := Tryz.zeroValue333
  g3 := by kernel_rfl
  g4 := by kernel_rfl }
def Tryz.laysM316_ren : Go.Shelf.Ren := ⟨fun | 316 => 120 | n => n, fun | 9 => 9 | 3 => 3 | 4 => 4 | 37 => 57 | 0 => 0 | 127 => 209 | 5 => 5 | n => n, fun | n => n⟩
theorem Tryz.laysM316 : Go.Proofs.LaysM.n316 Tryz.prog Tryz.laysM316_ren := {
  mixed := by kernel_rfl
  f316 := Tryz.func120.trans (congrArg some (by kernel_rfl))
  t0 := Tryz.underlying0
  a0 := Tryz.isAgg0
  z0 := Tryz.sizeOf0
  v0 := Tryz.zeroValue0
  t3 := Tryz.underlying3
  a3 := Tryz.isAgg3
  z3 := Tryz.sizeOf3
  v3 := Tryz.zeroValue3
  t4 := Tryz.underlying4
  a4 := Tryz.isAgg4
  z4 := Tryz.sizeOf4
  v4 := Tryz.zeroValue4
  t9 := Tryz.underlying9
  a9 := Tryz.isAgg9
  z9 := Tryz.sizeOf9
  v9 := Tryz.zeroValue9
  t37 := Tryz.underlying57
  a37 := Tryz.isAgg57
  z37 := Tryz.sizeOf57
  v37 := Tryz.zeroValue57
  t127 := Tryz.underlying209
  a127 := Tryz.isAgg209
  z127 := Tryz.sizeOf209
  v127 := Tryz.zeroValue209
  t5 := Tryz.underlying5
  a5 := Tryz.isAgg5
  z5 := Tryz.sizeOf5
  v5 := Tryz.zeroValue5
  i0 := by kernel_rfl
  i3 := by kernel_rfl
  i4 := by kernel_rfl
  i5 := by kernel_rfl
  i9 := by kernel_rfl
  i37 := by kernel_rfl
  i127 := by kernel_rfl }
def Tryz.lays137_ren : Go.Shelf.Ren := ⟨fun | 137 => 184 | 217 => 204 | 266 => 231 | n => n, fun | 9 => 9 | 5 => 5 | 3 => 3 | n => n, fun | n => n⟩
theorem Tryz.lays137 : Go.Proofs.Lays.n137 Tryz.prog Tryz.lays137_ren := {
  mixed := by kernel_rfl
  f137 := Tryz.func184.trans (congrArg some (by kernel_rfl))
  f217 := Tryz.func204.trans (congrArg some (by kernel_rfl))
  f266 := Tryz.func231.trans (congrArg some (by kernel_rfl))
  t3 := Tryz.underlying3
  a3 := Tryz.isAgg3
  z3 := Tryz.sizeOf3
  v3 := Tryz.zeroValue3
  t5 := Tryz.underlying5
  a5 := Tryz.isAgg5
  z5 := Tryz.sizeOf5
  v5 := Tryz.zeroValue5
  t9 := Tryz.underlying9
  a9 := Tryz.isAgg9
  z9 := Tryz.sizeOf9
  v9 := Tryz.zeroValue9 }
end Go.Proofs
namespace Go.Proofs.YtibjcofbhldenaaGreatDoor
/-- a check sum, moved on by one bit -/
def crcB (v : Nat) : Nat := if v % 2 = 1 then (v / 2) ^^^ 3988292384 else v / 2
def crcN : Nat → Nat → Nat
  | 0, v => v
  | n + 1, v => crcB (crcN n v)
/-- .. by one byte -/
def crcC (v : Nat) (c : UInt8) : Nat := crcN 8 (v ^^^ c.toNat)
def crcL (v : Nat) (l : List UInt8) : Nat := l.foldl crcC v
def sumOf (l : List UInt8) : Nat := crcL 4294967295 l ^^^ 4294967295
theorem crcB_lt {v : Nat} (h : v < 4294967296) : crcB v < 4294967296 := by
  unfold crcB
  split
  · exact Nat.xor_lt_two_pow (n := 32) (by omega) (by decide)
  · omega
theorem crcN_lt (n : Nat) {v : Nat} (h : v < 4294967296) : crcN n v < 4294967296 := by
  induction n with
  | zero => exact h
  | succ n ih => exact crcB_lt ih
theorem crcX_lt {v : Nat} (h : v < 4294967296) (c : UInt8) : v ^^^ c.toNat < 4294967296 :=
  Nat.xor_lt_two_pow (n := 32) h (by have := c.toNat_lt; omega)
theorem crcC_lt {v : Nat} (h : v < 4294967296) (c : UInt8) : crcC v c < 4294967296 := crcN_lt 8 (crcX_lt h c)
theorem crcL_lt (l : List UInt8) : ∀ {v : Nat}, v < 4294967296 → crcL v l < 4294967296 := by
  induction l with
  | nil => intro v h; exact h
  | cons c l ih => intro v h; exact ih (crcC_lt h c)
theorem sumOf_lt (l : List UInt8) : sumOf l < 4294967296 := Nat.xor_lt_two_pow (n := 32) (crcL_lt l (by decide)) (by decide)
theorem crcL_snoc (v : Nat) (l : List UInt8) (c : UInt8) : crcL v (l ++ [c]) = crcC (crcL v l) c := by simp [crcL]
/-- a number in so many bytes, the greatest first -/
def beN : Nat → Nat → List UInt8
  | 0, _ => []
  | k + 1, v => UInt8.ofNat (v / 256 ^ k) :: beN k v
def valA (a : Nat) (l : List UInt8) : Nat := l.foldl (fun n c => n * 256 + c.toNat) a
def valN (l : List UInt8) : Nat := valA 0 l
theorem beN_len (k v : Nat) : (beN k v).length = k := by
  induction k with
  | zero => rfl
  | succ k ih => simp [beN, ih]
theorem valA_eq (l : List UInt8) : ∀ a, valA a l = a * 256 ^ l.length + valA 0 l := by
  induction l with
  | nil => intro a; simp [valA]
  | cons c l ih =>
    intro a
    show valA (a * 256 + c.toNat) l = _ + valA (0 * 256 + c.toNat) l
    rw [ih, ih (0 * 256 + c.toNat), List.length_cons, Nat.pow_succ, Nat.zero_mul, Nat.zero_add, Nat.add_mul, Nat.mul_assoc, Nat.mul_comm 256, Nat.add_assoc]
theorem valN_cons (c : UInt8) (l : List UInt8) : valN (c :: l) = c.toNat * 256 ^ l.length + valN l := by
  show valA (0 * 256 + c.toNat) l = _
  rw [valA_eq, Nat.zero_mul, Nat.zero_add]; rfl
theorem valN_snoc (l : List UInt8) (c : UInt8) : valN (l ++ [c]) = valN l * 256 + c.toNat := by simp [valN, valA]
theorem valN_lt (l : List UInt8) : valN l < 256 ^ l.length := by
  induction l with
  | nil => decide
  | cons c l ih =>
    rw [valN_cons, List.length_cons, Nat.pow_succ]
    have h := c.toNat_lt
    have : c.toNat * 256 ^ l.length + 256 ^ l.length ≤ 256 ^ l.length * 256 := by
      have := Nat.mul_le_mul_right (256 ^ l.length) (show c.toNat + 1 ≤ 256 by omega)
      rw [Nat.add_mul, Nat.one_mul] at this
      rw [Nat.mul_comm (256 ^ l.length) 256]
      exact this
    omega
theorem ofNat_mod (n : Nat) : (UInt8.ofNat n).toNat = n % 256 := by simp
theorem valN_be (k v : Nat) : valN (beN k v) = v % 256 ^ k := by
  induction k with
  | zero => rw [Nat.pow_zero, Nat.mod_one]; rfl
  | succ k ih =>
    show valN (_ :: beN k v) = _
    rw [valN_cons, beN_len, ih, ofNat_mod, Nat.pow_succ, Nat.mod_mul, Nat.mul_comm, Nat.add_comm]
theorem beN_app (k : Nat) (v : Nat) (m : Nat) : beN k (m * 256 ^ k + v) = beN k v := by
  induction k generalizing m with
  | zero => rfl
  | succ k ih =>
    show UInt8.ofNat _ :: beN k _ = UInt8.ofNat _ :: beN k _
    congr 1
    · apply UInt8.toNat_inj.1
      rw [ofNat_mod, ofNat_mod, Nat.pow_succ, Nat.mul_comm (256 ^ k) 256, ← Nat.mul_assoc, Nat.add_comm, Nat.add_mul_div_right _ _ (Nat.pow_pos (by decide)), Nat.add_mul_mod_self_right]
    · rw [Nat.pow_succ, Nat.mul_comm (256 ^ k) 256, ← Nat.mul_assoc]
      exact ih (m * 256)
theorem beN_val (l : List UInt8) : beN l.length (valN l) = l := by
  induction l with
  | nil => rfl
  | cons c l ih =>
    rw [valN_cons, List.length_cons]
    show UInt8.ofNat _ :: beN l.length _ = _
    rw [beN_app, ih]
    congr 1
    apply UInt8.toNat_inj.1
    rw [ofNat_mod, Nat.add_comm, Nat.add_mul_div_right _ _ (Nat.pow_pos (by decide)), Nat.div_eq_of_lt (valN_lt l), Nat.zero_add]
    have := c.toNat_lt
    omega
/-- all of a record but its check sum -/
def recB (op seq no : Nat) (id : List UInt8) : List UInt8 := UInt8.ofNat (192 + op) :: (beN 2 id.length ++ (beN 4 seq ++ (beN 4 no ++ id)))
def recL (op seq no : Nat) (id : List UInt8) : List UInt8 := recB op seq no id ++ beN 4 (sumOf (recB op seq no id))
theorem recB_len (op seq no : Nat) (id : List UInt8) : (recB op seq no id).length = 11 + id.length := by simp [recB, beN_len]; omega
theorem recL_len (op seq no : Nat) (id : List UInt8) : (recL op seq no id).length = 15 + id.length := by rw [recL, List.length_append, recB_len, beN_len]; omega
/-- what Encode answers: seq, op, no are any integers -/
def encOf (seq op no : Int) (id : List UInt8) : List UInt8 × Int :=
  if (op = 1 ∨ op = 2) ∧ (0 ≤ seq ∧ seq ≤ 4294967295) ∧ (0 ≤ no ∧ no ≤ 4294967295) then
    (if id.length ≤ 4096 then (recL op.toNat seq.toNat no.toNat id, 0) else ([], 101))
  else ([], 100)
/-- a record as it is read: seq, op, no, id; its length; the error -/
structure RecD where
  seq : Nat
  op : Nat
  no : Nat
  id : List UInt8
  n : Nat
  e : Int
def decErr (e : Int) : RecD := ⟨0, 0, 0, [], 0, e⟩
def midN (l : List UInt8) (a b : Nat) : List UInt8 := (l.drop a).take (b - a)
def decOf (l : List UInt8) : RecD :=
  if l.length = 0 then decErr 0
  else if ¬ ((l[0]?.getD 0).toNat = 193 ∨ (l[0]?.getD 0).toNat = 194) then decErr 100
  else if l.length < 3 then decErr 0
  else if 4096 < valN (midN l 1 3) then decErr 100
  else if l.length < valN (midN l 1 3) + 15 then decErr 0
  else if valN (midN l (valN (midN l 1 3) + 11) (valN (midN l 1 3) + 15)) = sumOf (l.take (valN (midN l 1 3) + 11)) then
    ⟨valN (midN l 3 7), (l[0]?.getD 0).toNat - 192, valN (midN l 7 11), midN l 11 (valN (midN l 1 3) + 11), valN (midN l 1 3) + 15, 0⟩
  else decErr 100
end Go.Proofs.YtibjcofbhldenaaGreatDoor
namespace Go.Proofs
open Go.Shelf
def Tryz.lays145_ren : Go.Shelf.Ren := ⟨fun | 145 => 240 | 220 => 259 | 219 => 270 | 217 => 204 | 225 => 282 | 224 => 257 | 267 => 288 | 266 => 231 | 314 => 300 | n => n, fun | 9 => 9 | 4 => 4 | 59 => 273 | 3 => 3 | 5 => 5 | 46 => 202 | 146 => 293 | 51 => 203 | n => n, fun | 1 => 1 | n => n⟩
theorem Tryz.lays145 : Go.Proofs.Lays.n145 Tryz.prog Tryz.lays145_ren := {
  mixed := by kernel_rfl
  f145 := Tryz.func240.trans (congrArg some (by kernel_rfl))
  f217 := Tryz.func204.trans (congrArg some (by kernel_rfl))
  f219 := Tryz.func270.trans (congrArg some (by kernel_rfl))
  f220 := Tryz.func259.trans (congrArg some (by kernel_rfl))
  f224 := Tryz.func257.trans (congrArg some (by kernel_rfl))
  f225 := Tryz.func282.trans (congrArg some (by kernel_rfl))
  f266 := Tryz.func231.trans (congrArg some (by kernel_rfl))
  f267 := Tryz.func288.trans (congrArg some (by kernel_rfl))
  f314 := Tryz.func300.trans (congrArg some (by kernel_rfl))
  t3 := Tryz.underlying3
  a3 := Tryz.isAgg3
  z3 := Tryz.sizeOf3
  v3 := Tryz.zeroValue3
  t4 := Tryz.underlying4
  a4 := Tryz.isAgg4
  z4 := Tryz.sizeOf4
  v4 := Tryz.zeroValue4
  t5 := Tryz.underlying5
  a5 := Tryz.isAgg5
  z5 := Tryz.sizeOf5
  v5 := Tryz.zeroValue5
  t9 := Tryz.underlying9
  a9 := Tryz.isAgg9
  z9 := Tryz.sizeOf9
  v9 := Tryz.zeroValue9
  t46 := Tryz.underlying202
  a46 := Tryz.isAgg202
  z46 := Tryz.sizeOf202
  v46 := Tryz.zeroValue202
  t51 := Tryz.underlying203
  a51 := Tryz.isAgg203
  z51 := Tryz.sizeOf203
  v51 := Tryz.zeroValue203
  t59 := Tryz.underlying273
  a59 := Tryz.isAgg273
  z59 := Tryz.sizeOf273
  v59 := Tryz.zeroValue273
  t146 := Tryz.underlying293
  a146 := Tryz.isAgg293
  z146 := Tryz.sizeOf293
  v146 := Tryz.zeroValue293
  g1 := by kernel_rfl }
def Tryz.lays153_ren : Go.Shelf.Ren := ⟨fun | 153 => 264 | 152 => 283 | 226 => 284 | 227 => 285 | 228 => 286 | 137 => 184 | 119 => 291 | 224 => 257 | 225 => 282 | 217 => 204 | 266 => 231 | n => n, fun | 9 => 9 | 3 => 3 | 4 => 4 | 5 => 5 | 21 => 21 | 117 => 310 | 116 => 309 | 0 => 0 | 46 => 202 | 124 => 322 | n => n, fun | n => n⟩
theorem Tryz.lays153 : Go.Proofs.Lays.n153 Tryz.prog Tryz.lays153_ren := {
  mixed := by kernel_rfl
  f119 := Tryz.func291.trans (congrArg some (by kernel_rfl))
  f137 := Tryz.func184.trans (congrArg some (by kernel_rfl))
  f152 := Tryz.func283.trans (congrArg some (by kernel_rfl))
  f153 := Tryz.func264.trans (congrArg some (by kernel_rfl))
  f217 := Tryz.func204.trans (congrArg some (by kernel_rfl))
  f224 := Tryz.func257.trans (congrArg some (by kernel_rfl))
  f225 := Tryz.func282.trans (congrArg some (by kernel_rfl))
  f226 := Tryz.func284.trans (congrArg some (by kernel_rfl))
  f227 := Tryz.func285.trans (congrArg some (by kernel_rfl))
  f228 := Tryz.func286.trans (congrArg some (by kernel_rfl))
  f266 := Tryz.func231.trans (congrArg some (by kernel_rfl))
  t0 := Tryz.underlying0
  a0 := Tryz.isAgg0
  z0 := Tryz.sizeOf0
  v0 := Tryz.zeroValue0
  t3 := Tryz.underlying3
  a3 := Tryz.isAgg3
  z3 := Tryz.sizeOf3
  v3 := Tryz.zeroValue3
  t4 := Tryz.underlying4
  a4 := Tryz.isAgg4
  z4 := Tryz.sizeOf4
  v4 := Tryz.zeroValue4
  t5 := Tryz.underlying5
  a5 := Tryz.isAgg5
  z5 := Tryz.sizeOf5
  v5 := Tryz.zeroValue5
  t9 := Tryz.underlying9
  a9 := Tryz.isAgg9
  z9 := Tryz.sizeOf9
  v9 := Tryz.zeroValue9
  t21 := Tryz.underlying21
  a21 := Tryz.isAgg21
  z21 := Tryz.sizeOf21
  v21 := Tryz.zeroValue21
  t46 := Tryz.underlying202
  a46 := Tryz.isAgg202
  z46 := Tryz.sizeOf202
  v46 := Tryz.zeroValue202
  t116 := Tryz.underlying309
  a116 := Tryz.isAgg309
  z116 := Tryz.sizeOf309
  t117 := Tryz.underlying310
  a117 := Tryz.isAgg310
  z117 := Tryz.sizeOf310
  v117 := Tryz.zeroValue310
  t124 := Tryz.underlying322
  a124 := Tryz.isAgg322
  z124 := Tryz.sizeOf322
  v124 := Tryz.zeroValue322 }
end Go.Proofs
namespace Go.Proofs
open Go.Shelf
def Tryz.laysV11_ren : Go.Shelf.Ren := ⟨fun | 11 => 279 | n => n, fun | 9 => 9 | 27 => 303 | 4 => 4 | 0 => 0 | 3 => 3 | 5 => 5 | n => n, fun | n => n⟩
theorem Tryz.laysV11 : Go.Proofs.SlLaysV.n11 Tryz.prog Tryz.laysV11_ren := {
  mixed := by kernel_rfl
  f11 := Tryz.func279.trans (congrArg some (by kernel_rfl))
  t0 := Tryz.underlying0
  a0 := Tryz.isAgg0
  z0 := Tryz.sizeOf0
  v0 := Tryz.zeroValue0
  t3 := Tryz.underlying3
  a3 := Tryz.isAgg3
  z3 := Tryz.sizeOf3
  v3 := Tryz.zeroValue3
  t4 := Tryz.underlying4
  a4 := Tryz.isAgg4
  z4 := Tryz.sizeOf4
  v4 := Tryz.zeroValue4
  t5 := Tryz.underlying5
  a5 := Tryz.isAgg5
  z5 := Tryz.sizeOf5
  v5 := Tryz.zeroValue5
  t9 := Tryz.underlying9
  a9 := Tryz.isAgg9
  z9 := Tryz.sizeOf9
  v9 := Tryz.zeroValue9
  t27 := Tryz.underlying303
  a27 := Tryz.isAgg303
  z27 := Tryz.sizeOf303 }
def Tryz.laysV16_ren : Go.Shelf.Ren := ⟨fun | 16 => 280 | n => n, fun | 31 => 321 | 5 => 5 | 4 => 4 | 0 => 0 | 27 => 303 | n => n, fun | n => n⟩
theorem Tryz.laysV16 : Go.Proofs.SlLaysV.n16 Tryz.prog Tryz.laysV16_ren := {
  mixed := by kernel_rfl
  f16 := Tryz.func280.trans (congrArg some (by kernel_rfl))
  t0 := Tryz.underlying0
  a0 := Tryz.isAgg0
  z0 := Tryz.sizeOf0
  v0 := Tryz.zeroValue0
  t4 := Tryz.underlying4
  a4 := Tryz.isAgg4
  z4 := Tryz.sizeOf4
  v4 := Tryz.zeroValue4
  t5 := Tryz.underlying5
  a5 := Tryz.isAgg5
  z5 := Tryz.sizeOf5
  v5 := Tryz.zeroValue5
  t27 := Tryz.underlying303
  a27 := Tryz.isAgg303
  z27 := Tryz.sizeOf303
  t31 := Tryz.underlying321
  a31 := Tryz.isAgg321
  z31 := Tryz.sizeOf321
  v31 := Tryz.zeroValue321 }
end Go.Proofs
namespace Go.Proofs
open Go.Shelf
def Tryz.lays7_32_ren : Go.Shelf.Ren := ⟨fun | 32 => 281 | 49 => 293 | n => n, fun | 30 => 57 | 21 => 21 | 3 => 3 | 0 => 0 | 5 => 5 | 4 => 4 | 33 => 306 | 66 => 330 | 25 => 202 | 69 => 333 | 68 => 332 | n => n, fun | 2 => 6 | 3 => 7 | n => n⟩
theorem Tryz.lays7_32 : Go.Proofs.Lays7.n32 Tryz.prog Tryz.lays7_32_ren := {
  mixed := by kernel_rfl
  f32 := Tryz.func281.trans (congrArg some (by kernel_rfl))
  f49 := Tryz.func293.trans (congrArg some (by kernel_rfl))
  t0 := Tryz.underlying0
  a0 := Tryz.isAgg0
  z0 := Tryz.sizeOf0
  v0 := Tryz.zeroValue0
  i0 := by kernel_rfl
  t3 := Tryz.underlying3
  a3 := Tryz.isAgg3
  z3 := Tryz.sizeOf3
  v3 := Tryz.zeroValue3
  i3 := by kernel_rfl
  t4 := Tryz.underlying4
  a4 := Tryz.isAgg4
  z4 := Tryz.sizeOf4
  v4 := Tryz.zeroValue4
  i4 := by kernel_rfl
  t5 := Tryz.underlying5
  a5 := Tryz.isAgg5
  z5 := Tryz.sizeOf5
  v5 := Tryz.zeroValue5
  i5 := by kernel_rfl
  t21 := Tryz.underlying21
  a21 := Tryz.isAgg21
  z21 := Tryz.sizeOf21
  v21 := Tryz.zeroValue21
  i21 := by kernel_rfl
  t25 := Tryz.underlying202
  a25 := Tryz.isAgg202
  z25 := Tryz.sizeOf202
  v25 := Tryz.zeroValue202
  i25 := by kernel_rfl
  t30 := Tryz.underlying57
  a30 := Tryz.isAgg57
  z30 := Tryz.sizeOf57
  v30 := Tryz.zeroValue57
  i30 := by kernel_rfl
  t33 := Tryz.underlying306
  a33 := Tryz.isAgg306
  z33 := Tryz.sizeOf306
  v33 := Tryz.zeroValue306
  i33 := by kernel_rfl
  t66 := Tryz.underlying330
  a66 := Tryz.isAgg330
  z66 := Tryz.sizeOf330
  t68 := Tryz.underlying332
  a68 := Tryz.isAgg332
  z68 := Tryz.sizeOf332
  v68 := Tryz.zeroValue332
  i68 := by kernel_rfl
  t69 := Tryz.underlying333
  a69 := Tryz.isAgg333
  z69 := Tryz.sizeOf333
  v69 := Tryz.zeroValue333
  i69 := by kernel_rfl
  g2 := by kernel_rfl
  g3 := by kernel_rfl }
end Go.Proofs
namespace Go.Proofs
open Go.Shelf
def Tryz.lays185_ren : Go.Shelf.Ren := ⟨fun | 185 => 238 | 187 => 255 | 115 => 164 | 253 => 256 | 224 => 257 | 254 => 258 | 255 => 268 | 291 => 269 | n => n, fun | 37 => 57 | 3 => 3 | 4 => 4 | 0 => 0 | 5 => 5 | 46 => 202 | 9 => 9 | 146 => 293 | 51 => 203 | n => n, fun | 1 => 1 | n => n⟩
theorem Tryz.lays185 : Go.Proofs.Lays.n185 Tryz.prog Tryz.lays185_ren := {
  mixed := by kernel_rfl
  f115 := Tryz.func164.trans (congrArg some (by kernel_rfl))
  f185 := Tryz.func238.trans (congrArg some (by kernel_rfl))
  f187 := Tryz.func255.trans (congrArg some (by kernel_rfl))
  f224 := Tryz.func257.trans (congrArg some (by kernel_rfl))
  f253 := Tryz.func256.trans (congrArg some (by kernel_rfl))
  f254 := Tryz.func258.trans (congrArg some (by kernel_rfl))
  f255 := Tryz.func268.trans (congrArg some (by kernel_rfl))
  f291 := Tryz.func269.trans (congrArg some (by kernel_rfl))
  t0 := Tryz.underlying0
  a0 := Tryz.isAgg0
  z0 := Tryz.sizeOf0
  v0 := Tryz.zeroValue0
  t3 := Tryz.underlying3
  a3 := Tryz.isAgg3
  z3 := Tryz.sizeOf3
  v3 := Tryz.zeroValue3
  t4 := Tryz.underlying4
  a4 := Tryz.isAgg4
  z4 := Tryz.sizeOf4
  v4 := Tryz.zeroValue4
  t5 := Tryz.underlying5
  a5 := Tryz.isAgg5
  z5 := Tryz.sizeOf5
  v5 := Tryz.zeroValue5
  t9 := Tryz.underlying9
  a9 := Tryz.isAgg9
  z9 := Tryz.sizeOf9
  v9 := Tryz.zeroValue9
  t37 := Tryz.underlying57
  a37 := Tryz.isAgg57
  z37 := Tryz.sizeOf57
  v37 := Tryz.zeroValue57
  t46 := Tryz.underlying202
  a46 := Tryz.isAgg202
  z46 := Tryz.sizeOf202
  v46 := Tryz.zeroValue202
  t51 := Tryz.underlying203
  a51 := Tryz.isAgg203
  z51 := Tryz.sizeOf203
  v51 := Tryz.zeroValue203
  t146 := Tryz.underlying293
  a146 := Tryz.isAgg293
  z146 := Tryz.sizeOf293
  v146 := Tryz.zeroValue293
  g1 := by kernel_rfl }
def Tryz.lays103_ren : Go.Shelf.Ren := ⟨fun | 103 => 260 | 210 => 271 | 206 => 131 | n => n, fun | 9 => 9 | 4 => 4 | 24 => 288 | 3 => 3 | n => n, fun | n => n⟩
theorem Tryz.lays103 : Go.Proofs.Lays.n103 Tryz.prog Tryz.lays103_ren := {
  mixed := by kernel_rfl
  f103 := Tryz.func260.trans (congrArg some (by kernel_rfl))
  f206 := Tryz.func131.trans (congrArg some (by kernel_rfl))
  f210 := Tryz.func271.trans (congrArg some (by kernel_rfl))
  t3 := Tryz.underlying3
  a3 := Tryz.isAgg3
  z3 := Tryz.sizeOf3
  v3 := Tryz.zeroValue3
  t4 := Tryz.underlying4
  a4 := Tryz.isAgg4
  z4 := Tryz.sizeOf4
  v4 := Tryz.zeroValue4
  t9 := Tryz.underlying9
  a9 := Tryz.isAgg9
  z9 := Tryz.sizeOf9
  v9 := Tryz.zeroValue9
  t24 := Tryz.underlying288
  a24 := Tryz.isAgg288
  z24 := Tryz.sizeOf288
  v24 := Tryz.zeroValue288 }
end Go.Proofs
namespace Go.Proofs
open Go.Shelf
def Tryz.lays172_ren : Go.Shelf.Ren := ⟨fun | 172 => 244 | 244 => 261 | 245 => 262 | 247 => 272 | 279 => 273 | 280 => 274 | 281 => 275 | 282 => 276 | 287 => 289 | 316 => 120 | 171 => 154 | 205 => 290 | 321 => 301 | 322 => 302 | 243 => 182 | 246 => 203 | 283 => 227 | 284 => 228 | 285 => 229 | 286 => 230 | 129 => 215 | 317 => 250 | 318 => 251 | 319 => 252 | 320 => 253 | 337 => 266 | 338 => 267 | n => n, fun | 9 => 9 | 3 => 3 | 75 => 276 | 76 => 277 | 4 => 4 | 5 => 5 | 167 => 295 | 37 => 57 | 0 => 0 | 85 => 296 | 2 => 2 | 168 => 298 | 53 => 253 | 175 => 314 | 46 => 202 | 210 => 317 | 127 => 209 | 145 => 329 | 143 => 327 | 21 => 21 | 171 => 260 | 173 => 262 | 212 => 282 | 51 => 203 | 20 => 20 | 213 => 283 | 232 => 312 | 233 => 313 | 80 => 336 | n => n, fun | 15 => 4 | 16 => 5 | 17 => 0 | 18 => 2 | 19 => 3 | n => n⟩
theorem Tryz.lays172 : Go.Proofs.Lays.n172 Tryz.prog Tryz.lays172_ren := {
  mixed := by kernel_rfl
  f129 := Tryz.func215.trans (congrArg some (by kernel_rfl))
  f171 := Tryz.func154.trans (congrArg some (by kernel_rfl))
  f172 := Tryz.func244.trans (congrArg some (by kernel_rfl))
  f205 := Tryz.func290.trans (congrArg some (by kernel_rfl))
  f243 := Tryz.func182.trans (congrArg some (by kernel_rfl))
  f244 := Tryz.func261.trans (congrArg some (by kernel_rfl))
  f245 := Tryz.func262.trans (congrArg some (by kernel_rfl))
  f246 := Tryz.func203.trans (congrArg some (by kernel_rfl))
  f247 := Tryz.func272.trans (congrArg some (by kernel_rfl))
  f279 := Tryz.func273.trans (congrArg some (by kernel_rfl))
  f280 := Tryz.func274.trans (congrArg some (by kernel_rfl))
  f281 := Tryz.func275.trans (congrArg some (by kernel_rfl))
  f282 := Tryz.func276.trans (congrArg some (by kernel_rfl))
  f283 := Tryz.func227.trans (congrArg some (by kernel_rfl))
  f284 := Tryz.func228.trans (congrArg some (by kernel_rfl))
  f285 := Tryz.func229.trans (congrArg some (by kernel_rfl))
  f286 := Tryz.func230.trans (congrArg some (by kernel_rfl))
  f287 := Tryz.func289.trans (congrArg some (by kernel_rfl))
  f316 := Tryz.func120.trans (congrArg some (by kernel_rfl))
  f317 := Tryz.func250.trans (congrArg some (by kernel_rfl))
  f318 := Tryz.func251.trans (congrArg some (by kernel_rfl))
  f319 := Tryz.func252.trans (congrArg some (by kernel_rfl))
  f320 := Tryz.func253.trans (congrArg some (by kernel_rfl))
  f321 := Tryz.func301.trans (congrArg some (by kernel_rfl))
  f322 := Tryz.func302.trans (congrArg some (by kernel_rfl))
  f337 := Tryz.func266.trans (congrArg some (by kernel_rfl))
  f338 := Tryz.func267.trans (congrArg some (by kernel_rfl))
  t0 := Tryz.underlying0
  a0 := Tryz.isAgg0
  z0 := Tryz.sizeOf0
  v0 := Tryz.zeroValue0
  t2 := Tryz.underlying2
  a2 := Tryz.isAgg2
  z2 := Tryz.sizeOf2
  v2 := Tryz.zeroValue2
  t3 := Tryz.underlying3
  a3 := Tryz.isAgg3
  z3 := Tryz.sizeOf3
  v3 := Tryz.zeroValue3
  t4 := Tryz.underlying4
  a4 := Tryz.isAgg4
  z4 := Tryz.sizeOf4
  v4 := Tryz.zeroValue4
  t5 := Tryz.underlying5
  a5 := Tryz.isAgg5
  z5 := Tryz.sizeOf5
  v5 := Tryz.zeroValue5
  t9 := Tryz.underlying9
  a9 := Tryz.isAgg9
  z9 := Tryz.sizeOf9
  v9 := Tryz.zeroValue9
  t20 := Tryz.underlying20
  a20 := Tryz.isAgg20
  z20 := Tryz.sizeOf20
  v20 := Tryz.zeroValue20
  t21 := Tryz.underlying21
  a21 := Tryz.isAgg21
  z21 := Tryz.sizeOf21
  v21 := Tryz.zeroValue21
  t37 := Tryz.underlying57
  a37 := Tryz.isAgg57
  z37 := Tryz.sizeOf57
  v37 := Tryz.zeroValue57
  t46 := Tryz.underlying202
  a46 := Tryz.isAgg202
  z46 := Tryz.sizeOf202
  v46 := Tryz.zeroValue202
  t51 := Tryz.underlying203
  a51 := Tryz.isAgg203
  z51 := Tryz.sizeOf203
  v51 := Tryz.zeroValue203
  t53 := Tryz.underlying253
  a53 := Tryz.isAgg253
  z53 := Tryz.sizeOf253
  v53 := Tryz.zeroValue253
  t75 := Tryz.underlying276
  a75 := Tryz.isAgg276
  z75 := Tryz.sizeOf276
  v75 := Tryz.zeroValue276
  t76 := Tryz.underlying277
  a76 := Tryz.isAgg277
  z76 := Tryz.sizeOf277
  v76 := Tryz.zeroValue277
  t85 := Tryz.underlying296
  a85 := Tryz.isAgg296
  z85 := Tryz.sizeOf296
  v85 := Tryz.zeroValue296
  t127 := Tryz.underlying209
  a127 := Tryz.isAgg209
  z127 := Tryz.sizeOf209
  v127 := Tryz.zeroValue209
  t143 := Tryz.underlying327
  a143 := Tryz.isAgg327
  z143 := Tryz.sizeOf327
  v143 := Tryz.zeroValue327
  t145 := Tryz.underlying329
  a145 := Tryz.isAgg329
  z145 := Tryz.sizeOf329
  v145 := Tryz.zeroValue329
  t167 := Tryz.underlying295
  a167 := Tryz.isAgg295
  z167 := Tryz.sizeOf295
  v167 := Tryz.zeroValue295
  t168 := Tryz.underlying298
  a168 := Tryz.isAgg298
  z168 := Tryz.sizeOf298
  v168 := Tryz.zeroValue298
  t171 := Tryz.underlying260
  a171 := Tryz.isAgg260
  z171 := Tryz.sizeOf260
  v171 := Tryz.zeroValue260
  t173 := Tryz.underlying262
  a173 := Tryz.isAgg262
  z173 := Tryz.sizeOf262
  v173 := Tryz.zeroValue262
  t175 := Tryz.underlying314
  a175 := Tryz.isAgg314
  z175 := Tryz.sizeOf314
  v175 := Tryz.zeroValue314
  t210 := Tryz.underlying317
  a210 := Tryz.isAgg317
  z210 := Tryz.sizeOf317
  v210 := Tryz.zeroValue317
  t212 := Tryz.underlying282
  a212 := Tryz.isAgg282
  z212 := Tryz.sizeOf282
  v212 := Tryz.zeroValue282
  t213 := Tryz.underlying283
  a213 := Tryz.isAgg283
  z213 := Tryz.sizeOf283
  t232 := Tryz.underlying312
  a232 := Tryz.isAgg312
  z232 := Tryz.sizeOf312
  v232 := Tryz.zeroValue312
  t233 := Tryz.underlying313
  a233 := Tryz.isAgg313
  z233 := Tryz.sizeOf313
  v233 := Tryz.zeroValue313
  g15 := by kernel_rfl
  g16 := by kernel_rfl
  g17 := by kernel_rfl
  g18 := by kernel_rfl
  g19 := by kernel_rfl }
end Go.Proofs
namespace Go.Proofs.YtibjcofbhldenaaGreatDoor
open Go.RowKit
theorem hide' {p : Prop} (h : p) : Hid p := h
theorem size_l (l : List UInt8) : (⟨l.toArray⟩ : ByteArray).size = l.length := by show l.toArray.size = _; rw [List.size_toArray]
theorem bcell {W w1 : World} (hb : Below W.heap.size W w1) : (∀ b o, b < W.heap.size → w1.cell? ⟨b, o, none⟩ = W.cell? ⟨b, o, none⟩) ∧ (∀ b o, b < W.heap.size → w1.frozen? ⟨b, o, none⟩ = W.frozen? ⟨b, o, none⟩) :=
  ⟨fun b o h => hb.cell (p := ⟨b, o, none⟩) h, fun b o h => hb.frozen (p := ⟨b, o, none⟩) h⟩
theorem below_alloc' (w : World) (o : Obj) : Below w.heap.size w (w.alloc o) := (Below.refl _ _).alloc (Nat.le_refl _) _
abbrev FL := List (List UInt8 × List UInt8)
end Go.Proofs.YtibjcofbhldenaaGreatDoor
namespace Go.Proofs.YtibjcofbhldenaaGreatDoor
open Go.RowKit
theorem Tryz.info5 : (Tryz.prog.info? 5).map (fun i => (i.zero, i.size, i.bytes)) = some (some (.int .u8 0), 1, 1) := by kernel_rfl
theorem conv_nil (w : World) :
    Sem.run Tryz.prog (convert 57 9 (.slice none 0 0)) w = .ok (.string ⟨#[]⟩) w := by
  rw [run_convert_bytes_string w 57 9 5 _ _ _ Tryz.underlying57 Tryz.underlying5 Tryz.underlying9]
  unfold Conv.bytesToString
  simp [Sem.run_pure]
  rfl
/-- v holds just the bytes bs, in a row of the call's own; what lay below is as it was -/
def Own (w0 : World) (v : Value) (bs : List UInt8) (w : World) : Prop := w.ownsRow w0.heap.size 5 1 v bs.length (bs.map B) ∧ Below w0.heap.size w0 w
theorem own_nil (w0 w : World) (h : Below w0.heap.size w0 w) : Own w0 (.slice none 0 0) [] w := ⟨World.ownsRow_nil _ _ _ _, h⟩
theorem app1 {ops : Array Oper} {rest : List Oper} {o : Oper} {a : Act} {Q : Exit → Act → World → Prop} {wr : World} {n : Int} (hgd : o.guard = none) (s x : Operand)
    (ho : o.op = .call { callee := .builtin .append, args := #[s, x], argTypes := #[57, 57] }) (w0 : World) (v : Value) (bs : List UInt8) (hs : a.eval s = v) (hown : Own w0 v bs wr)
    (c : UInt8) (hn : n = (c.toNat : Int)) (hx : a.eval x = .slice (some ⟨wr.heap.size, 0, none⟩) 1 1) (hlen : bs.length + 1 ≤ 140737488355328)
    (h : ∀ v' w', Own w0 v' (bs ++ [c]) w' → wpList Tryz.prog ops Q rest (a.put o.dst v') w') : wpList Tryz.prog ops Q (o :: rest) a (wr.alloc (.cells #[.int .u8 n] 5)) := by
  subst hn
  obtain ⟨i0, hi, hz0, hz1, hz2⟩ := info_parts Tryz.info5
  have hsz := hown.2.size
  refine wpList_append_own _ hgd s x 57 ho w0.heap.size 5 i0 (.int .u8 0) 1 1 Tryz.underlying57 hi hz0 hz1 hz2 rfl (by decide) v bs.length (bs.map B) hs (hown.1.alloc _) ⟨wr.heap.size, 0, none⟩ 1 1 [B c] hx rfl ?_ ?_ ?_ ?_ ?_ ?_
  · intro j u hj
    match j, hj with
    | 0, hj => simp at hj; subst hj; simp [Addr.add, B]
  · intro u hu; simp at hu; subst hu; rfl
  · unfold maxLen; omega
  · omega
  · simp; omega
  · intro v' w' h1 h2 _
    refine h v' w' ⟨by simpa using h1, ?_⟩
    refine Below.grown (hown.2.alloc (by omega) _) h2 (by simp; omega) ?_
    intro k hk
    exact (hown.1.lt k hk).1
theorem own_empty (w0 : World) : Own w0 (.slice (some ⟨w0.heap.size, 0, none⟩) 0 0) [] (w0.alloc (.cells #[] 5)) :=
  ⟨World.ownsRow_lit w0 #[] 0 (Nat.le_refl _) (by decide) rfl, (Below.refl _ _).alloc (Nat.le_refl _) _⟩
end Go.Proofs.YtibjcofbhldenaaGreatDoor
namespace Go.Proofs.YtibjcofbhldenaaGreatDoor
open Go.RowKit
/-- a text as the cell that holds it -/
def S (l : List UInt8) : Value := .string ⟨l.toArray⟩
theorem Tryz.info9 : (Tryz.prog.info? 9).map (fun i => (i.zero, i.size, i.bytes)) = some (some (.string ⟨#[]⟩), 1, 16) := by kernel_rfl
/-- v holds just the texts ss, in a row of the call's own; what lay below is as it was -/
def OwnS (w0 : World) (v : Value) (ss : List (List UInt8)) (w : World) : Prop := w.ownsRow w0.heap.size 9 1 v ss.length (ss.map S) ∧ Below w0.heap.size w0 w
theorem ownS_nil (w0 w : World) (h : Below w0.heap.size w0 w) : OwnS w0 (.slice none 0 0) [] w := ⟨World.ownsRow_nil _ _ _ _, h⟩
theorem ownS_mono {w0 w w' : World} {v : Value} {ss : List (List UInt8)} (h : OwnS w0 v ss w) (hb : Below w.heap.size w w') : OwnS w0 v ss w' := by
  have hz := h.2.size
  refine ⟨?_, h.2.trans (hb.mono hz)⟩
  obtain ⟨hl, h1 | ⟨g, cap, cur, rfl, hg, hh, hr⟩⟩ := h.1
  · exact ⟨hl, .inl h1⟩
  · have hlt : g < w.heap.size := by
      rcases Nat.lt_or_ge g w.heap.size with h | h
      · exact h
      · rw [Array.getElem?_eq_none (by omega)] at hh; cases hh
    exact ⟨hl, .inr ⟨g, cap, cur, rfl, hg, by rw [hb.block g hlt]; exact hh, hr⟩⟩
/-- v is a slice whose elements are the texts ss -/
def Holds (w : World) (v : Value) (ss : List (List UInt8)) : Prop :=
  ∃ ao cap, v = .slice ao ss.length cap ∧ (ss ≠ [] → ∃ b off, ao = some ⟨b, off, none⟩ ∧ b < w.heap.size ∧ ∀ j (h : j < ss.length), w.cell? ⟨b, off + j, none⟩ = some (S ss[j]))
theorem holds_own {w0 w : World} {v : Value} {ss : List (List UInt8)} (h : OwnS w0 v ss w) : Holds w v ss := by
  obtain ⟨hl, h1 | ⟨g, cap, cur, rfl, hg, hh, hr⟩⟩ := h.1
  · obtain ⟨rfl, hn⟩ := h1
    obtain rfl : ss = [] := List.eq_nil_of_length_eq_zero hn
    exact ⟨none, 0, rfl, fun h => absurd rfl h⟩
  · refine ⟨_, cap, rfl, fun _ => ⟨g, 0, rfl, (h.1.lt g rfl).2, fun j hj => ?_⟩⟩
    rw [Nat.zero_add, h.1.cellAt j (by omega)]
    simp [hj]
theorem holds_mono {w w' : World} {v : Value} {ss : List (List UInt8)} (h : Holds w v ss) (hb : Below w.heap.size w w') : Holds w' v ss := by
  obtain ⟨ao, cap, rfl, hc⟩ := h
  refine ⟨ao, cap, rfl, fun hne => ?_⟩
  obtain ⟨b, off, rfl, hlt, hcell⟩ := hc hne
  have := hb.size
  exact ⟨b, off, rfl, by omega, fun j hj => by rw [hb.cell (p := ⟨b, off + j, none⟩) hlt]; exact hcell j hj⟩
theorem holds_lit1 (w : World) (x : List UInt8) : Holds (w.alloc (.cells #[S x] 9)) (.slice (some ⟨w.heap.size, 0, none⟩) 1 1) [x] := by
  refine ⟨_, 1, rfl, fun _ => ⟨w.heap.size, 0, rfl, by simp, fun j hj => ?_⟩⟩
  match j, hj with
  | 0, _ => simp
theorem ownS_base {w w1 w2 : World} {v : Value} {ss : List (List UInt8)} (h : OwnS w1 v ss w2) (hb : Below w.heap.size w w1) : OwnS w v ss w2 := by
  have hz := hb.size
  refine ⟨?_, hb.trans (h.2.mono hz)⟩
  obtain ⟨hl, h1 | ⟨g, cap, cur, hv, hg, hr⟩⟩ := h.1
  · exact ⟨hl, .inl h1⟩
  · exact ⟨hl, .inr ⟨g, cap, cur, hv, by omega, hr⟩⟩
theorem below_drawn {B : Nat} {a w : World} (h : Below B a w) (n : Nat) : Below B a (w.drewN n) := by
  induction n with
  | zero => exact h
  | succ n ih => exact ih.drew
theorem below_drewN (w : World) (n : Nat) : Below w.heap.size w (w.drewN n) := by
  induction n with
  | zero => exact Below.refl _ _
  | succ n ih => exact ih.drew
end Go.Proofs.YtibjcofbhldenaaGreatDoor
namespace Go.Proofs.YtibjcofbhldenaaGreatDoor
open Go.RowKit
theorem cloneC (s : ByteArray) (w : World) (hs : s.size ≤ 140737488351232) :
    Calls Tryz.prog 120 #[.string s] w fun e w' => e = .returned (.string s) ∧ Below w.heap.size w w' :=
  Any.stringslite_Clone Tryz.laysM316 s w (by omega)
set_option maxHeartbeats 400000 in
theorem clone (s : ByteArray) (w : World) (hs : s.size ≤ 140737488351232) :
    Calls Tryz.prog 73 #[.string s] w fun e w' => e = .returned (.string s) ∧ Below w.heap.size w w' := by
  go_enter Tryz.func73, Tryz.ntmps73
  go_wp2_with (go_at_call 120; refine (cloneC s _ hs).mono ?_; rintro e w' ⟨rfl, hb⟩)
  go_ret
  exact ⟨rfl, hb⟩
end Go.Proofs.YtibjcofbhldenaaGreatDoor
namespace Go.Proofs.YtibjcofbhldenaaGreatDoor
open Go.RowKit
def E2 : List UInt8 := [13, 10]
def E4 : List UInt8 := [13, 10, 13, 10]
theorem pre_len (p l : List UInt8) (h : p.isPrefixOf l = true) : p.length ≤ l.length := by
  rw [List.isPrefixOf_iff_prefix] at h
  exact h.length_le
theorem occ_len (l p : List UInt8) (j : Nat) (hp : p ≠ []) (h : Lib.occAt l p j = true) : j + p.length ≤ l.length := by
  unfold Lib.occAt at h
  have := pre_len _ _ h
  rw [List.length_drop] at this
  have : 0 < p.length := List.length_pos_iff.2 hp
  omega
theorem index_some_of (l p : List UInt8) (j : Nat) (hp : p ≠ []) (h : Lib.occAt l p j = true) : ∃ i : Nat, Lib.index l p = i ∧ i ≤ j := by
  rcases Lib.index_spec l p with ⟨_, h2⟩ | ⟨k, h1, _, _, h4⟩
  · have := occ_len _ _ _ hp h
    rw [h2 j (by omega)] at h; cases h
  · refine ⟨k, h1, ?_⟩
    rcases Nat.lt_or_ge j k with h' | h'
    · rw [h4 j h'] at h; cases h
    · exact h'
theorem index_is (l p : List UInt8) (i : Nat) (h : Lib.index l p = i) : i ≤ l.length ∧ Lib.occAt l p i = true ∧ ∀ j, j < i → Lib.occAt l p j = false := by
  rcases Lib.index_spec l p with ⟨h1, _⟩ | ⟨k, h1, h2, h3, h4⟩
  · omega
  · obtain rfl : k = i := by omega
    exact ⟨h2, h3, h4⟩
theorem index_cases (l p : List UInt8) : Lib.index l p = -1 ∨ ∃ i : Nat, Lib.index l p = i := by
  rcases Lib.index_spec l p with ⟨h1, _⟩ | ⟨k, h1, _⟩
  · exact .inl h1
  · exact .inr ⟨k, h1⟩
/-- how many bytes the pairs ahead take -/
def leadOf : List UInt8 → Nat
  | a :: b :: t => if a = 13 ∧ b = 10 then leadOf t + 2 else 0
  | _ => 0
def pairB (l : List UInt8) : Bool := E2.isPrefixOf l
theorem pair_iff (l : List UInt8) : pairB l = true ↔ ∃ t, l = 13 :: 10 :: t := by
  unfold pairB E2
  rw [List.isPrefixOf_iff_prefix]
  constructor
  · rintro ⟨t, rfl⟩; exact ⟨t, rfl⟩
  · rintro ⟨t, rfl⟩; exact ⟨t, rfl⟩
theorem lead_no (l : List UInt8) (h : pairB l = false) : leadOf l = 0 := by
  match l with
  | [] => rfl
  | [a] => rfl
  | a :: b :: t =>
    rw [leadOf, if_neg]
    rintro ⟨rfl, rfl⟩
    have := (pair_iff (13 :: 10 :: t)).2 ⟨t, rfl⟩
    rw [h] at this; cases this
/-- where the head ends, counted from the beginning, the pairs of p bytes passed over; 0 and 0: it isn't there yet -/
def endOf (bs : List UInt8) (p : Nat) : Nat × Int :=
  if Lib.index (bs.drop p) E4 = -1 then (if 8192 ≤ bs.length then (0, 51) else (0, 0))
  else if 8192 < p + (Lib.index (bs.drop p) E4).toNat + 4 then (0, 51) else (p + (Lib.index (bs.drop p) E4).toNat + 4, 0)
theorem end_none (bs : List UInt8) (p : Nat) (h : Lib.index (bs.drop p) E4 = -1) : endOf bs p = if 8192 ≤ bs.length then (0, 51) else (0, 0) := by unfold endOf; rw [if_pos h]
theorem end_some (bs : List UInt8) (p i : Nat) (h : Lib.index (bs.drop p) E4 = i) : endOf bs p = if 8192 < p + i + 4 then (0, 51) else (p + i + 4, 0) := by
  unfold endOf; rw [if_neg (by omega), h, Int.toNat_natCast]
end Go.Proofs.YtibjcofbhldenaaGreatDoor
namespace Go.Proofs.YtibjcofbhldenaaGreatDoor
open Go.RowKit
theorem row_poke {W : World} {base k n b o : Nat} {t : TypeId} {v x : Value} {cs : List Value} (h : W.ownsRow base t k v n cs) (hb : b < base) : (W.setCell ⟨b, o, none⟩ x).ownsRow base t k v n cs := by
  obtain ⟨hl, h1 | ⟨g, cap, cur, hv, hg, hh, hr⟩⟩ := h
  · exact ⟨hl, .inl h1⟩
  · exact ⟨hl, .inr ⟨g, cap, cur, hv, hg, by rw [heap_setCell_other _ _ _ _ (by show g ≠ b; omega)]; exact hh, hr⟩⟩
theorem row_below {W W' : World} {base k n : Nat} {t : TypeId} {v : Value} {cs : List Value} (h : W.ownsRow base t k v n cs) (hb : Below W.heap.size W W') : W'.ownsRow base t k v n cs := by
  obtain ⟨hl, h1 | ⟨g, cap, cur, hv, hg, hh, hr⟩⟩ := h
  · exact ⟨hl, .inl h1⟩
  · have hlt : g < W.heap.size := by
      rcases Nat.lt_or_ge g W.heap.size with h | h
      · exact h
      · rw [Array.getElem?_eq_none (by omega)] at hh; cases hh
    exact ⟨hl, .inr ⟨g, cap, cur, hv, hg, by rw [hb.block g hlt]; exact hh, hr⟩⟩
theorem row_base {W : World} {base base' k n : Nat} {t : TypeId} {v : Value} {cs : List Value} (h : W.ownsRow base t k v n cs) (hb : base' ≤ base) : W.ownsRow base' t k v n cs := by
  obtain ⟨hl, h1 | ⟨g, cap, cur, hv, hg, hh, hr⟩⟩ := h
  · exact ⟨hl, .inl h1⟩
  · exact ⟨hl, .inr ⟨g, cap, cur, hv, by omega, hh, hr⟩⟩
end Go.Proofs.YtibjcofbhldenaaGreatDoor
namespace Go.Proofs.YtibjcofbhldenaaGreatDoor
open Go.RowKit
/-- v is a slice whose elements are the bytes bs -/
def HoldsB (w : World) (v : Value) (bs : List UInt8) : Prop :=
  ∃ ao cap, v = .slice ao bs.length cap ∧ (ao = none → cap = 0) ∧ bs.length ≤ cap ∧ (bs ≠ [] → ∃ b off, ao = some ⟨b, off, none⟩ ∧ b < w.heap.size ∧ ∀ j (h : j < bs.length), w.cell? ⟨b, off + j, none⟩ = some (B bs[j]))
theorem holdsB_own {w0 w : World} {v : Value} {bs : List UInt8} (h : Own w0 v bs w) : HoldsB w v bs := by
  obtain ⟨hl, h1 | ⟨g, cap, cur, rfl, hg, hh, hr⟩⟩ := h.1
  · obtain ⟨rfl, hn⟩ := h1
    obtain rfl : bs = [] := List.eq_nil_of_length_eq_zero hn
    exact ⟨none, 0, rfl, fun _ => rfl, Nat.le_refl _, fun h => absurd rfl h⟩
  · refine ⟨_, cap, rfl, fun e => (by cases e), hr.1, fun _ => ⟨g, 0, rfl, (h.1.lt g rfl).2, fun j hj => ?_⟩⟩
    rw [Nat.zero_add, h.1.cellAt j (by omega)]
    simp [hj]
theorem holdsB_mono {w w' : World} {v : Value} {bs : List UInt8} (h : HoldsB w v bs) (hb : Below w.heap.size w w') : HoldsB w' v bs := by
  obtain ⟨ao, cap, rfl, h0, hcp, hc⟩ := h
  refine ⟨ao, cap, rfl, h0, hcp, fun hne => ?_⟩
  obtain ⟨b, off, rfl, hlt, hcell⟩ := hc hne
  have := hb.size
  exact ⟨b, off, rfl, by omega, fun j hj => by rw [hb.cell (p := ⟨b, off + j, none⟩) hlt]; exact hcell j hj⟩
theorem holdsB_pre {w : World} {ao : Option Addr} {cap : Nat} {bs : List UInt8} (h : HoldsB w (.slice ao bs.length cap) bs) (i : Nat) (hi : i ≤ bs.length) : HoldsB w (.slice ao i cap) (bs.take i) := by
  obtain ⟨ao', cap', e, h0, hcp, hc⟩ := h
  simp only [Value.slice.injEq] at e
  obtain ⟨rfl, _, rfl⟩ := e
  have hl : (bs.take i).length = i := by rw [List.length_take]; omega
  refine ⟨ao, cap, by rw [hl], h0, by omega, fun hne => ?_⟩
  obtain ⟨b, off, rfl, hlt, hcell⟩ := hc (fun e => hne (by rw [e]; simp))
  exact ⟨b, off, rfl, hlt, fun j hj => by rw [hcell j (by omega)]; simp⟩
theorem holdsB_parts {w : World} {v : Value} {bs : List UInt8} (h : HoldsB w v bs) : ∃ (ao : Option Addr) (cap : Nat), v = .slice ao bs.length cap ∧ bs.length ≤ cap := by
  obtain ⟨ao, cap, e, _, hc, _⟩ := h
  exact ⟨ao, cap, e, hc⟩
end Go.Proofs.YtibjcofbhldenaaGreatDoor
namespace Go.Proofs.YtibjcofbhldenaaGreatDoor
open Go.RowKit
def trimT (l : List UInt8) : List UInt8 := Lib.trimS l [32, 9]
def blankI (c : Int) : Bool := decide (c = 32 ∨ c = 9)
theorem blank_is (c : UInt8) : ([32, 9] : List UInt8).contains c = blankI (c.toNat : Int) := by
  have : ∀ n : Nat, n < 256 → ([32, 9] : List UInt8).contains (UInt8.ofNat n) = blankI ((UInt8.ofNat n).toNat : Int) := by decide +kernel
  have h := this c.toNat c.toNat_lt
  rwa [UInt8.ofNat_toNat] at h
theorem dropWhile_len (p : UInt8 → Bool) (l : List UInt8) : (l.dropWhile p).length ≤ l.length := (List.dropWhile_sublist p).length_le
theorem trimT_len (l : List UInt8) : (trimT l).length ≤ l.length := by
  unfold trimT Lib.trimS Lib.trimLeftS Lib.trimRightS
  have h1 := dropWhile_len (fun x => ([32, 9] : List UInt8).contains x) l.reverse
  have h2 := dropWhile_len (fun x => ([32, 9] : List UInt8).contains x) (List.dropWhile (fun x => ([32, 9] : List UInt8).contains x) l.reverse).reverse
  rw [List.length_reverse] at h1 h2
  exact Nat.le_trans h2 h1
def left (s : ByteArray) (f : Nat) : Prop := ∀ j (hj : j < s.size), j < f → blankI (s[j].toNat : Int) = true
def right (s : ByteArray) (t : Nat) : Prop := ∀ j (hj : j < s.size), t ≤ j → blankI (s[j].toNat : Int) = true
theorem trimC (s : ByteArray) (w : World) (hs : s.size ≤ 140737488351232) :
    Calls Tryz.prog 287 #[.string s, .string ⟨#[32, 9]⟩] w fun e w' => e = .returned (.string ⟨(trimT s.data.toList).toArray⟩) ∧ Below w.heap.size w w' :=
  Any.strings_Trim_laid Tryz.lays160 (by kernel_rfl) s ⟨#[32, 9]⟩ w (by omega) (by decide) (ascii_of_all (by decide))
set_option maxHeartbeats 400000 in
theorem trimmed (s : ByteArray) (w : World) (hs : s.size ≤ 140737488351232) :
    Calls Tryz.prog 265 #[.string s] w fun e w' => e = .returned (.string ⟨(trimT s.data.toList).toArray⟩) ∧ Below w.heap.size w w' := by
  have hc := trimC s w hs
  generalize (⟨(trimT s.data.toList).toArray⟩ : ByteArray) = r at hc ⊢
  go_enter Tryz.func265, Tryz.ntmps265
  go_wp2_with (go_at_call 287; refine hc.mono ?_; rintro e w' ⟨rfl, hb⟩)
  go_ret
  exact ⟨rfl, hb⟩
end Go.Proofs.YtibjcofbhldenaaGreatDoor
namespace Go.Proofs.YtibjcofbhldenaaGreatDoor
open Go.RowKit
def low (c : UInt8) : UInt8 := if 65 ≤ (c.toNat : Int) ∧ (c.toNat : Int) ≤ 90 then c + 32 else c
/-- byte j behind k rounds of Fold -/
def mixed (s : ByteArray) (k j : Nat) : UInt8 := if h : j < s.size then (if j < k then low s[j] else s[j]) else 0
end Go.Proofs.YtibjcofbhldenaaGreatDoor
namespace Go.Proofs
open Go.Shelf
def Tryz.laysT4_ren : Go.Shelf.Ren := ⟨fun | 4 => 239 | 5 => 238 | 6 => 255 | 7 => 164 | 8 => 256 | 9 => 257 | 10 => 258 | 11 => 268 | 12 => 269 | n => n, fun | 22 => 57 | 4 => 4 | 3 => 3 | 0 => 0 | 5 => 5 | 29 => 202 | 9 => 9 | 31 => 293 | 30 => 203 | n => n, fun | 0 => 1 | n => n⟩
theorem Tryz.laysT4 : Go.Proofs.SlLaysT.n4 Tryz.prog Tryz.laysT4_ren := {
  mixed := by kernel_rfl
  f4 := Tryz.func239.trans (congrArg some (by kernel_rfl))
  f5 := Tryz.func238.trans (congrArg some (by kernel_rfl))
  f6 := Tryz.func255.trans (congrArg some (by kernel_rfl))
  f7 := Tryz.func164.trans (congrArg some (by kernel_rfl))
  f8 := Tryz.func256.trans (congrArg some (by kernel_rfl))
  f9 := Tryz.func257.trans (congrArg some (by kernel_rfl))
  f10 := Tryz.func258.trans (congrArg some (by kernel_rfl))
  f11 := Tryz.func268.trans (congrArg some (by kernel_rfl))
  f12 := Tryz.func269.trans (congrArg some (by kernel_rfl))
  t0 := Tryz.underlying0
  a0 := Tryz.isAgg0
  z0 := Tryz.sizeOf0
  v0 := Tryz.zeroValue0
  t3 := Tryz.underlying3
  a3 := Tryz.isAgg3
  z3 := Tryz.sizeOf3
  v3 := Tryz.zeroValue3
  t4 := Tryz.underlying4
  a4 := Tryz.isAgg4
  z4 := Tryz.sizeOf4
  v4 := Tryz.zeroValue4
  t5 := Tryz.underlying5
  a5 := Tryz.isAgg5
  z5 := Tryz.sizeOf5
  v5 := Tryz.zeroValue5
  t9 := Tryz.underlying9
  a9 := Tryz.isAgg9
  z9 := Tryz.sizeOf9
  v9 := Tryz.zeroValue9
  t22 := Tryz.underlying57
  a22 := Tryz.isAgg57
  z22 := Tryz.sizeOf57
  v22 := Tryz.zeroValue57
  t29 := Tryz.underlying202
  a29 := Tryz.isAgg202
  z29 := Tryz.sizeOf202
  v29 := Tryz.zeroValue202
  t30 := Tryz.underlying203
  a30 := Tryz.isAgg203
  z30 := Tryz.sizeOf203
  v30 := Tryz.zeroValue203
  t31 := Tryz.underlying293
  a31 := Tryz.isAgg293
  z31 := Tryz.sizeOf293
  v31 := Tryz.zeroValue293
  g0 := by kernel_rfl }
end Go.Proofs
namespace Go.Proofs.YtibjcofbhldenaaGreatDoor
open Go.RowKit
/-- block b's first cells hold vs, and may be written -/
def Blk (b : Nat) (W : World) (vs : List Value) : Prop := (∀ j (h : j < vs.length), W.cell? ⟨b, j, none⟩ = some vs[j] ∧ W.frozen? ⟨b, j, none⟩ = false) ∧ b < W.heap.size
theorem cells_below {b : Nat} {W W' : World} {vs : List Value} (h : Blk b W vs) (hb : Below W.heap.size W W') : Blk b W' vs :=
  ⟨fun j hj => ⟨by rw [hb.cell (p := ⟨b, j, none⟩) h.2]; exact (h.1 j hj).1, by rw [hb.frozen (p := ⟨b, j, none⟩) h.2]; exact (h.1 j hj).2⟩, Nat.lt_of_lt_of_le h.2 hb.size⟩
theorem cells_lit (w : World) (cs : Array Value) (t : TypeId) : Blk w.heap.size (w.alloc (.cells cs t)) cs.toList := by
  refine ⟨fun j hj => ⟨?_, ?_⟩, by simp⟩
  · unfold World.cell?
    rw [heap_alloc_new]
    have hj' : j < cs.size := by simpa using hj
    simp [hj']
  · unfold World.frozen?
    rw [heap_alloc_new]
    simp
/-- one cell written -/
theorem cells_set {b j : Nat} {W : World} {vs : List Value} (h : Blk b W vs) (hj : j < vs.length) (x : Value) : Blk b (W.setCell ⟨b, j, none⟩ x) (vs.set j x) := by
  refine ⟨fun i hi => ⟨?_, by simpa using (h.1 i (by simpa using hi)).2⟩, by simpa using h.2⟩
  rw [List.length_set] at hi
  by_cases e : i = j
  · subst e
    rw [World.cell?_setCell_same _ _ _ (h.1 i hj).1, List.getElem_set_self]
  · rw [World.cell?_setCell_other _ _ _ _ (by first | (simp; omega) | simp), (h.1 i hi).1, List.getElem_set_ne (by omega)]
/-- a cell of another block written -/
theorem cells_other {b c o : Nat} {W : World} {vs : List Value} (h : Blk b W vs) (hne : b ≠ c) (x : Value) : Blk b (W.setCell ⟨c, o, none⟩ x) vs := by
  refine ⟨fun i hi => ⟨?_, by simpa using (h.1 i hi).2⟩, by simpa using h.2⟩
  have e : (W.setCell ⟨c, o, none⟩ x).cell? ⟨b, i, none⟩ = W.cell? ⟨b, i, none⟩ := by simp [World.cell?, heap_setCell_other W ⟨c, o, none⟩ b x hne]
  rw [e]
  exact (h.1 i hi).1
/-- many cells written, one behind the other -/
def putFrom (b : Nat) : Nat → World → List Value → World
  | _, W, [] => W
  | o, W, v :: r => putFrom b (o + 1) (W.setCell ⟨b, o, none⟩ v) r
theorem cells_putFrom {b : Nat} : ∀ (vs : List Value) (o : Nat) (W : World) (us : List Value), Blk b W us → o + vs.length ≤ us.length → Blk b (putFrom b o W vs) (us.take o ++ vs ++ us.drop (o + vs.length)) := by
  intro vs
  induction vs with
  | nil =>
    intro o W us h hl
    simp only [putFrom, List.append_nil, List.length_nil, Nat.add_zero]
    rw [List.take_append_drop]
    exact h
  | cons v r ih =>
    intro o W us h hl
    rw [List.length_cons] at hl
    have h1 := ih (o + 1) _ _ (cells_set h (show o < us.length by omega) v) (by rw [List.length_set]; omega)
    have e1 : (us.set o v).take (o + 1) = us.take o ++ [v] := by
      rw [List.take_succ_eq_append_getElem (by rw [List.length_set]; omega), List.getElem_set_self, List.take_set_of_le (Nat.le_refl _)]
    have e2 : (us.set o v).drop (o + 1 + r.length) = us.drop (o + (v :: r).length) := by
      rw [List.drop_set_of_lt (by omega), List.length_cons]
      congr 1
      omega
    rw [e1, e2] at h1
    show Blk b (putFrom b (o + 1) (W.setCell ⟨b, o, none⟩ v) r) _
    have e3 : us.take o ++ v :: r ++ us.drop (o + (v :: r).length) = us.take o ++ [v] ++ r ++ us.drop (o + (v :: r).length) := by simp
    rw [e3]
    exact h1
theorem cells_put {b : Nat} {W : World} {us : List Value} (h : Blk b W us) (vs : List Value) (hl : vs.length = us.length) : Blk b (putFrom b 0 W vs) vs := by
  have h1 := cells_putFrom vs 0 W us h (by omega)
  rw [List.take_zero, List.nil_append, Nat.zero_add, List.drop_eq_nil_of_le (by omega), List.append_nil] at h1
  exact h1
theorem put_below {w : World} {b : Nat} (hb : w.heap.size ≤ b) : ∀ (vs : List Value) (o : Nat) (W : World), Below w.heap.size w W → Below w.heap.size w (putFrom b o W vs) := by
  intro vs
  induction vs with
  | nil => intro o W h; exact h
  | cons v r ih => intro o W h; exact ih (o + 1) _ (h.setCell hb v)
theorem row_putFrom {base k n b : Nat} {t : TypeId} {v : Value} {cs : List Value} (hb : b < base) : ∀ (vs : List Value) (o : Nat) (W : World), W.ownsRow base t k v n cs → (putFrom b o W vs).ownsRow base t k v n cs := by
  intro vs
  induction vs with
  | nil => intro o W h; exact h
  | cons x r ih => intro o W h; exact ih (o + 1) _ (row_poke h hb)
end Go.Proofs.YtibjcofbhldenaaGreatDoor
namespace Go.Proofs.YtibjcofbhldenaaGreatDoor
open Go.RowKit
/-- a block of four cells that may be written, and what they hold -/
def Quad (b : Nat) (W : World) (v0 v1 v2 v3 : Value) : Prop := W.cell? ⟨b, 0, none⟩ = some v0 ∧ W.cell? ⟨b, 1, none⟩ = some v1 ∧ W.cell? ⟨b, 2, none⟩ = some v2 ∧ W.cell? ⟨b, 3, none⟩ = some v3 ∧
  W.frozen? ⟨b, 0, none⟩ = false ∧ W.frozen? ⟨b, 1, none⟩ = false ∧ W.frozen? ⟨b, 2, none⟩ = false ∧ W.frozen? ⟨b, 3, none⟩ = false ∧ b < W.heap.size
theorem quad_below {b : Nat} {W W' : World} {v0 v1 v2 v3 : Value} (h : Quad b W v0 v1 v2 v3) (hb : Below W.heap.size W W') : Quad b W' v0 v1 v2 v3 := by
  obtain ⟨h0, h1, h2, h3, f0, f1, f2, f3, hz⟩ := h
  have c : ∀ o, W'.cell? ⟨b, o, none⟩ = W.cell? ⟨b, o, none⟩ := fun o => hb.cell (p := ⟨b, o, none⟩) hz
  have f : ∀ o, W'.frozen? ⟨b, o, none⟩ = W.frozen? ⟨b, o, none⟩ := fun o => hb.frozen (p := ⟨b, o, none⟩) hz
  exact ⟨by rw [c]; exact h0, by rw [c]; exact h1, by rw [c]; exact h2, by rw [c]; exact h3, by rw [f]; exact f0, by rw [f]; exact f1, by rw [f]; exact f2, by rw [f]; exact f3, Nat.lt_of_lt_of_le hz hb.size⟩
theorem oth4 {b i j : Nat} {W : World} {v : Value} (h : j ≠ i) : (W.setCell ⟨b, j, none⟩ v).cell? ⟨b, i, none⟩ = W.cell? ⟨b, i, none⟩ := World.cell?_setCell_other _ _ _ _ (by first | (simp; done) | omega)
def put4 (b : Nat) (W : World) (v0 v1 v2 v3 : Value) : World := (((W.setCell ⟨b, 0, none⟩ v0).setCell ⟨b, 1, none⟩ v1).setCell ⟨b, 2, none⟩ v2).setCell ⟨b, 3, none⟩ v3
theorem quad_store {b : Nat} {W : World} {u0 u1 u2 u3 : Value} (h : Quad b W u0 u1 u2 u3) (v0 v1 v2 v3 : Value) :
    (put4 b W v0 v1 v2 v3).cell? ⟨b, 0, none⟩ = some v0 ∧ (put4 b W v0 v1 v2 v3).cell? ⟨b, 1, none⟩ = some v1 ∧ (put4 b W v0 v1 v2 v3).cell? ⟨b, 2, none⟩ = some v2 ∧ (put4 b W v0 v1 v2 v3).cell? ⟨b, 3, none⟩ = some v3 := by
  obtain ⟨h0, h1, h2, h3, _⟩ := h
  unfold put4
  refine ⟨?_, ?_, ?_, ?_⟩
  · rw [oth4 (by decide), oth4 (by decide), oth4 (by decide)]
    exact World.cell?_setCell_same _ _ _ h0
  · rw [oth4 (by decide), oth4 (by decide)]
    exact World.cell?_setCell_same (u := u1) _ _ _ (by rw [oth4 (by decide)]; exact h1)
  · rw [oth4 (by decide)]
    exact World.cell?_setCell_same (u := u2) _ _ _ (by rw [oth4 (by decide), oth4 (by decide)]; exact h2)
  · exact World.cell?_setCell_same (u := u3) _ _ _ (by rw [oth4 (by decide), oth4 (by decide), oth4 (by decide)]; exact h3)
theorem put4_below {w W : World} {b : Nat} (h : Below w.heap.size w W) (hb : w.heap.size ≤ b) (v0 v1 v2 v3 : Value) : Below w.heap.size w (put4 b W v0 v1 v2 v3) :=
  (((h.setCell hb _).setCell hb _).setCell hb _).setCell hb _
theorem quad_lit (w : World) (v0 v1 v2 v3 : Value) (t : TypeId) : Quad w.heap.size (w.alloc (.cells #[v0, v1, v2, v3] t)) v0 v1 v2 v3 :=
  ⟨by simp, by simp, by simp, by simp, by simp, by simp, by simp, by simp, by simp⟩
theorem frozen_set4 {b i j : Nat} {W : World} {v : Value} : (W.setCell ⟨b, j, none⟩ v).frozen? ⟨b, i, none⟩ = W.frozen? ⟨b, i, none⟩ := by simp
theorem row_put {W : World} {base k n b : Nat} {t : TypeId} {v v0 v1 v2 v3 : Value} {cs : List Value} (h : W.ownsRow base t k v n cs) (hb : b < base) : (put4 b W v0 v1 v2 v3).ownsRow base t k v n cs :=
  row_poke (row_poke (row_poke (row_poke h hb) hb) hb) hb
theorem quad_set3 {b : Nat} {W : World} {v0 v1 v2 v3 : Value} (h : Quad b W v0 v1 v2 v3) (x : Value) : Quad b (W.setCell ⟨b, 3, none⟩ x) v0 v1 v2 x := by
  obtain ⟨h0, h1, h2, h3, f0, f1, f2, f3, hz⟩ := h
  exact ⟨by rw [oth4 (by decide)]; exact h0, by rw [oth4 (by decide)]; exact h1, by rw [oth4 (by decide)]; exact h2, World.cell?_setCell_same (u := v3) _ _ _ h3, by rw [frozen_set4]; exact f0, by rw [frozen_set4]; exact f1, by rw [frozen_set4]; exact f2, by rw [frozen_set4]; exact f3, by simpa using hz⟩
theorem quad_other {b c o : Nat} {W : World} {v0 v1 v2 v3 : Value} (h : Quad b W v0 v1 v2 v3) (hne : b ≠ c) (x : Value) : Quad b (W.setCell ⟨c, o, none⟩ x) v0 v1 v2 v3 := by
  obtain ⟨h0, h1, h2, h3, f0, f1, f2, f3, hz⟩ := h
  have c : ∀ i, (W.setCell ⟨c, o, none⟩ x).cell? ⟨b, i, none⟩ = W.cell? ⟨b, i, none⟩ := fun i => by simp [World.cell?, heap_setCell_other W ⟨c, o, none⟩ b x hne]
  exact ⟨by rw [c]; exact h0, by rw [c]; exact h1, by rw [c]; exact h2, by rw [c]; exact h3, by simpa using f0, by simpa using f1, by simpa using f2, by simpa using f3, by simpa using hz⟩
end Go.Proofs.YtibjcofbhldenaaGreatDoor
namespace Go.Proofs.YtibjcofbhldenaaGreatDoor
open Go.RowKit
set_option maxHeartbeats 400000 in
theorem textFld (c : Int) (h0 : 0 ≤ c) (h1 : c ≤ 255) (w : World) :
    Calls Tryz.prog 248 #[.int .u8 c] w fun e w' => e = .returned (.bool (txtI c)) ∧ w' = w := by
  by_cases a1 : c = 9
  · subst a1
    have H : Hid (txtI 9 = true) := rfl
    go_enter Tryz.func248, Tryz.ntmps248
    go_wp2
    go_ret
    rw [H.out]
    exact ⟨rfl, rfl⟩
  · by_cases a2 : 32 ≤ c
    · by_cases a3 : c = 127
      · subst a3
        have H : Hid (txtI 127 = false) := rfl
        go_enter Tryz.func248, Tryz.ntmps248
        go_wp2
        go_ret
        rw [H.out]
        exact ⟨rfl, rfl⟩
      · have b1 : (c == 9) = false := by simpa using a1
        have b2 : (c != 127) = true := by simpa using a3
        have H : Hid (txtI c = true) := by unfold Hid txtI; simp; omega
        go_enter Tryz.func248, Tryz.ntmps248
        go_wp2
        go_ret
        rw [H.out]
        exact ⟨rfl, rfl⟩
    · have b1 : (c == 9) = false := by simpa using a1
      have b2 : decide (32 ≤ c) = false := by simpa using a2
      have H : Hid (txtI c = false) := by unfold Hid txtI; simp; omega
      go_enter Tryz.func248, Tryz.ntmps248
      go_wp2
      go_ret
      rw [H.out]
      exact ⟨rfl, rfl⟩
end Go.Proofs.YtibjcofbhldenaaGreatDoor
namespace Go.Proofs.YtibjcofbhldenaaGreatDoor
open Go.RowKit
/-- each text of each field is no longer than a text can be -/
def Fit (fs : FL) : Prop := ∀ f ∈ fs, f.1.length ≤ 140737488351232 ∧ f.2.length ≤ 140737488351232
theorem fit_at {fs : FL} (h : Fit fs) (k : Nat) (hk : k < fs.length) : (fs[k]).1.length ≤ 140737488351232 ∧ (fs[k]).2.length ≤ 140737488351232 := h _ (List.getElem_mem hk)
end Go.Proofs.YtibjcofbhldenaaGreatDoor
namespace Go.Proofs.YtibjcofbhldenaaGreatDoor
open Go.RowKit
def cellsF (ps : FL) : List Value := ps.flatMap (fun p => [S p.1, S p.2])
theorem cellsF_len (ps : FL) : (cellsF ps).length = ps.length * 2 := by
  induction ps with
  | nil => rfl
  | cons p ps ih => simp only [cellsF, List.flatMap_cons, List.length_append, List.length_cons, List.length_nil] at ih ⊢; omega
theorem cellsF_snoc (ps : FL) (p : List UInt8 × List UInt8) : cellsF (ps ++ [p]) = cellsF ps ++ [S p.1, S p.2] := by simp [cellsF]
theorem cellsF_append (ps qs : FL) : cellsF (ps ++ qs) = cellsF ps ++ cellsF qs := by simp [cellsF]
theorem cellsF_at : ∀ (ps : FL) (j : Nat) (h : j < ps.length), (cellsF ps)[j * 2]? = some (S ps[j].1) ∧ (cellsF ps)[j * 2 + 1]? = some (S ps[j].2) := by
  intro ps
  induction ps with
  | nil => intro j h; simp at h
  | cons p ps ih =>
    intro j h
    have e : cellsF (p :: ps) = S p.1 :: S p.2 :: cellsF ps := by simp [cellsF]
    rw [e]
    cases j with
    | zero => simp
    | succ j =>
      have := ih j (by simpa using h)
      rw [show (j + 1) * 2 = j * 2 + 2 by omega]
      simpa using this
theorem cellsF_one (ps : FL) : ∀ u ∈ cellsF ps, u.oneCell' = true := by
  intro u hu
  obtain ⟨p, _, hu⟩ := List.mem_flatMap.1 hu
  simp at hu; rcases hu with rfl | rfl <;> rfl
theorem Tryz.info208 : (Tryz.prog.info? 208).map (fun i => (i.zero, i.size, i.bytes)) = some (some (.agg #[.string ⟨#[]⟩, .string ⟨#[]⟩]), 2, 32) := by kernel_rfl
def OwnF (w0 : World) (v : Value) (ps : FL) (w : World) : Prop := w.ownsRow w0.heap.size 208 2 v ps.length (cellsF ps) ∧ Below w0.heap.size w0 w
theorem ownF_nil (w0 w : World) (h : Below w0.heap.size w0 w) : OwnF w0 (.slice none 0 0) [] w := ⟨World.ownsRow_nil _ _ _ _, h⟩
theorem ownF_empty (w0 : World) : OwnF w0 (.slice (some ⟨w0.heap.size, 0, none⟩) 0 0) [] (w0.alloc (.cells #[] 208)) :=
  ⟨World.ownsRow_lit w0 #[] 0 (Nat.le_refl _) (by decide) rfl, (Below.refl _ _).alloc (Nat.le_refl _) _⟩
theorem ownF_mono {w0 w w' : World} {v : Value} {ps : FL} (h : OwnF w0 v ps w) (hb : Below w.heap.size w w') : OwnF w0 v ps w' := by
  have hz := h.2.size
  refine ⟨?_, h.2.trans (hb.mono hz)⟩
  obtain ⟨hl, h1 | ⟨g, cap, cur, rfl, hg, hh, hr⟩⟩ := h.1
  · exact ⟨hl, .inl h1⟩
  · have hlt : g < w.heap.size := by
      rcases Nat.lt_or_ge g w.heap.size with h | h
      · exact h
      · rw [Array.getElem?_eq_none (by omega)] at hh; cases hh
    exact ⟨hl, .inr ⟨g, cap, cur, rfl, hg, by rw [hb.block g hlt]; exact hh, hr⟩⟩
theorem ownF_base {w w1 w2 : World} {v : Value} {ps : FL} (h : OwnF w1 v ps w2) (hb : Below w.heap.size w w1) : OwnF w v ps w2 := by
  have hz := hb.size
  refine ⟨?_, hb.trans (h.2.mono hz)⟩
  obtain ⟨hl, h1 | ⟨g, cap, cur, hv, hg, hr⟩⟩ := h.1
  · exact ⟨hl, .inl h1⟩
  · exact ⟨hl, .inr ⟨g, cap, cur, hv, by omega, hr⟩⟩
/-- v is a slice whose elements are the fields ps -/
def HoldsF (w : World) (v : Value) (ps : FL) : Prop :=
  ∃ ao cap, v = .slice ao ps.length cap ∧ (ao = none → cap = 0) ∧ ps.length ≤ cap ∧ (ps ≠ [] → ∃ b off, ao = some ⟨b, off, none⟩ ∧ b < w.heap.size ∧ ∀ j (h : j < ps.length), w.cell? ⟨b, off + j * 2, none⟩ = some (S ps[j].1) ∧ w.cell? ⟨b, off + j * 2 + 1, none⟩ = some (S ps[j].2))
theorem holdsF_own {w0 w : World} {v : Value} {ps : FL} (h : OwnF w0 v ps w) : HoldsF w v ps := by
  obtain ⟨hl, h1 | ⟨g, cap, cur, rfl, hg, hh, hr⟩⟩ := h.1
  · obtain ⟨rfl, hn⟩ := h1
    obtain rfl : ps = [] := List.eq_nil_of_length_eq_zero hn
    exact ⟨none, 0, rfl, fun _ => rfl, Nat.le_refl _, fun h => absurd rfl h⟩
  · refine ⟨_, cap, rfl, fun e => (by cases e), hr.1, fun _ => ⟨g, 0, rfl, (h.1.lt g rfl).2, fun j hj => ?_⟩⟩
    have c := cellsF_at ps j hj
    rw [Nat.zero_add]
    exact ⟨by rw [h.1.cellAt (j * 2) (by omega)]; exact c.1, by rw [h.1.cellAt (j * 2 + 1) (by omega)]; exact c.2⟩
theorem holdsF_mono {w w' : World} {v : Value} {ps : FL} (h : HoldsF w v ps) (hb : Below w.heap.size w w') : HoldsF w' v ps := by
  obtain ⟨ao, cap, rfl, h0, hcp, hc⟩ := h
  refine ⟨ao, cap, rfl, h0, hcp, fun hne => ?_⟩
  obtain ⟨b, off, rfl, hlt, hcell⟩ := hc hne
  have := hb.size
  exact ⟨b, off, rfl, by omega, fun j hj => ⟨by rw [hb.cell (p := ⟨b, off + j * 2, none⟩) hlt]; exact (hcell j hj).1, by rw [hb.cell (p := ⟨b, off + j * 2 + 1, none⟩) hlt]; exact (hcell j hj).2⟩⟩
theorem bt' {w W W' : World} (a : Below w.heap.size w W) (b : Below W.heap.size W W') : Below w.heap.size w W' := a.trans (b.mono a.size)
/-- one field appended -/
theorem appF {ops : Array Oper} {rest : List Oper} {o : Oper} {a : Act} {Q : Exit → Act → World → Prop} {wr : World} {x y : ByteArray} {H : Nat} (hgd : o.guard = none) (s z : Operand)
    (ho : o.op = .call { callee := .builtin .append, args := #[s, z], argTypes := #[54, 54] }) (w0 : World) (v : Value) (ps : FL) (hs : a.eval s = v) (hown : OwnF w0 v ps wr)
    (p : List UInt8 × List UInt8) (hx : x = ⟨p.1.toArray⟩) (hy : y = ⟨p.2.toArray⟩) (hz : a.eval z = .slice (some ⟨H, 0, none⟩) 1 1) (hH : wr.heap.size = H) (hlen : (ps.length + 1) * 32 ≤ 140737488355328)
    (h : ∀ v' w', OwnF w0 v' (ps ++ [p]) w' → wpList Tryz.prog ops Q rest (a.put o.dst v') w') : wpList Tryz.prog ops Q (o :: rest) a (wr.alloc (.cells #[.string x, .string y] 208)) := by
  subst hx hy hH
  obtain ⟨i0, hi, hz0, hz1, hz2⟩ := info_parts Tryz.info208
  have hsz := hown.2.size
  refine wpList_append_own _ hgd s z 54 ho w0.heap.size 208 i0 (.agg #[.string ⟨#[]⟩, .string ⟨#[]⟩]) 2 32 Tryz.underlying54 hi hz0 hz1 hz2 rfl (by decide) v ps.length (cellsF ps) hs (hown.1.alloc _) ⟨wr.heap.size, 0, none⟩ 1 1 [S p.1, S p.2] hz rfl ?_ ?_ ?_ ?_ ?_ ?_
  · intro j u hj
    match j, hj with
    | 0, hj => simp at hj; subst hj; simp [Addr.add, S]
    | 1, hj => simp at hj; subst hj; simp [Addr.add, S]
  · intro u hu; simp at hu; rcases hu with rfl | rfl <;> rfl
  · unfold maxLen; omega
  · omega
  · simp; omega
  · intro v' w' h1 h2 _
    refine h v' w' ⟨by rw [cellsF_snoc]; simpa using h1, ?_⟩
    refine Below.grown (hown.2.alloc (by omega) _) h2 (by simp; omega) ?_
    intro k hk
    exact (hown.1.lt k hk).1
/-- a whole list of fields appended -/
theorem appAllF {ops : Array Oper} {rest : List Oper} {o : Oper} {a : Act} {Q : Exit → Act → World → Prop} {wr : World} (hgd : o.guard = none) (s z : Operand)
    (ho : o.op = .call { callee := .builtin .append, args := #[s, z], argTypes := #[54, 54] }) (w0 : World) (v : Value) (ps : FL) (hs : a.eval s = v) (hown : OwnF w0 v ps wr)
    (u : Value) (qs : FL) (hz : a.eval z = u) (hu : HoldsF wr u qs) (hlen : (ps.length + qs.length) * 32 ≤ 140737488355328)
    (h : ∀ v' w', OwnF w0 v' (ps ++ qs) w' → wpList Tryz.prog ops Q rest (a.put o.dst v') w') : wpList Tryz.prog ops Q (o :: rest) a wr := by
  obtain ⟨i0, hi, hz0, hz1, hz2⟩ := info_parts Tryz.info208
  have hsz := hown.2.size
  obtain ⟨ao, cap, rfl, h0, hcp, hc⟩ := hu
  have key : ∀ (ad : Addr), ao = some ad → (∀ j x, (cellsF qs)[j]? = some x → wr.cell? (ad.add j) = some x) → wpList Tryz.prog ops Q (o :: rest) a wr := by
    intro ad e hnews
    subst e
    refine wpList_append_own _ hgd s z 54 ho w0.heap.size 208 i0 (.agg #[.string ⟨#[]⟩, .string ⟨#[]⟩]) 2 32 Tryz.underlying54 hi hz0 hz1 hz2 rfl (by decide) v ps.length (cellsF ps) hs hown.1 ad qs.length cap (cellsF qs) hz (cellsF_len qs) hnews (cellsF_one qs) (by unfold maxLen; omega) (by omega) hsz ?_
    intro v' w' h1 h2 _
    refine h v' w' ⟨by rw [cellsF_append, List.length_append]; exact h1, ?_⟩
    refine Below.grown hown.2 h2 (by omega) ?_
    intro k hk
    exact (hown.1.lt k hk).1
  by_cases hq : qs = []
  · subst hq
    cases ao with
    | none =>
      obtain rfl := h0 rfl
      refine wpList_append_own_none hgd s z 54 ho w0.heap.size 208 i0 2 Tryz.underlying54 hi v ps.length (cellsF ps) hs hown.1 hz ?_
      exact h v wr (by rw [List.append_nil]; exact hown)
    | some ad => exact key ad rfl (fun j x hj => by simp [cellsF] at hj)
  · obtain ⟨b, off, rfl, hlt, hcell⟩ := hc hq
    refine key ⟨b, off, none⟩ rfl (fun j x hj => ?_)
    have hjl : j < qs.length * 2 := by
      rcases Nat.lt_or_ge j (qs.length * 2) with h | h
      · exact h
      · rw [List.getElem?_eq_none (by rw [cellsF_len]; omega)] at hj; cases hj
    have e : (⟨b, off, none⟩ : Addr).add j = ⟨b, off + j, none⟩ := Go.WideShapes.add_plain _ _ _
    rw [e]
    rcases (by omega : j = j / 2 * 2 ∨ j = j / 2 * 2 + 1) with hj2 | hj2
    · have hk : j / 2 < qs.length := by omega
      have c := (cellsF_at qs (j / 2) hk).1
      rw [← hj2] at c
      rw [c] at hj
      have d := (hcell (j / 2) hk).1
      rw [← hj2] at d
      rw [d]; exact hj
    · have hk : j / 2 < qs.length := by omega
      have c := (cellsF_at qs (j / 2) hk).2
      rw [← hj2] at c
      rw [c] at hj
      have d := (hcell (j / 2) hk).2
      rw [Nat.add_assoc, ← hj2] at d
      rw [d]; exact hj
theorem holdsF_lit0 (w : World) : HoldsF w (.slice none 0 0) [] := ⟨none, 0, rfl, fun _ => rfl, Nat.le_refl _, fun h => absurd rfl h⟩
end Go.Proofs.YtibjcofbhldenaaGreatDoor
namespace Go.Proofs.YtibjcofbhldenaaGreatDoor
open Go.RowKit
structure Rq where
  m : List UInt8
  t : List UInt8
  k : Int
  fs : FL
structure Rs where
  s : Int
  r : List UInt8
  k : Int
  fs : FL
def Rq.zero : Rq := ⟨[], [], 0, []⟩
def Rs.zero : Rs := ⟨0, [], 0, []⟩
/-- an entry -/
structure En where
  key : List UInt8
  vary : List UInt8
  r : Rs
  body : List UInt8
  a : Int
  g : Int
def En.zero : En := ⟨[], [], Rs.zero, [], 0, 0⟩
end Go.Proofs.YtibjcofbhldenaaGreatDoor
namespace Go.Proofs.YtibjcofbhldenaaGreatDoor
open Go.RowKit
/-- a whole list of bytes appended -/
theorem appAllB {ops : Array Oper} {rest : List Oper} {o : Oper} {a : Act} {Q : Exit → Act → World → Prop} {wr : World} (hgd : o.guard = none) (s z : Operand)
    (ho : o.op = .call { callee := .builtin .append, args := #[s, z], argTypes := #[57, 57] }) (w0 : World) (v : Value) (ps : List UInt8) (hs : a.eval s = v) (hown : Own w0 v ps wr)
    (u : Value) (qs : List UInt8) (hz : a.eval z = u) (hu : HoldsB wr u qs) (hlen : ps.length + qs.length ≤ 140737488355328)
    (h : ∀ v' w', Own w0 v' (ps ++ qs) w' → wpList Tryz.prog ops Q rest (a.put o.dst v') w') : wpList Tryz.prog ops Q (o :: rest) a wr := by
  obtain ⟨i0, hi, hz0, hz1, hz2⟩ := info_parts Tryz.info5
  have hsz := hown.2.size
  obtain ⟨ao, cap, rfl, h0, hcp, hc⟩ := hu
  have key : ∀ (ad : Addr), ao = some ad → (∀ j x, (qs.map B)[j]? = some x → wr.cell? (ad.add j) = some x) → wpList Tryz.prog ops Q (o :: rest) a wr := by
    intro ad e hnews
    subst e
    refine wpList_append_own _ hgd s z 57 ho w0.heap.size 5 i0 (.int .u8 0) 1 1 Tryz.underlying57 hi hz0 hz1 hz2 rfl (by decide) v ps.length (ps.map B) hs hown.1 ad qs.length cap (qs.map B) hz (by simp) hnews ?_ (by unfold maxLen; omega) (by omega) hsz ?_
    · intro u hu; obtain ⟨x, _, rfl⟩ := List.mem_map.1 hu; rfl
    · intro v' w' h1 h2 _
      refine h v' w' ⟨by rw [List.map_append, List.length_append]; exact h1, ?_⟩
      refine Below.grown hown.2 h2 (by omega) ?_
      intro k hk
      exact (hown.1.lt k hk).1
  by_cases hq : qs = []
  · subst hq
    cases ao with
    | none =>
      obtain rfl := h0 rfl
      refine wpList_append_own_none hgd s z 57 ho w0.heap.size 5 i0 1 Tryz.underlying57 hi v ps.length (ps.map B) hs hown.1 hz ?_
      exact h v wr (by rw [List.append_nil]; exact hown)
    | some ad => exact key ad rfl (fun j x hj => by simp at hj)
  · obtain ⟨b, off, rfl, hlt, hcell⟩ := hc hq
    refine key ⟨b, off, none⟩ rfl (fun j x hj => ?_)
    have e : (⟨b, off, none⟩ : Addr).add j = ⟨b, off + j, none⟩ := Go.WideShapes.add_plain _ _ _
    rw [e]
    obtain ⟨hj1, hj2⟩ := List.getElem?_eq_some_iff.1 hj
    rw [List.length_map] at hj1
    rw [hcell j hj1, ← hj2]
    simp
theorem own_mono {w0 w w' : World} {v : Value} {ps : List UInt8} (h : Own w0 v ps w) (hb : Below w.heap.size w w') : Own w0 v ps w' := by
  have hz := h.2.size
  refine ⟨?_, h.2.trans (hb.mono hz)⟩
  obtain ⟨hl, h1 | ⟨g, cap, cur, rfl, hg, hh, hr⟩⟩ := h.1
  · exact ⟨hl, .inl h1⟩
  · have hlt : g < w.heap.size := by
      rcases Nat.lt_or_ge g w.heap.size with h | h
      · exact h
      · rw [Array.getElem?_eq_none (by omega)] at hh; cases hh
    exact ⟨hl, .inr ⟨g, cap, cur, rfl, hg, by rw [hb.block g hlt]; exact hh, hr⟩⟩
theorem own_base {w w1 w2 : World} {v : Value} {ps : List UInt8} (h : Own w1 v ps w2) (hb : Below w.heap.size w w1) : Own w v ps w2 := by
  have hz := hb.size
  refine ⟨?_, hb.trans (h.2.mono hz)⟩
  obtain ⟨hl, h1 | ⟨g, cap, cur, hv, hg, hr⟩⟩ := h.1
  · exact ⟨hl, .inl h1⟩
  · exact ⟨hl, .inr ⟨g, cap, cur, hv, by omega, hr⟩⟩
set_option maxHeartbeats 400000 in
theorem copyB (v : Value) (bs : List UInt8) (w : World) (hv : HoldsB w v bs) (hl : bs.length ≤ 140737488355328) :
    Calls Tryz.prog 35 #[v] w fun e w' => ∃ u, e = .returned u ∧ Own w u bs w' := by
  have HV := hide' (holdsB_mono hv (below_alloc' w (.cells #[] 5)))
  clear hv
  go_enter Tryz.func35, Tryz.ntmps35
  go_wp2_with (at_builtin; refine appAllB rfl (.tmp 5) (.tmp 6) rfl w _ [] rfl (own_empty w) v bs rfl HV.out (by simpa using hl) ?_; intro v2 w2 hown2)
  go_ret
  exact ⟨v2, rfl, hown2⟩
set_option maxRecDepth 20000 in
set_option maxHeartbeats 1000000 in
theorem sameB (va vb : Value) (xs ys : List UInt8) (w : World) (ha : HoldsB w va xs) (hb : HoldsB w vb ys) (la : xs.length ≤ 1000000000000000) (lb : ys.length ≤ 1000000000000000) :
    Calls Tryz.prog 69 #[va, vb] w fun e w' => e = .returned (.bool (decide (xs = ys))) ∧ ∃ n, w' = w.drewN n := by
  obtain ⟨ao, ca, rfl, _, _, hca⟩ := ha
  obtain ⟨bo, cb, rfl, _, _, hcb⟩ := hb
  by_cases hl : xs.length = ys.length
  · by_cases hz : xs.length = 0
    · have e1 : xs = [] := List.eq_nil_of_length_eq_zero hz
      have e2 : ys = [] := List.eq_nil_of_length_eq_zero (by omega)
      subst e1 e2
      clear hca hcb hl hz la lb
      go_enter Tryz.func69, Tryz.ntmps69
      go_wp2
      go_rounds 1
      go_ret
      exact ⟨rfl, 0, rfl⟩
    · obtain ⟨b1, o1, rfl, hlt1, c1⟩ := hca (fun e => hz (by rw [e]; rfl))
      obtain ⟨b2, o2, rfl, hlt2, c2⟩ := hcb (fun e => hz (by rw [hl, e]; rfl))
      have C1 : Hid _ := c1
      have C2 : Hid _ := c2
      obtain ⟨n, hn⟩ : ∃ n, n = xs.length := ⟨_, rfl⟩
      have N1 : Hid (xs.length = n) := hn.symm
      have N2 : Hid (ys.length = n) := by unfold Hid; omega
      have ln : n ≤ 1000000000000000 := by omega
      rw [N1.out, N2.out]
      clear hca hcb c1 c2 hl hz la lb hn
      go_enter Tryz.func69, Tryz.ntmps69
      go_wp2
      go_loopw [5] (fun i wr => ∃ k : Nat, k ≤ n ∧ i = .int .i64 k ∧ Hid (xs.take k = ys.take k) ∧ ∃ m, Hid (wr = w.drewN m)) (fun i _ => n - (intOf i).toNat)
      case atStart => exact ⟨0, by omega, rfl, rfl, 0, rfl⟩
      case round =>
        obtain ⟨k, hk, rfl, hE, m, hw⟩ := hrel
        have hw' := hw.out
        subst hw'
        by_cases hlt : k < n
        · have x1 := C1.out k (by rw [N1.out]; exact hlt)
          have x2 := C2.out k (by rw [N2.out]; exact hlt)
          unfold B at x1 x2
          have G1 : Hid (k < xs.length) := by unfold Hid; rw [N1.out]; exact hlt
          have G2 : Hid (k < ys.length) := by unfold Hid; rw [N2.out]; exact hlt
          by_cases he : xs[k]'G1.out = ys[k]'G2.out
          · have E : Hid (xs.take (k + 1) = ys.take (k + 1)) := by
              unfold Hid; rw [List.take_succ_eq_append_getElem G1.out, List.take_succ_eq_append_getElem G2.out, hE.out, he]
            rw [he] at x1
            generalize (ys[k]'G2.out).toNat = y at x1 x2
            clear he
            go_wp2
            go_quiet (fail)
            go_wp2
            go_roundw
            case rel => exact ⟨k + 1, by omega, by go_num, E, _, rfl⟩
            case measure => simp [intOf]; omega
          · have F : Hid (decide (xs = ys) = false) := by
              unfold Hid; rw [decide_eq_false_iff_not]; intro e; subst e; exact he rfl
            have hne : (((xs[k]'G1.out).toNat : Int) != ((ys[k]'G2.out).toNat : Int)) = true := by
              simp
              intro e
              exact he (UInt8.toNat_inj.1 (by omega))
            have hne2 : ((xs[k]'G1.out).toNat != (ys[k]'G2.out).toNat) = true := by
              simp
              intro e
              exact he (UInt8.toNat_inj.1 e)
            generalize (xs[k]'G1.out).toNat = x at x1 hne hne2
            generalize (ys[k]'G2.out).toNat = y at x2 hne hne2
            clear he
            go_wp2
            go_quiet (fail)
            go_wp2
            go_ret
            rw [F.out]
            exact ⟨rfl, _, World.drewN_drewN _ _ _⟩
        · have F : Hid (decide (xs = ys) = true) := by
            unfold Hid; rw [decide_eq_true_iff]
            have := hE.out
            rwa [List.take_of_length_le (by rw [N1.out]; omega), List.take_of_length_le (by rw [N2.out]; omega)] at this
          go_wp2
          go_ret
          rw [F.out]
          exact ⟨rfl, m, rfl⟩
  · have F : Hid (decide (xs = ys) = false) := by
      unfold Hid; rw [decide_eq_false_iff_not]; intro e; subst e; exact hl rfl
    have hl' : ((xs.length : Int) != (ys.length : Int)) = true := by simp; omega
    clear hca hcb hl
    generalize xs.length = n1 at la hl' ⊢
    generalize ys.length = n2 at lb hl' ⊢
    go_enter Tryz.func69, Tryz.ntmps69
    go_wp2
    go_ret
    rw [F.out]
    exact ⟨rfl, 0, rfl⟩
theorem sameBe (va vb : Value) (xs : List UInt8) (w : World) (ha : HoldsB w va xs) (hb : HoldsB w vb xs) (la : xs.length ≤ 1000000000000000) :
    Calls Tryz.prog 69 #[va, vb] w fun e w' => e = .returned (.bool true) ∧ Below w.heap.size w w' := by
  refine (sameB va vb xs xs w ha hb la la).mono ?_
  rintro e w' ⟨rfl, n, rfl⟩
  exact ⟨by simp, below_drewN _ _⟩
end Go.Proofs.YtibjcofbhldenaaGreatDoor
namespace Go.Proofs.YtibjcofbhldenaaGreatDoor
open Go.RowKit
set_option maxHeartbeats 400000 in
theorem bcloneC (v : Value) (bs : List UInt8) (w : World) (hv : HoldsB w v bs) (hl : bs.length ≤ 140737488355328) :
    Calls Tryz.prog 72 #[v] w fun e w' => ∃ u, e = .returned u ∧ Own w u bs w' := by
  have HV := hide' (holdsB_mono hv (below_alloc' w (.cells #[] 5)))
  have q1 : ∀ (w : World) (a : Option Addr) (n c n' c' : Nat), (binOp .eql 57 (.slice a n c) (.slice none n' c')).run Tryz.prog w = .ok (.bool a.isNone) w := fun w a n c n' c' => Lib.run_eql_slice_nil w _ _ a n c n' c' Tryz.underlying57
  obtain ⟨ao, cap, rfl, h0, hcp, hc⟩ := hv
  cases ao with
  | none =>
    have hb : bs = [] := by
      apply Classical.byContradiction
      intro h
      obtain ⟨b, off, e, _⟩ := hc h
      cases e
    subst hb
    clear HV hc
    go_enter Tryz.func72, Tryz.ntmps72
    go_wp2_with fail
    go_ret
    exact ⟨.slice none 0 0, rfl, own_nil _ _ (Below.refl _ _)⟩
  | some ad =>
    clear hc h0
    go_enter Tryz.func72, Tryz.ntmps72
    go_wp2_with (at_builtin; refine appAllB rfl (.tmp 5) (.tmp 6) rfl w _ [] rfl (own_empty w) _ bs rfl HV.out (by simpa using hl) ?_; intro v2 w2 hown2)
    go_ret
    exact ⟨v2, rfl, hown2⟩
end Go.Proofs.YtibjcofbhldenaaGreatDoor
namespace Go.Proofs.YtibjcofbhldenaaGreatDoor
open Go.RowKit
theorem sub_holds {w : World} {b off cap k m : Nat} {bs : List UInt8} (hk : k ≤ m) (hm : m ≤ bs.length) (hcp : bs.length ≤ cap) (hlt : b < w.heap.size) (hcell : ∀ j (h : j < bs.length), w.cell? ⟨b, off + j, none⟩ = some (B bs[j])) :
    HoldsB w (.slice (some ⟨b, off + k, none⟩) (m - k) (cap - k)) ((bs.drop k).take (m - k)) := by
  have hl : ((bs.drop k).take (m - k)).length = m - k := by rw [List.length_take, List.length_drop]; omega
  refine ⟨_, _, by rw [hl], (fun e => by cases e), by omega, fun _ => ⟨b, off + k, rfl, hlt, fun j hj => ?_⟩⟩
  rw [Nat.add_assoc, hcell (k + j) (by omega)]
  simp
theorem midB {w : World} {v : Value} {bs : List UInt8} (h : HoldsB w v bs) (k m : Nat) (hk : k ≤ m) (hm : m ≤ bs.length) :
    ∃ pv, (∀ W, Sem.run Tryz.prog (Instr.slice 57 v (some (.int .i64 (k : Int))) (some (.int .i64 (m : Int))) none) W = .ok pv W) ∧ HoldsB w pv ((bs.drop k).take (m - k)) := by
  obtain ⟨ao, cap, rfl, h0, hcp, hc⟩ := h
  have hel : Tryz.prog.elem 57 = 5 := by kernel_rfl
  have hh : ∀ W, Sem.run Tryz.prog (Instr.slice 57 (.slice ao bs.length cap) (some (.int .i64 (k : Int))) (some (.int .i64 (m : Int))) none) W = .ok (sliced ao k m cap 1) W := by
    intro W
    have h := run_slice_lh (P := Tryz.prog) W 57 ao bs.length cap (by rw [hel]; exact Tryz.underlying57) .i64 .i64 k m (by omega) (by omega) (by omega)
    rw [hel, Tryz.sizeOf5] at h
    simp only [Result.andThen, Int.toNat_natCast] at h
    exact h
  refine ⟨_, hh, ?_⟩
  unfold sliced
  by_cases hz : k < bs.length
  · obtain ⟨b, off, rfl, hlt, hcell⟩ := hc (by intro e; rw [e] at hz; simp at hz)
    rw [if_neg (by omega), Nat.mul_one, Option.map_some, Go.WideShapes.add_plain]
    exact sub_holds hk hm hcp hlt hcell
  · have hl : (bs.drop k).take (m - k) = [] := by rw [List.take_eq_nil_iff]; exact .inl (by omega)
    rw [hl]
    have hz : m - k = 0 := by omega
    rw [hz]
    cases ao with
    | none =>
      have := h0 rfl
      subst this
      refine ⟨none, 0, ?_, fun _ => rfl, Nat.le_refl _, fun h => absurd rfl h⟩
      simp
    | some ad =>
      by_cases hq : cap = k
      · refine ⟨some ad, 0, ?_, (fun h => by cases h), Nat.le_refl _, fun h => absurd rfl h⟩
        simp [hq]
      · refine ⟨some (ad.add k), cap - k, ?_, (fun h => by cases h), Nat.zero_le _, fun h => absurd rfl h⟩
        simp [hq]
theorem takeB {w : World} {v : Value} {bs : List UInt8} (h : HoldsB w v bs) (k : Nat) (hk : k ≤ bs.length) : ∃ pv, (∀ W, Sem.run Tryz.prog (Instr.slice 57 v none (some (.int .i64 (k : Int))) none) W = .ok pv W) ∧ HoldsB w pv (bs.take k) := by
  have h' := h
  obtain ⟨ao, cap, rfl, h0, hc, _⟩ := h'
  refine ⟨.slice ao k cap, fun W => ?_, holdsB_pre h k hk⟩
  have hel : Tryz.prog.elem 57 = 5 := by kernel_rfl
  have hh := run_slice_h (P := Tryz.prog) W 57 ao bs.length cap (by rw [hel]; exact Tryz.underlying57) .i64 k (by omega) (by omega)
  rw [hel, Tryz.sizeOf5] at hh
  simp only [Result.andThen, Int.toNat_natCast, sliced] at hh
  rw [hh]
  by_cases hz : cap = 0
  · subst hz
    obtain rfl : k = 0 := by omega
    cases ao <;> simp
  · simp [Addr.add]
theorem conv_holds {w : World} {v : Value} {bs : List UInt8} (h : HoldsB w v bs) : Sem.run Tryz.prog (convert 57 9 v) w = .ok (.string ⟨bs.toArray⟩) w := by
  obtain ⟨ao, cap, rfl, h0, hcp, hc⟩ := h
  by_cases hz : bs = []
  · subst hz
    rw [run_convert_bytes_string w 57 9 5 _ _ _ Tryz.underlying57 Tryz.underlying5 Tryz.underlying9]
    cases ao with
    | none =>
      unfold Conv.bytesToString
      simp [Sem.run_pure]
      rfl
    | some ad =>
      have hl : (loadCells ad 0).run Tryz.prog w = .ok ((([] : List UInt8).map (fun c => (c.toNat : Int))).map (Value.int .u8)).toArray w := by
        have := run_loadCells_list (P := Tryz.prog) (w := w) ad ([] : List Value) (fun j v hv => by simp at hv)
        simpa using this
      rw [List.length_nil, run_bytesToString w _ _ _ _ hl, fold_push]
      simp
  · obtain ⟨b, off, rfl, hlt, hcell⟩ := hc hz
    have hl : (loadCells ⟨b, off, none⟩ bs.length).run Tryz.prog w = .ok ((bs.map (fun c => (c.toNat : Int))).map (Value.int .u8)).toArray w := by
      have := run_loadCells_list (P := Tryz.prog) (w := w) ⟨b, off, none⟩ (bs.map B) (fun j v hv => by
        obtain ⟨hj1, hj2⟩ := List.getElem?_eq_some_iff.1 hv
        rw [List.length_map] at hj1
        rw [Go.WideShapes.add_plain, hcell j hj1, ← hj2]
        simp)
      simpa [map_B] using this
    rw [run_convert_bytes_string w 57 9 5 _ _ _ Tryz.underlying57 Tryz.underlying5 Tryz.underlying9, run_bytesToString w _ _ _ _ hl, fold_push]
    simp
end Go.Proofs.YtibjcofbhldenaaGreatDoor
namespace Go.Proofs.YtibjcofbhldenaaGreatDoor
open Go.RowKit
/-- but for the blocks of S and new blocks, b is as a was -/
def Far (S : Nat → Prop) (a b : World) : Prop := b.os = a.os ∧ b.tape = a.tape ∧ b.output = a.output ∧ a.heap.size ≤ b.heap.size ∧ ∀ k, k < a.heap.size → ¬ S k → b.heap[k]? = a.heap[k]?
theorem far_refl (S : Nat → Prop) (a : World) : Far S a a := ⟨rfl, rfl, rfl, Nat.le_refl _, fun _ _ _ => rfl⟩
theorem far_trans {S T : Nat → Prop} {a b c : World} (h : Far S a b) (g : Far T b c) (hs : ∀ k, k < a.heap.size → T k → S k) : Far S a c := by
  obtain ⟨h1, h2, h3, h4, h5⟩ := h
  obtain ⟨g1, g2, g3, g4, g5⟩ := g
  exact ⟨g1.trans h1, g2.trans h2, g3.trans h3, by omega, fun k hk hn => by rw [g5 k (by omega) (fun e => hn (hs k hk e)), h5 k hk hn]⟩
theorem far_grown {a b : World} {r : Option Nat} (h : a.grownBy b r) : Far (fun k => r = some k) a b :=
  ⟨h.os, h.tape, h.output, h.size, fun k hk hn => h.block k hk (fun e => hn e.symm)⟩
theorem far_of_below {a b : World} (h : Below a.heap.size a b) : Far (fun _ => False) a b := ⟨h.os, h.tape, h.output, h.size, fun k hk _ => h.block k hk⟩
theorem below_far {S : Nat → Prop} {a b : World} (h : Far S a b) (B : Nat) (hB : B ≤ a.heap.size) (hS : ∀ k, S k → B ≤ k) : Below B a b := by
  obtain ⟨h1, h2, h3, h4, h5⟩ := h
  exact ⟨h1, h2, h3, h4, fun k hk => h5 k (by omega) (fun e => by have := hS k e; omega)⟩
end Go.Proofs.YtibjcofbhldenaaGreatDoor
