/- Plain lemmas on bytes and lists, and how a row of bytes that a call owns is read as a string; nothing of the program is named here. -/
import Derived.WalkKit
import Derived.ProofKit
namespace Go.Proofs.YtipcmbonhkelbabGreatDoor
open Go.RowKit

/-- a byte as the cell that holds it -/
def B (c : UInt8) : Value := .int .u8 (c.toNat : Int)
def txtI (c : Int) : Bool := decide (c = 9 ∨ (32 ≤ c ∧ c ≠ 127))
def txt (c : UInt8) : Bool := txtI (c.toNat : Int)
def esc (c : UInt8) : List UInt8 := if (c.toNat : Int) = 34 ∨ (c.toNat : Int) = 92 then [92, c] else [c]
def escs (l : List UInt8) : List UInt8 := l.flatMap esc
def quoteOf (l : List UInt8) : List UInt8 × Int := if l.all txt then (34 :: (escs l ++ [34]), 0) else ([], 11)

theorem byte_lt (c : UInt8) : 0 ≤ (c.toNat : Int) ∧ (c.toNat : Int) ≤ 255 := by have := c.toNat_lt; omega
theorem escs_len (l : List UInt8) : (escs l).length ≤ 2 * l.length := by
  induction l with
  | nil => simp [escs]
  | cons c l ih =>
    have h : escs (c :: l) = esc c ++ escs l := by simp [escs]
    have h2 : (esc c).length ≤ 2 := by unfold esc; split <;> simp
    rw [h]; simp; omega
theorem escs_snoc (l : List UInt8) (c : UInt8) : escs (l ++ [c]) = escs l ++ esc c := by simp [escs]
theorem take_snoc (s : ByteArray) (k : Nat) (h : k < s.size) : s.data.toList.take (k + 1) = s.data.toList.take k ++ [s[k]] := by
  rw [List.take_succ_eq_append_getElem (by simpa using h)]; rfl
theorem take_all (s : ByteArray) (k : Nat) (h : s.size ≤ k) : s.data.toList.take k = s.data.toList := by
  exact List.take_of_length_le (by simpa using h)
theorem all_false (l : List UInt8) (k : Nat) (h : k < l.length) (hc : txt l[k] = false) : l.all txt = false := by
  rw [List.all_eq_false]; exact ⟨l[k], List.getElem_mem _, by simp [hc]⟩
theorem fold_push (l : List UInt8) : ∀ r : ByteArray, (l.map (fun c => (c.toNat : Int))).foldl (fun r n => r.push (UInt8.ofNat n.toNat)) r = ⟨r.data ++ l.toArray⟩ := by
  induction l with
  | nil => intro r; simp
  | cons c l ih =>
    intro r
    simp only [List.map_cons, List.foldl_cons]
    rw [ih]
    simp [ByteArray.push]
theorem map_B (l : List UInt8) : l.map B = (l.map (fun c => (c.toNat : Int))).map (Value.int .u8) := by simp [B, Function.comp_def]
theorem ba_eta (s : ByteArray) : (⟨s.data.toList.toArray⟩ : ByteArray) = s := by cases s; simp
end Go.Proofs.YtipcmbonhkelbabGreatDoor
