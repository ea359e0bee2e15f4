/- The contract of the document's digits. -/
import Derived.Test.YtlhhcpbfjjhbfabDoorDaJ
namespace Go.Proofs.YtlhhcpbfjjhbfabDoor
open Go.RowKit
/-- a blank at the first place counts as a nought -/
def fixS : List UInt8 → List UInt8
  | [] => []
  | c :: r => (if c = 32 then 48 else c) :: r
def refNum (l : List UInt8) : Int := if digs (fixS l) then numV (fixS l) else -1
def seg (s : ByteArray) (f e : Nat) : List UInt8 := (s.data.toList.drop f).take (e - f)
theorem fixS_len (l : List UInt8) : (fixS l).length = l.length := by cases l <;> simp [fixS]
theorem seg_lenD (s : ByteArray) (f e : Nat) (h : f ≤ e) (he : e ≤ s.size) : (seg s f e).length = e - f := by
  have : s.data.toList.length = s.size := by simp
  simp only [seg, List.length_take, List.length_drop]; omega
theorem seg_at (s : ByteArray) (f e k : Nat) (h : f ≤ k) (hk : k < e) (he : e ≤ s.size) : (seg s f e)[k - f]? = some s[k] := by
  unfold seg
  rw [List.getElem?_take_of_lt (by omega), List.getElem?_drop, show f + (k - f) = k by omega]
  have : k < s.data.toList.length := by have : s.data.toList.length = s.size := by simp
                                        omega
  rw [List.getElem?_eq_getElem this]
  rfl
theorem fix_at0 (l : List UInt8) {c : UInt8} (h : l[0]? = some c) : (fixS l)[0]? = some (if c = 32 then 48 else c) := by
  cases l with
  | nil => simp at h
  | cons a r => simp at h; subst h; rfl
theorem fix_at (l : List UInt8) {i : Nat} {c : UInt8} (hi : 0 < i) (h : l[i]? = some c) : (fixS l)[i]? = some c := by
  cases l with
  | nil => simp at h
  | cons a r =>
    obtain ⟨j, rfl⟩ : ∃ j, i = j + 1 := ⟨i - 1, by omega⟩
    simpa [fixS] using h
theorem take_more {l : List UInt8} {i : Nat} {c : UInt8} (h : l[i]? = some c) : l.take (i + 1) = l.take i ++ [c] := by
  rw [List.take_add_one, h]; rfl
theorem digs_bad2 {l : List UInt8} {i : Nat} {c : UInt8} (h : l[i]? = some c) (hc : isDig c = false) : digs l = false := by
  unfold digs
  rw [List.all_eq_false]
  exact ⟨c, List.mem_of_getElem? h, by rw [hc]; simp⟩
theorem numV_bd2 (l : List UInt8) (h : digs l = true) (hl : l.length ≤ 8) : 0 ≤ numV l ∧ numV l ≤ 100000000 := by
  have hz : (⟨l.toArray⟩ : ByteArray).size = l.length := by show l.toArray.size = _; simp
  have := numV_bd ⟨l.toArray⟩ l.length (by rw [toList_mk, List.take_length]; exact h) (by rw [hz]; omega)
  rw [toList_mk, List.take_length] at this
  have := pow_le8 hl
  omega
theorem refNum_in (l : List UInt8) (hl : l.length ≤ 8) : -1 ≤ refNum l ∧ refNum l ≤ 100000000 := by
  unfold refNum
  split
  · next h => have := numV_bd2 _ h (by rw [fixS_len]; exact hl); omega
  · omega
end Go.Proofs.YtlhhcpbfjjhbfabDoor
