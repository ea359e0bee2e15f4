/- Plain lemmas on what stands in quotes; nothing of the program is named here. -/
import Derived.Test.YtikokjclhpgocaaPlain
namespace Go.Proofs.Ytikokjclhpgocaa
open Go.RowKit
def unqI : List UInt8 → Option (List UInt8)
  | [] => some []
  | [c] => if (c.toNat : Int) = 92 then none else if (c.toNat : Int) = 34 then none else if txt c then some [c] else none
  | c :: d :: r => if (c.toNat : Int) = 92 then (if txt d then (unqI r).map (fun l => d :: l) else none) else if (c.toNat : Int) = 34 then none else if txt c then (unqI (d :: r)).map (fun l => c :: l) else none
theorem unqI_plain (c : UInt8) (r : List UInt8) (h1 : ¬ (c.toNat : Int) = 92) (h2 : ¬ (c.toNat : Int) = 34) (h3 : txt c = true) : unqI (c :: r) = (unqI r).map (fun l => c :: l) := by
  cases r with
  | nil => simp [unqI, h1, h2, h3]
  | cons d r => rw [unqI, if_neg h1, if_neg h2, if_pos h3]
theorem unqI_esc (c d : UInt8) (r : List UInt8) (h1 : (c.toNat : Int) = 92) (h3 : txt d = true) : unqI (c :: d :: r) = (unqI r).map (fun l => d :: l) := by
  rw [unqI, if_pos h1, if_pos h3]
theorem unqI_quote (c : UInt8) (r : List UInt8) (h : (c.toNat : Int) = 34) : unqI (c :: r) = none := by
  have h1 : ¬ (c.toNat : Int) = 92 := by omega
  cases r with
  | nil => rw [unqI, if_neg h1, if_pos h]
  | cons d r => rw [unqI, if_neg h1, if_pos h]
theorem unqI_bad (c : UInt8) (r : List UInt8) (h1 : ¬ (c.toNat : Int) = 92) (h2 : ¬ (c.toNat : Int) = 34) (h3 : txt c = false) : unqI (c :: r) = none := by
  cases r with
  | nil => simp [unqI, h1, h2, h3]
  | cons d r => simp [unqI, h1, h2, h3]
theorem unqI_end (c : UInt8) (h1 : (c.toNat : Int) = 92) : unqI [c] = none := by simp [unqI, h1]
theorem unqI_escbad (c d : UInt8) (r : List UInt8) (h1 : (c.toNat : Int) = 92) (h3 : txt d = false) : unqI (c :: d :: r) = none := by
  rw [unqI, if_pos h1, h3]; rfl
def RelU (L : List UInt8) (k : Nat) (o : List UInt8) : Prop := k ≤ L.length ∧ o.length ≤ k ∧ unqI L = (unqI (L.drop k)).map (fun l => o ++ l)
theorem relU_start (L : List UInt8) : RelU L 0 [] := ⟨Nat.zero_le _, Nat.le_refl _, by simp⟩
theorem drop_at {L : List UInt8} {k : Nat} (hk : k < L.length) : L.drop k = L[k] :: L.drop (k + 1) := List.drop_eq_getElem_cons hk
theorem relU_plain {L : List UInt8} {k : Nat} {o : List UInt8} (h : RelU L k o) (hk : k < L.length) (h1 : ¬ (L[k].toNat : Int) = 92) (h2 : ¬ (L[k].toNat : Int) = 34) (h3 : txt L[k] = true) : RelU L (k + 1) (o ++ [L[k]]) := by
  refine ⟨hk, by have := h.2.1; simp; omega, ?_⟩
  rw [h.2.2, drop_at hk, unqI_plain _ _ h1 h2 h3, Option.map_map]
  congr 1; funext l; simp
theorem relU_esc {L : List UInt8} {k : Nat} {o : List UInt8} (h : RelU L k o) (hk : k + 1 < L.length) (h1 : (L[k].toNat : Int) = 92) (h3 : txt L[k + 1] = true) : RelU L (k + 2) (o ++ [L[k + 1]]) := by
  refine ⟨hk, by have := h.2.1; simp; omega, ?_⟩
  rw [h.2.2, drop_at (by omega : k < L.length), drop_at hk, unqI_esc _ _ _ h1 h3, Option.map_map]
  congr 1; funext l; simp
theorem relU_quote {L : List UInt8} {k : Nat} {o : List UInt8} (h : RelU L k o) (hk : k < L.length) (h2 : (L[k].toNat : Int) = 34) : unqI L = none := by
  rw [h.2.2, drop_at hk, unqI_quote _ _ h2]; rfl
theorem relU_bad {L : List UInt8} {k : Nat} {o : List UInt8} (h : RelU L k o) (hk : k < L.length) (h1 : ¬ (L[k].toNat : Int) = 92) (h2 : ¬ (L[k].toNat : Int) = 34) (h3 : txt L[k] = false) : unqI L = none := by
  rw [h.2.2, drop_at hk, unqI_bad _ _ h1 h2 h3]; rfl
theorem relU_end {L : List UInt8} {k : Nat} {o : List UInt8} (h : RelU L k o) (hk : k + 1 = L.length) (h1 : (L[k].toNat : Int) = 92) : unqI L = none := by
  rw [h.2.2, drop_at (by omega : k < L.length), List.drop_of_length_le (by omega), unqI_end _ h1]; rfl
theorem relU_escbad {L : List UInt8} {k : Nat} {o : List UInt8} (h : RelU L k o) (hk : k + 1 < L.length) (h1 : (L[k].toNat : Int) = 92) (h3 : txt L[k + 1] = false) : unqI L = none := by
  rw [h.2.2, drop_at (by omega : k < L.length), drop_at hk, unqI_escbad _ _ _ h1 h3]; rfl
theorem relU_done {L : List UInt8} {k : Nat} {o : List UInt8} (h : RelU L k o) (hk : k = L.length) : unqI L = some o := by
  rw [h.2.2, List.drop_of_length_le (by omega), unqI]; simp
/-- what stands within the quotes -/
def inner (s : ByteArray) : List UInt8 := (s.data.toList.drop 1).take (s.size - 2)
theorem inner_len (s : ByteArray) (h : 2 ≤ s.size) : (inner s).length = s.size - 2 := by
  have : s.data.toList.length = s.size := by simp
  unfold inner; rw [List.length_take, List.length_drop, this]; omega
theorem inner_at (s : ByteArray) (h : 2 ≤ s.size) (k : Nat) (hk : k < (inner s).length) : (inner s)[k] = s[k + 1]'(by rw [inner_len s h] at hk; omega) := by
  have hk' := hk
  rw [inner_len s h] at hk'
  have e : (inner s)[k]? = some (s[k + 1]) := by
    unfold inner
    rw [List.getElem?_take_of_lt hk', List.getElem?_drop, Nat.add_comm 1 k, List.getElem?_eq_getElem (by simp; omega)]
    rfl
  exact Option.some.inj ((List.getElem?_eq_getElem hk).symm.trans e)
def unqR (L : List UInt8) : List UInt8 × Int := match unqI L with
  | some o => (o, 0)
  | none => ([], 11)
theorem unqR_none {L : List UInt8} (h : unqI L = none) : unqR L = ([], 11) := by unfold unqR; rw [h]
theorem unqR_some {L o : List UInt8} (h : unqI L = some o) : unqR L = (o, 0) := by unfold unqR; rw [h]
def framed (s : ByteArray) : Bool := if h : 2 ≤ s.size then decide ((s[0].toNat : Int) = 34 ∧ (s[s.size - 1].toNat : Int) = 34) else false
def unqS (s : ByteArray) : List UInt8 × Int := if framed s then unqR (inner s) else ([], 11)
end Go.Proofs.Ytikokjclhpgocaa
