/- The contracts of List and of the document's List. -/
import Derived.Test.YtikokjclhpgocaaPiecesT
import Derived.Test.YtikokjclhpgocaaSameT
namespace Go.Proofs.Ytikokjclhpgocaa
open Go.RowKit
set_option maxRecDepth 20000
def filt (ps : List (List UInt8)) : List (List UInt8) := ps.filter (fun l => !l.isEmpty)
def listOf (L : List UInt8) : List (List UInt8) := filt ((pieces 44 L).map trimT)
theorem filt_snoc_nil (ps : List (List UInt8)) (p : List UInt8) (h : p.isEmpty = true) : filt (ps ++ [p]) = filt ps := by simp [filt, h]
theorem filt_snoc_some (ps : List (List UInt8)) (p : List UInt8) (h : p.isEmpty = false) : filt (ps ++ [p]) = filt ps ++ [p] := by simp [filt, h]
theorem filt_len (ps : List (List UInt8)) : (filt ps).length ≤ ps.length := List.length_filter_le _ _
theorem pcs_ne (c : Int) : ∀ (n : Nat) (q : Bool) (cur L : List UInt8), L.length ≤ n → pcs c q cur L ≠ [] := by
  intro n q cur L h e
  have : ∀ (n : Nat) (q : Bool) (cur L : List UInt8), L.length ≤ n → 0 < (pcs c q cur L).length := by
    intro n
    induction n with
    | zero =>
      intro q cur L h
      obtain rfl : L = [] := List.eq_nil_of_length_eq_zero (by omega)
      simp [pcs]
    | succ n ih =>
      intro q cur L h
      match L, h with
      | [], _ => simp [pcs]
      | [x], _ =>
        rw [pcs]
        split
        · simp
        · split
          · simp
          · split <;> simp
      | x :: y :: r, h =>
        have h1 : (y :: r).length ≤ n := by simp at h ⊢; omega
        have h2 : r.length ≤ n := by simp at h; omega
        rw [pcs]
        split
        · exact ih _ _ _ h1
        · split
          · exact ih _ _ _ h2
          · split
            · simp
            · exact ih _ _ _ h1
  have h3 := this n q cur L h
  rw [e] at h3
  simp at h3
theorem pieces_ne (c : Int) (L : List UInt8) : pieces c L ≠ [] := pcs_ne c L.length false [] L (Nat.le_refl _)
theorem cloneL (l : List UInt8) (w : World) (hl : l.length ≤ 140737488351232) :
    Calls Try.prog 17 #[.string ⟨l.toArray⟩] w fun e w' => e = .returned (.string ⟨l.toArray⟩) ∧ Below w.heap.size w w' :=
  clone ⟨l.toArray⟩ w (by show l.toArray.size ≤ _; rw [List.size_toArray]; exact hl)
theorem trim_both (l : List UInt8) (a b : UInt8) (m : List UInt8) (h : l = a :: m) (m' : List UInt8) (h' : l = m' ++ [b]) (ha : blankI (a.toNat : Int) = false) (hb : blankI (b.toNat : Int) = false) : trimT l = l := by
  unfold trimT Lib.trimS
  have hr : Lib.trimRightS l [32, 9] = l := by
    rw [Lib.trimRightS_take l [32, 9] l.length (Nat.le_refl _) (fun j x hj hx => by rw [List.getElem?_eq_none hj] at hx; cases hx) (fun x _ hx => by
      rw [h'] at hx; simp at hx; subst hx; rw [blank_is]; exact hb), List.take_length]
  rw [hr, Lib.trimLeftS_drop l [32, 9] 0 (Nat.zero_le _) (fun j x hj => absurd hj (Nat.not_lt_zero _)) (fun x hx => by
    rw [h] at hx; simp at hx; subst hx; rw [blank_is]; exact ha), List.drop_zero]
end Go.Proofs.Ytikokjclhpgocaa
