/- Plain: numbers of seconds. -/
import Derived.Test.YtemmghmacbofaaaDoorPlain
namespace Go.Proofs.YtemmghmacbofaaaDoor
open Go.RowKit
def digK (c : UInt8) : Bool := decide (48 ≤ (c.toNat : Int) ∧ (c.toNat : Int) ≤ 57)
def secS (v : Int) (c : UInt8) : Int := min (v * 10 + ((c.toNat : Int) - 48)) 2147483648
def secF (l : List UInt8) : Int := l.foldl secS 0
def secs (l : List UInt8) : Int := if l.isEmpty = false ∧ l.all digK = true then secF l else -1
theorem secF_snoc (l : List UInt8) (c : UInt8) : secF (l ++ [c]) = secS (secF l) c := by unfold secF; rw [List.foldl_append]; rfl
theorem secS_in (v : Int) (c : UInt8) (h : digK c = true) (h0 : 0 ≤ v) : 0 ≤ secS v c ∧ secS v c ≤ 2147483648 := by
  unfold digK at h
  have := of_decide_eq_true h
  unfold secS
  omega
theorem fold_in : ∀ (l : List UInt8) (v : Int), l.all digK = true → 0 ≤ v → v ≤ 2147483648 → 0 ≤ l.foldl secS v ∧ l.foldl secS v ≤ 2147483648 := by
  intro l
  induction l with
  | nil => intro v _ h0 h1; exact ⟨h0, h1⟩
  | cons c l ih =>
    intro v h h0 h1
    rw [List.all_cons, Bool.and_eq_true] at h
    obtain ⟨a, b⟩ := secS_in v c h.1 h0
    rw [List.foldl_cons]
    exact ih _ h.2 a b
theorem secF_in (l : List UInt8) (h : l.all digK = true) : 0 ≤ secF l ∧ secF l ≤ 2147483648 := fold_in l 0 h (by omega) (by omega)
theorem secs_in (l : List UInt8) : -1 ≤ secs l ∧ secs l ≤ 2147483648 := by
  unfold secs
  split
  · rename_i h
    have := secF_in l h.2
    omega
  · omega
theorem secs_nil : secs [] = -1 := by unfold secs; simp
theorem secs_bad (l : List UInt8) (k : Nat) (h : k < l.length) (hc : digK l[k] = false) : secs l = -1 := by
  unfold secs
  rw [if_neg]
  intro ⟨_, h2⟩
  rw [List.all_eq_true] at h2
  have := h2 _ (List.getElem_mem h)
  rw [hc] at this
  exact absurd this (by decide)
theorem secs_ok (l : List UInt8) (h : l ≠ []) (hc : l.all digK = true) : secs l = secF l := by
  unfold secs
  rw [if_pos ⟨by cases l <;> simp_all, hc⟩]
end Go.Proofs.YtemmghmacbofaaaDoor
