/- The document's end and split. -/
import Derived.Test.YtobkmepamgdccaaGreatDoorHdK
import Derived.Deep.QuietTactic
import Derived.BigQuiet
namespace Go.Proofs.YtobkmepamgdccaaGreatDoor
open Go.RowKit
theorem end_next (bs : List UInt8) (i : Nat) (h : i < bs.length) (ho : E4.isPrefixOf (bs.drop i) = false) : endOf bs (i + 1) = endOf bs i := by
  have hd : bs.drop i = bs[i] :: bs.drop (i + 1) := List.drop_eq_getElem_cons h
  have hi : Lib.index (bs.drop i) E4 = if Lib.index (bs.drop (i + 1)) E4 == -1 then -1 else Lib.index (bs.drop (i + 1)) E4 + 1 := by
    rw [hd] at ho ⊢
    rw [Lib.index, if_neg (by rw [ho]; simp)]
  rcases index_cases (bs.drop (i + 1)) E4 with h1 | ⟨j, h1⟩
  · rw [h1] at hi
    rw [end_none _ _ h1, end_none _ _ (by rw [hi]; rfl)]
  · rw [h1, if_neg (by simp)] at hi
    rw [end_some _ _ _ h1, end_some bs i (j + 1) (by rw [hi]; rfl), show i + 1 + j + 4 = i + (j + 1) + 4 by omega]
theorem end_here (bs : List UInt8) (i : Nat) (ho : E4.isPrefixOf (bs.drop i) = true) : endOf bs i = if 8192 < i + 4 then (0, 51) else (i + 4, 0) := by
  have := end_some bs i 0 (Lib.index_first (i := 0) (Nat.zero_le _) (by unfold Lib.occAt; rw [List.drop_zero]; exact ho) (fun j hj => absurd hj (Nat.not_lt_zero _)))
  rwa [Nat.add_zero] at this
theorem end_short' (bs : List UInt8) (i : Nat) (h : bs.length ≤ i + 3) : endOf bs i = if 8192 ≤ bs.length then (0, 51) else (0, 0) := by
  apply end_none
  rcases index_cases (bs.drop i) E4 with h1 | ⟨j, h1⟩
  · exact h1
  · have := occ_len _ _ _ (by decide) (index_is _ _ _ h1).2.1
    rw [List.length_drop, show E4.length = 4 from rfl] at this
    omega
theorem four_pre (bs : List UInt8) (i : Nat) (h0 : i < bs.length) (h1 : i + 1 < bs.length) (h2 : i + 2 < bs.length) (h3 : i + 3 < bs.length) : E4.isPrefixOf (bs.drop i) = (((bs[i].toNat : Int) == 13) && (((bs[i + 1].toNat : Int) == 10) && (((bs[i + 2].toNat : Int) == 13) && ((bs[i + 3].toNat : Int) == 10)))) := by
  rw [List.drop_eq_getElem_cons h0, List.drop_eq_getElem_cons h1, List.drop_eq_getElem_cons h2, List.drop_eq_getElem_cons h3]
  have e : ∀ (c d : UInt8), (c == d) = ((d.toNat : Int) == (c.toNat : Int)) := by
    intro c d
    rw [Bool.eq_iff_iff, beq_iff_eq, beq_iff_eq]
    constructor
    · rintro rfl; rfl
    · intro h; exact UInt8.toNat_inj.1 (by omega)
  unfold E4
  simp only [List.isPrefixOf, Bool.and_true]
  rw [e, e, e, e]
  rfl
theorem two_pre (H : List UInt8) (k : Nat) (h0 : k < H.length) (h1 : k + 1 < H.length) : Lib.occAt H E2 k = (((H[k].toNat : Int) == 13) && ((H[k + 1].toNat : Int) == 10)) := by
  unfold Lib.occAt
  rw [List.drop_eq_getElem_cons h0, List.drop_eq_getElem_cons h1]
  have e : ∀ (c d : UInt8), (c == d) = ((d.toNat : Int) == (c.toNat : Int)) := by
    intro c d
    rw [Bool.eq_iff_iff, beq_iff_eq, beq_iff_eq]
    constructor
    · rintro rfl; rfl
    · intro h; exact UInt8.toNat_inj.1 (by omega)
  unfold E2
  simp only [List.isPrefixOf, Bool.and_true]
  rw [e, e]
  rfl
theorem pair_two (bs : List UInt8) (k : Nat) (h0 : k < bs.length) (h1 : k + 1 < bs.length) : pairB (bs.drop k) = (((bs[k].toNat : Int) == 13) && ((bs[k + 1].toNat : Int) == 10)) := two_pre bs k h0 h1
theorem pair_end (bs : List UInt8) (k : Nat) (h : bs.length ≤ k + 1) : pairB (bs.drop k) = false := by
  cases e : pairB (bs.drop k) with
  | false => rfl
  | true =>
    obtain ⟨t, ht⟩ := (pair_iff _).1 e
    have := congrArg List.length ht
    rw [List.length_drop] at this
    simp at this
    omega
end Go.Proofs.YtobkmepamgdccaaGreatDoor
