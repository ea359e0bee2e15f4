/- Plain: the words of values, and their bulk. -/
import Derived.Test.YtmibgcbolnpffabDoorOpnF
import Derived.Test.YtmibgcbolnpffabDoorList
namespace Go.Proofs.YtmibgcbolnpffabDoor
open Go.RowKit
theorem bulk_vals (fs : FL) (n : List UInt8) : bulkT (valsOf fs n) ≤ bulkF fs := by
  induction fs with
  | nil => simp [valsOf, bulkT]
  | cons f r ih =>
    unfold valsOf at ih ⊢
    simp only [bulkF, List.filter_cons]
    split
    · simp only [List.map_cons, bulkT]; omega
    · omega
theorem bulkT_take (vs : List (List UInt8)) : ∀ k, bulkT (vs.take k) ≤ bulkT vs := by
  induction vs with
  | nil => intro k; simp
  | cons v r ih =>
    intro k
    cases k with
    | zero => simp [bulkT]
    | succ k => have := ih k; simp only [List.take_succ_cons, bulkT]; omega
def toksOf (vs : List (List UInt8)) : List (List UInt8) := (vs.flatMap listOf).map lows
theorem toks_next (vs : List (List UInt8)) (k : Nat) (h : k < vs.length) : toksOf (vs.take (k + 1)) = toksOf (vs.take k) ++ (listOf vs[k]).map lows := by
  unfold toksOf
  rw [List.take_succ_eq_append_getElem h, List.flatMap_append, List.map_append]
  simp
theorem listOf_len (l : List UInt8) : (listOf l).length ≤ l.length + 1 := by
  have h1 := filt_len ((pieces 44 l).map trimT)
  have h2 := pieces_len 44 l
  rw [List.length_map] at h1
  unfold listOf
  omega
theorem toks_len (vs : List (List UInt8)) : (toksOf vs).length ≤ bulkT vs := by
  induction vs with
  | nil => simp [toksOf, bulkT]
  | cons v r ih =>
    unfold toksOf at ih ⊢
    rw [List.length_map] at ih ⊢
    rw [List.flatMap_cons, List.length_append]
    have := listOf_len v
    simp only [bulkT]
    omega
theorem listOf_mem (l p : List UInt8) (h : p ∈ listOf l) : p.length ≤ l.length := by
  unfold listOf filt at h
  obtain ⟨h, _⟩ := List.mem_filter.1 h
  obtain ⟨q, hq, rfl⟩ := List.mem_map.1 h
  have h1 := pieces_mem 44 _ _ hq
  have h2 := trimT_len q
  omega
end Go.Proofs.YtmibgcbolnpffabDoor
