/- The contract of the laws' own check of one call. -/
import Derived.Test.YtegdbieieacalabDoorList
namespace Go.Proofs.YtegdbieieacalabDoor
open Go.RowKit
theorem listOf_alive : listOf [97, 44, 32, 34, 98, 44, 99, 34, 32, 44, 44, 100] = [[97], [34, 98, 44, 99, 34], [100]] := by decide +kernel
theorem listAlive (w : World) :
    Calls Tryd.prog 9 #[.string ⟨#[97, 44, 32, 34, 98, 44, 99, 34, 32, 44, 44, 100]⟩] w fun e w' => ∃ v, e = .returned v ∧ OwnS w v [[97], [34, 98, 44, 99, 34], [100]] w' := by
  have h := listTok ⟨#[97, 44, 32, 34, 98, 44, 99, 34, 32, 44, 44, 100]⟩ w (by decide)
  have e : (⟨#[97, 44, 32, 34, 98, 44, 99, 34, 32, 44, 44, 100]⟩ : ByteArray).data.toList = [97, 44, 32, 34, 98, 44, 99, 34, 32, 44, 44, 100] := rfl
  rw [e, listOf_alive] at h
  exact h
theorem below_alloc (w : World) (o : Obj) : Below w.heap.size w (w.alloc o) := (Below.refl _ _).alloc (Nat.le_refl _) _
set_option maxHeartbeats 1000000 in
theorem alive (w : World) :
    Calls Tryd.prog 6 #[] w fun e w' => e = .returned (.bool true) ∧ Below w.heap.size w w' := by
  go_enter Tryd.func6, Tryd.ntmps6
  go_wp2_with fail
  refine (listAlive _).mono ?_
  rintro e w1 ⟨v, rfl, hown⟩
  have Ho : Hid _ := hown
  clear hown
  go_wp2_with fail
  refine (sameTexts v _ [[97], [34, 98, 44, 99, 34], [100]] [[97], [34, 98, 44, 99, 34], [100]] _ (holds_mono (holds_own Ho.out) (below_alloc _ _)) (holds_lit3 w1 [97] [34, 98, 44, 99, 34] [100]) (by decide) (by decide)).mono ?_
  rintro e w2 ⟨rfl, n, rfl⟩
  go_wp2_with fail
  go_ret
  have hz := Ho.out.2.size
  exact ⟨rfl, below_drawn (Ho.out.2.alloc hz _) n⟩
theorem listOf_small (s : ByteArray) (hs : s.size ≤ 4194304) : (listOf s.data.toList).length ≤ 8388608 := by
  have h1 := filt_len ((pieces 44 s.data.toList).map trimT)
  have h2 := pieces_len 44 s.data.toList
  rw [List.length_map] at h1
  rw [len_list] at h2
  unfold listOf
  omega
end Go.Proofs.YtegdbieieacalabDoor
