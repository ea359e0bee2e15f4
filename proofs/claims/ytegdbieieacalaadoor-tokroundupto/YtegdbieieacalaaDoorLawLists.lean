/- The contract of the laws' own check of one call, and the walk of the law TokLists. -/
import Derived.Test.YtegdbieieacalaaDoorList
namespace Go.Proofs.YtegdbieieacalaaDoor
open Go.RowKit
theorem listOf_alive : listOf [97, 44, 32, 34, 98, 44, 99, 34, 32, 44, 44, 100] = [[97], [34, 98, 44, 99, 34], [100]] := by decide +kernel
theorem listAlive (w : World) :
    Calls Tryd.prog 15 #[.string ⟨#[97, 44, 32, 34, 98, 44, 99, 34, 32, 44, 44, 100]⟩] w fun e w' => ∃ v, e = .returned v ∧ OwnS w v [[97], [34, 98, 44, 99, 34], [100]] w' := by
  have h := listTok ⟨#[97, 44, 32, 34, 98, 44, 99, 34, 32, 44, 44, 100]⟩ w (by decide)
  have e : (⟨#[97, 44, 32, 34, 98, 44, 99, 34, 32, 44, 44, 100]⟩ : ByteArray).data.toList = [97, 44, 32, 34, 98, 44, 99, 34, 32, 44, 44, 100] := rfl
  rw [e, listOf_alive] at h
  exact h
theorem below_alloc (w : World) (o : Obj) : Below w.heap.size w (w.alloc o) := (Below.refl _ _).alloc (Nat.le_refl _) _
set_option maxHeartbeats 1000000 in
theorem alive (w : World) :
    Calls Tryd.prog 13 #[] w fun e w' => e = .returned (.bool true) ∧ Below w.heap.size w w' := by
  go_enter Tryd.func13, Tryd.ntmps13
  go_wp2_with fail
  refine (listAlive _).mono ?_
  rintro e w1 ⟨v, rfl, hown⟩
  have Ho : Hid _ := hown
  clear hown
  go_wp2_with fail
  refine (sameTexts v _ [[97], [34, 98, 44, 99, 34], [100]] [[97], [34, 98, 44, 99, 34], [100]] _ (holds_mono (holds_own Ho.out) (below_alloc _ _)) (holds_lit3 w1 [97] [34, 98, 44, 99, 34] [100]) (by decide) (by decide)).mono ?_
  rintro e w2 ⟨rfl, n, rfl⟩
  go_wp2_with fail
  go_ret
  have hz := Ho.out.2.size
  exact ⟨rfl, below_drawn (Ho.out.2.alloc hz _) n⟩
namespace tokLists
set_option maxHeartbeats 1000000 in
theorem walk (s : ByteArray) (w : World) (hs : s.size ≤ 1048576) :
    Calls Tryd.prog 4 #[.string s] w fun e w' => e = .returned (.bool true) ∧ Below w.heap.size w w' := by
  have c1 : Hid (∀ w, _) := fun w => listTok s w (by omega)
  have c2 : Hid (∀ w, _) := fun w => listRef s w (by omega)
  have hl : (listOf s.data.toList).length ≤ 8388608 := by
    have h1 := filt_len ((pieces 44 s.data.toList).map trimT)
    have h2 := pieces_len 44 s.data.toList
    rw [List.length_map] at h1
    rw [len_list] at h2
    unfold listOf
    omega
  generalize listOf s.data.toList = LL at c1 c2 hl
  go_enter Tryd.func4, Tryd.ntmps4
  go_wp2_with fail
  refine (alive _).mono ?_
  rintro e w1 ⟨rfl, b1⟩
  go_wp2_with fail
  refine (c1.out _).mono ?_
  rintro e w2 ⟨va, rfl, ha⟩
  have Ha : Hid _ := ha
  clear ha
  go_wp2_with fail
  refine (c2.out _).mono ?_
  rintro e w3 ⟨vb, rfl, hb⟩
  have Hb : Hid _ := hb
  clear hb
  go_wp2_with fail
  refine (sameTexts va vb LL LL _ (holds_mono (holds_own Ha.out) Hb.out.2) (holds_own Hb.out) hl hl).mono ?_
  rintro e w4 ⟨rfl, n, rfl⟩
  go_wp2_with fail
  go_ret
  have z1 := b1.size
  have z2 := Ha.out.2.size
  have z3 := Hb.out.2.size
  refine ⟨rfl, ((b1.trans (Ha.out.2.mono z1)).trans (Hb.out.2.mono (by omega))).trans ((below_drewN _ n).mono (by omega))⟩
end tokLists
end Go.Proofs.YtegdbieieacalaaDoor
