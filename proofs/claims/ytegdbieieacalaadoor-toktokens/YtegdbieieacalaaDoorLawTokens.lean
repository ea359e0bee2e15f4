/- The walk of the law TokTokens. -/
import Derived.Test.YtegdbieieacalaaDoorTkT
import Derived.Test.YtegdbieieacalaaDoorTrimR
import Derived.Test.YtegdbieieacalaaDoorFold
namespace Go.Proofs.YtegdbieieacalaaDoor.tokTokens
open Go.RowKit
theorem tokAB (w : World) :
    Calls Tryd.prog 7 #[.string ⟨#[97, 33]⟩] w fun e w' => e = .returned (.bool true) ∧ w' = w :=
  tokenTok ⟨#[97, 33]⟩ w (by decide)
set_option maxHeartbeats 1000000 in
theorem walk (s : ByteArray) (w : World) (hs : s.size ≤ 140737488351232) :
    Calls Tryd.prog 3 #[.string s] w fun e w' => e = .returned (.bool true) ∧ Below w.heap.size w w' := by
  have c7 : Hid (∀ w, _) := fun w => tokenTok s w hs
  have c8 : Hid (∀ w, _) := fun w => tokenRef s w hs
  have c9 : Hid (∀ w, _) := fun w => trimTok s w hs
  have c10 : Hid (∀ w, _) := fun w => trimRef s w hs
  have c11 : Hid (∀ w, _) := fun w => foldTok s w hs
  have c12 : Hid (∀ w, _) := fun w => lowerRef s w hs
  generalize isTok s.data.toList = t at c7 c8
  generalize (trimT s.data.toList).toArray = tr at c9 c10
  generalize (lows s.data.toList).toArray = lo at c11 c12
  go_enter Tryd.func3, Tryd.ntmps3
  go_wp2_with fail
  refine (tokAB _).mono ?_
  rintro e w1 ⟨rfl, rfl⟩
  go_wp2_with fail
  refine (c7.out _).mono ?_
  rintro e w2 ⟨rfl, rfl⟩
  go_wp2_with fail
  refine (c8.out _).mono ?_
  rintro e w3 ⟨rfl, rfl⟩
  go_wp2_with fail
  refine (c9.out _).mono ?_
  rintro e w4 ⟨rfl, b4⟩
  go_wp2_with fail
  refine (c10.out _).mono ?_
  rintro e w5 ⟨rfl, rfl⟩
  go_wp2_with fail
  refine (c11.out _).mono ?_
  rintro e w6 ⟨rfl, b6⟩
  go_wp2_with fail
  refine (c12.out _).mono ?_
  rintro e w7 ⟨rfl, b7⟩
  go_wp2_with fail
  go_ret
  have e4 := b4.size
  have e6 := b6.size
  exact ⟨rfl, (b4.trans (b6.mono (by omega))).trans (b7.mono (by omega))⟩
end Go.Proofs.YtegdbieieacalaaDoor.tokTokens
