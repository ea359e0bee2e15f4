/- ControlSeconds: the walk of the law. -/
import Derived.Test.YtemmghmacbofaaaKnS
namespace Go.Proofs.Ytemmghmacbofaaa
open Go.RowKit
theorem secs_007 : secs (⟨#[48, 48, 55]⟩ : ByteArray).data.toList = 7 := by decide +kernel
set_option maxHeartbeats 1000000 in
theorem secondsW (s : ByteArray) (w : World) (hs : s.size ≤ 140737488351232) :
    Calls Try.prog 3 #[.string s] w fun e w' => e = .returned (.bool true) ∧ Below w.heap.size w w' := by
  have c0 := hide' (fun W => secondsTok ⟨#[48, 48, 55]⟩ W (by decide))
  rw [secs_007] at c0
  have c1 := hide' (fun W => secondsTok s W hs)
  have c2 := hide' (fun W => secondsRef s W hs)
  generalize secs s.data.toList = n at c1 c2
  go_enter Try.func3, Try.ntmps3
  go_wp2_with fail
  refine (c0.out _).mono ?_
  rintro e w9 ⟨rfl, ew⟩
  rw [ew]
  clear ew w9
  go_wp2_with fail
  refine (c1.out _).mono ?_
  rintro e w9 ⟨rfl, ew⟩
  rw [ew]
  clear ew w9
  go_wp2_with fail
  refine (c2.out _).mono ?_
  rintro e w9 ⟨rfl, ew⟩
  rw [ew]
  clear ew w9
  go_wp2_with fail
  go_ret
  exact ⟨rfl, Below.refl _ _⟩
end Go.Proofs.Ytemmghmacbofaaa
