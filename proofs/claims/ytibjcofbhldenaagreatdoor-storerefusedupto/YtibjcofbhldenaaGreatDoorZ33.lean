/- The contract of Left. -/
import Derived.Deep.RegionHeldLaw
import Derived.Test.YtibjcofbhldenaaGreatDoorZ29
namespace Go.Proofs.YtibjcofbhldenaaGreatDoor
open Go.RowKit Go.Maps
theorem tbl_below {W W' : World} {m : Nat} {fb : Nat → Nat} {l : NL} (h : Tbl W m fb l) (hb : Below W.heap.size W W') : Tbl W' m fb l := by
  have hlt := World.ownsMap.lt h
  obtain ⟨es, clock, hh, F, hn, hD⟩ := h
  exact ⟨es, clock, by rw [hb.block m hlt]; exact hh, F, hn, hD⟩
end Go.Proofs.YtibjcofbhldenaaGreatDoor
