/- What a row lists of the library's variables, and what the start of the world gives, is what the road of Parse reads. -/
import Derived.Test.YtbbaajlabpjnlaaGreatDoorFdE
import Derived.Lib.LaidU8T
import GoSem.PinnedTables
import Derived.MakeChecks
namespace Go.Proofs.YtbbaajlabpjnlaaGreatDoor
open Go.RowKit
def ren : Go.Shelf.Ren where
  f := fun x => x
  t := fun x => if x = 5 then 5 else if x = 119 then 147 else if x = 138 then 149 else 150
  g := fun x => if x = 3 then 4 else 5
theorem ren_types : U8Types Tryz.prog ren := ⟨Tryz.underlying5, Tryz.underlying147, Tryz.underlying149, Tryz.underlying150⟩
theorem ren_extra : U8Extra Tryz.prog ren := ⟨by kernel_rfl, by kernel_rfl, by kernel_rfl, by kernel_rfl, by kernel_rfl, by kernel_rfl, by kernel_rfl⟩
set_option maxRecDepth 100000 in
theorem first_eq : Go.Pinned.utf8First = Lib.firstData := by kernel_rfl
set_option maxRecDepth 100000 in
theorem env_of {W : World} {l : List (String × DataW Unit)} (h : laidMet Tryz.prog l W) (hsh : W.ShapedOpen Tryz.prog) (h1 : ("unicode/utf8.first", Go.Pinned.utf8First) ∈ l) (h2 : ("unicode/utf8.acceptRanges", Lib.acceptData) ∈ l) : Env W := by
  rw [first_eq] at h1
  exact ⟨maxV_of hsh, utf8Tabs_of_readsT (ρ := ren) ren_types ren_extra (Lib.laidMet.reads h h1) (Lib.laidMet.reads h h2)⟩
end Go.Proofs.YtbbaajlabpjnlaaGreatDoor
