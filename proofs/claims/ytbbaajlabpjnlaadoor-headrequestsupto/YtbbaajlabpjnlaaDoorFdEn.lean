/- What a row lists of the library's variables, and what the start of the world gives, is what the road of Parse reads. -/
import Derived.Test.YtbbaajlabpjnlaaDoorFdE
import Derived.Lib.LaidU8T
import GoSem.PinnedTables
import Derived.MakeChecks
namespace Go.Proofs.YtbbaajlabpjnlaaDoor
open Go.RowKit
def ren : Go.Shelf.Ren where
  f := fun x => x
  t := fun x => if x = 5 then 5 else if x = 119 then 96 else if x = 138 then 98 else 99
  g := fun x => if x = 3 then 1 else 2
theorem ren_types : U8Types Tryd.prog ren := ⟨Tryd.underlying5, Tryd.underlying96, Tryd.underlying98, Tryd.underlying99⟩
theorem ren_extra : U8Extra Tryd.prog ren := ⟨by kernel_rfl, by kernel_rfl, by kernel_rfl, by kernel_rfl, by kernel_rfl, by kernel_rfl, by kernel_rfl⟩
set_option maxRecDepth 100000 in
theorem first_eq : Go.Pinned.utf8First = Lib.firstData := by kernel_rfl
set_option maxRecDepth 100000 in
theorem env_of {W : World} {l : List (String × DataW Unit)} (h : laidMet Tryd.prog l W) (hsh : W.ShapedOpen Tryd.prog) (h1 : ("unicode/utf8.first", Go.Pinned.utf8First) ∈ l) (h2 : ("unicode/utf8.acceptRanges", Lib.acceptData) ∈ l) : Env W := by
  rw [first_eq] at h1
  exact ⟨maxV_of hsh, utf8Tabs_of_readsT (ρ := ren) ren_types ren_extra (Lib.laidMet.reads h h1) (Lib.laidMet.reads h h2)⟩
end Go.Proofs.YtbbaajlabpjnlaaDoor
