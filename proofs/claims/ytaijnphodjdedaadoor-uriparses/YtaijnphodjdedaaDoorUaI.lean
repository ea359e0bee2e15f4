/- The contract of strings.Cut at a colon. -/
import Derived.Test.YtaijnphodjdedaaDoorUaH
import Derived.Test.YtaijnphodjdedaaDoorFoldT
import Derived.Test.YtaijnphodjdedaaDoorUaT
import Derived.Test.YtaijnphodjdedaaDoorShelf
namespace Go.Proofs.YtaijnphodjdedaaDoor
open Go.RowKit
theorem cutColon (s : ByteArray) (hs : s.size ≤ 4096) (w : World) (M : MaxV w) :
    Calls Tryd.prog 15 #[.string s, .string ⟨#[58]⟩] w fun e w' => e = .returned (.tuple #[.string (hostT s), .string (digsT s), .bool (! s.data.toList.all noCol)]) ∧ Below w.heap.size w w' := by
  obtain ⟨m, hm⟩ := M
  refine (Any.strings_Cut Tryd.lays145 s ⟨#[58]⟩ m w (by omega) hm).mono ?_
  rintro e w' ⟨rfl, n, rfl⟩
  refine ⟨?_, below_draw w n⟩
  rw [show (⟨#[58]⟩ : ByteArray).data.toList = [58] from rfl, cut_one noCol 58 noCol_iff]
  rfl
end Go.Proofs.YtaijnphodjdedaaDoor
