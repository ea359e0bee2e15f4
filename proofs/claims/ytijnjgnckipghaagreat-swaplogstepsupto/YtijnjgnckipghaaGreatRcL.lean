/- The contract of the document's Decode. -/
import Derived.Test.YtijnjgnckipghaaGreatBw9
import Derived.Test.YtijnjgnckipghaaGreatRcJ
import Derived.Test.YtijnjgnckipghaaGreatRcK
import Derived.Deep.QuietTactic
import Derived.BigQuiet
import Derived.Deep.RegionHeldLaw
namespace Go.Proofs.YtijnjgnckipghaaGreat
open Go.RowKit
theorem decRC (v : Value) (bs : List UInt8) (w : World) (hv : HoldsB w v bs) (hl : bs.length ≤ 1000000000000000) :
    Calls Tryz.prog 66 #[v] w fun e w' => e = .returned (decV (decOf bs)) ∧ Below w.heap.size w w' := by
  by_cases h0 : bs.length = 0
  · exact decR0 v bs w hv hl h0
  · by_cases h1 : (bs[0]?.getD 0).toNat = 193
    · by_cases h3 : bs.length < 3
      · exact decR2_193 v bs w hv hl (by omega) h1 h3
      · exact decR3_193 v bs w hv hl h1 (by omega)
    · by_cases h2 : (bs[0]?.getD 0).toNat = 194
      · by_cases h3 : bs.length < 3
        · exact decR2_194 v bs w hv hl (by omega) h2 h3
        · exact decR3_194 v bs w hv hl h2 (by omega)
      · exact decR1 v bs w hv hl (by omega) (fun h => h.elim h1 h2)
end Go.Proofs.YtijnjgnckipghaaGreat
