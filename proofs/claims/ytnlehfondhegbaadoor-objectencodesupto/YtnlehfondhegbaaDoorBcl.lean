/- The contract of bytes.Clone. -/
import Derived.Test.YtnlehfondhegbaaDoorBa
import Derived.Lib.SliceRun
namespace Go.Proofs.YtnlehfondhegbaaDoor
open Go.RowKit
end Go.Proofs.YtnlehfondhegbaaDoor
