/- The contract of SameTexts: it answers whether the texts are the same. -/
import Derived.Test.YtemmghmacbofaaaDoorOwnS
import Derived.Lib.Bytealg
namespace Go.Proofs.YtemmghmacbofaaaDoor
open Go.RowKit
end Go.Proofs.YtemmghmacbofaaaDoor
