/- The contract of SameTexts: it answers whether the texts are the same. -/
import Derived.Test.YtnjfahidcbglpaaDoorOwnS
import Derived.Lib.Bytealg
namespace Go.Proofs.YtnjfahidcbglpaaDoor
open Go.RowKit
end Go.Proofs.YtnjfahidcbglpaaDoor
