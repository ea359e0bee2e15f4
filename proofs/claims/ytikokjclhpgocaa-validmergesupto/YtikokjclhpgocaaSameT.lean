/- The contract of SameTexts: it answers whether the texts are the same. -/
import Derived.Test.YtikokjclhpgocaaOwnS
import Derived.Lib.Bytealg
namespace Go.Proofs.Ytikokjclhpgocaa
open Go.RowKit
end Go.Proofs.Ytikokjclhpgocaa
