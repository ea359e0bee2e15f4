/- The contracts of CopyFields and SameFields. -/
import Derived.Test.YtmibgcbolnpffabDoorFdO
import Derived.Lib.Bytealg
namespace Go.Proofs.YtmibgcbolnpffabDoor
open Go.RowKit
end Go.Proofs.YtmibgcbolnpffabDoor
