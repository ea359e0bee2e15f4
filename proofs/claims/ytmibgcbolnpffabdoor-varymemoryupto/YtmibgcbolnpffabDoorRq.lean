/- Copies of requests and responses; two that are alike are told as such. -/
import Derived.Test.YtmibgcbolnpffabDoorQd
namespace Go.Proofs.YtmibgcbolnpffabDoor
open Go.RowKit
end Go.Proofs.YtmibgcbolnpffabDoor
