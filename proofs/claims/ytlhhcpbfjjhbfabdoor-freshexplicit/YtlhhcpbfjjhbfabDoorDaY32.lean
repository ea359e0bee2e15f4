/- The contract of the document's Parse at texts of 32 bytes. -/
import Derived.Test.YtlhhcpbfjjhbfabDoorDaX
import Derived.Test.YtlhhcpbfjjhbfabDoorLawDays
import Derived.Deep.QuietTactic
import Derived.BigQuiet
namespace Go.Proofs.YtlhhcpbfjjhbfabDoor
open Go.RowKit
end Go.Proofs.YtlhhcpbfjjhbfabDoor
