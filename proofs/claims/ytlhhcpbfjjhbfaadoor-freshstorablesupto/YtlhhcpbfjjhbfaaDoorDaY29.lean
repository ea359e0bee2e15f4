/- The contract of the document's Parse at texts of 29 bytes. -/
import Derived.Test.YtlhhcpbfjjhbfaaDoorDaX
import Derived.Test.YtlhhcpbfjjhbfaaDoorLawDays
import Derived.Deep.QuietTactic
import Derived.BigQuiet
namespace Go.Proofs.YtlhhcpbfjjhbfaaDoor
open Go.RowKit
end Go.Proofs.YtlhhcpbfjjhbfaaDoor
