/- What Decode answers, as a value. -/
import Derived.Test.YtnbidckmekmcfaaRcE
namespace Go.Proofs.Ytnbidckmekmcfaa
open Go.RowKit
/-- what Decode answers, as a value -/
def decV (d : RecD) : Value := .tuple #[recV d.seq d.op d.no d.id, .int .i64 d.n, .int .i64 d.e]
end Go.Proofs.Ytnbidckmekmcfaa
