/- Nothing of the shelf is laid at this program. -/
import Derived.Test.YtbglbegljkgknaaGreatProg
namespace Go.Proofs
end Go.Proofs
