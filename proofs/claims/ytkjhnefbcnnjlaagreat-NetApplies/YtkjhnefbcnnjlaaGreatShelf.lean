/- Nothing of the shelf is laid at this program. -/
import Derived.Test.YtkjhnefbcnnjlaaGreatProg
namespace Go.Proofs
end Go.Proofs
