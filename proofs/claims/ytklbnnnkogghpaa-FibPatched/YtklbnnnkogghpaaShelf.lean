/- Nothing of the shelf is laid at this program. -/
import Derived.Test.YtklbnnnkogghpaaProg
namespace Go.Proofs
end Go.Proofs
