/- Nothing of the shelf is laid at this program. -/
import Derived.Test.YtpooiehhepimkaaProg
namespace Go.Proofs
end Go.Proofs
