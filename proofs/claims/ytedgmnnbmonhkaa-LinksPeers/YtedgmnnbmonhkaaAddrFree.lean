/- What addr.free and addr.first return. -/
import Derived.Test.YtedgmnnbmonhkaaAddrCmp
import Derived.Deep.Cut
import Derived.Deep.RegionHeld3
set_option linter.unusedVariables false
namespace Go.Proofs.Ytedgmnnbmonhkaa.Addr
open Go.RowKit

end Go.Proofs.Ytedgmnnbmonhkaa.Addr
