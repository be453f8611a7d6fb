/- The library's contracts that are used here, laid at this program by their names: no more is said than they say. -/
import Derived.Shelf.Lay
import Derived.Shelf.LaySoft

import Derived.Test.YtpooiehhepimkaaProg
namespace Go.Proofs
open Go.Shelf
shelf_tried
end Go.Proofs
