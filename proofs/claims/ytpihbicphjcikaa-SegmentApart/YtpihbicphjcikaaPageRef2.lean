/- What the document's Tag and Get return, for every text. -/
import Derived.Test.YtpihbicphjcikaaPageRefPut
set_option linter.unusedVariables false
namespace Go.Proofs.Ytpihbicphjcikaa.Page
open Go.RowKit

end Go.Proofs.Ytpihbicphjcikaa.Page
