/- What the document's Same returns of two rows of the same texts. -/
import Derived.Test.YtoigogjklhahkaaWalkRef4
set_option linter.unusedVariables false
namespace Go.Proofs.Ytoigogjklhahkaa.Frame
open Go.RowKit

end Go.Proofs.Ytoigogjklhahkaa.Frame
