/- Whether a link is right: the program, the document. -/
import Derived.Test.YtmkbijnndbgjgaaLkBase
set_option linter.unusedVariables false
namespace Go.Proofs.Ytmkbijnndbgjgaa.Lk
open Go.RowKit
open Go.Proofs.Ytmkbijnndbgjgaa.Addr (RowAt below2 below_drew below_new bset RowAt.lt RowAt.cell RowAt.frozen RowAt.below RowAt.drew RowAt.new RowAt.alloc cells2 Bl bl_ne wp_region_bl bl_call bl_same)
end Go.Proofs.Ytmkbijnndbgjgaa.Lk
