/- Contract: over. -/
import Derived.Test.YtelepfablohdmaaDoorVG
set_option linter.unusedSimpArgs false
set_option linter.unusedVariables false
namespace Go.Proofs.YtelepfablohdmaaDoor
open Go.Ev
end Go.Proofs.YtelepfablohdmaaDoor
