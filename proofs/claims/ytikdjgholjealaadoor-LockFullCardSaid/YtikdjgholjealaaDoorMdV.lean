/- The walk of ModeJoins. -/
import Derived.Test.YtikdjgholjealaaDoorMdW
namespace Go.Proofs.YtikdjgholjealaaDoor.Md
open Go.ChangeShapes Go.WideShapes Go.ChangeAt Go.RowKit Go.PlainAid Aid
set_option linter.unusedVariables false
set_option linter.unusedSimpArgs false
end Go.Proofs.YtikdjgholjealaaDoor.Md
