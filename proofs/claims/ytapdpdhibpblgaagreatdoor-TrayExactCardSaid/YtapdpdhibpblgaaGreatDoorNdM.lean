/- Same, of the program. -/
import Derived.Test.YtapdpdhibpblgaaGreatDoorNdH
namespace Go.Proofs.YtapdpdhibpblgaaGreatDoor.Nd
open Go.ChangeShapes Go.WideShapes Go.ChangeAt Go.RowKit Go.PlainAid Aid Cr Nt
set_option linter.unusedVariables false
set_option linter.unusedSimpArgs false
end Go.Proofs.YtapdpdhibpblgaaGreatDoor.Nd
