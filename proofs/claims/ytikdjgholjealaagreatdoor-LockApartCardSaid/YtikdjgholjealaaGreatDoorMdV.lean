/- The walk of ModeJoins. -/
import Derived.Test.YtikdjgholjealaaGreatDoorMdW
namespace Go.Proofs.YtikdjgholjealaaGreatDoor.Md
open Go.ChangeShapes Go.WideShapes Go.ChangeAt Go.RowKit Go.PlainAid Aid
set_option linter.unusedVariables false
set_option linter.unusedSimpArgs false
end Go.Proofs.YtikdjgholjealaaGreatDoor.Md
