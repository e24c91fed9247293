/- Same. -/
import Derived.Test.YteiiogaopgfpfaaNtA
import Derived.Deep.CutBlock
namespace Go.Proofs.Yteiiogaopgfpfaa.Nt
open Go.ChangeShapes Go.WideShapes Go.ChangeAt Go.RowKit Go.PlainAid Aid Cr
set_option linter.unusedVariables false
set_option linter.unusedSimpArgs false
deriving instance DecidableEq for Und
deriving instance DecidableEq for Rec
end Go.Proofs.Yteiiogaopgfpfaa.Nt
