/- Same. -/
import Derived.Test.YthoaangmekkcmaaNtA
import Derived.Deep.CutBlock
namespace Go.Proofs.Ythoaangmekkcmaa.Nt
open Go.ChangeShapes Go.WideShapes Go.ChangeAt Go.RowKit Go.PlainAid Aid Cr
set_option linter.unusedVariables false
set_option linter.unusedSimpArgs false
deriving instance DecidableEq for Und
deriving instance DecidableEq for Rec
end Go.Proofs.Ythoaangmekkcmaa.Nt
