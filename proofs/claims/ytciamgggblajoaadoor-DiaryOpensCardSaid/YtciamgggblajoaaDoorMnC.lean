import Derived.Test.YtciamgggblajoaaDoorMnB
namespace Go.Proofs.YtciamgggblajoaaDoor.Mn
open Go.ChangeShapes Go.WideShapes Go.ChangeAt Go.RowKit Go.PlainAid Aid
set_option linter.unusedVariables false
set_option linter.unusedSimpArgs false

/-! The document's own answer. -/
def Pw.did (p : Pw) (act n : Int) : Pw := if act = 1 then p.use else if act = 2 then p.lay (if n < 0 then -1 else n) else if act = 3 then p.off else if act = 4 then p.come else p
def Pw.said (p : Pw) (act : Int) : Int := if act = 1 then p.ans else 0

end Go.Proofs.YtciamgggblajoaaDoor.Mn
