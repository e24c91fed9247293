import Derived.Test.YtciamgggblajoaaDoorRlD
namespace Go.Proofs.YtciamgggblajoaaDoor.Rl
open Go.ChangeShapes Go.WideShapes Go.ChangeAt Go.RowKit Go.PlainAid Aid Mn
set_option linter.unusedVariables false
set_option linter.unusedSimpArgs false

def idle : Pw := ⟨true, -1, 1⟩
theorem idle_use : idle.use = idle := rfl
end Go.Proofs.YtciamgggblajoaaDoor.Rl
