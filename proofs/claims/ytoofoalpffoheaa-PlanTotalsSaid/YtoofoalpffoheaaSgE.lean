import Derived.Test.YtoofoalpffoheaaSgD

namespace Go.Proofs.Ytoofoalpffoheaa.Sg
open Go.ChangeShapes Go.WideShapes Go.ChangeAt Go.RowKit Go.PlainAid
set_option linter.unusedVariables false

theorem rd_size {s : ByteArray} (h : ¬ s.size = 9) : rd s = none := by unfold rd; rw [if_neg h]
end Go.Proofs.Ytoofoalpffoheaa.Sg
