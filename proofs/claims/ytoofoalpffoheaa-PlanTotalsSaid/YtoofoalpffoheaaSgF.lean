import Derived.Test.YtoofoalpffoheaaSgE
import Derived.Test.YtoofoalpffoheaaSgN
import Derived.StillTailTactics


namespace Go.Proofs.Ytoofoalpffoheaa.Sg
open Go.ChangeShapes Go.WideShapes Go.ChangeAt Go.RowKit Go.PlainAid
set_option linter.unusedVariables false

theorem compareInt_self (a : Int) : Lib.compareInt a a = 0 := by unfold Lib.compareInt; simp
/-- What Compare answers. -/
def cmpA (k1 n1 : Int) (s1 : ByteArray) (k2 n2 : Int) (s2 : ByteArray) : Int :=
  if goodB k1 n1 s1 = true ∧ goodB k2 n2 s2 = true then cmpV k1 n1 s1 k2 n2 s2 else 0
end Go.Proofs.Ytoofoalpffoheaa.Sg
