/- slices.Insert, of sheets and of debts. -/
import Derived.Test.YthoaangmekkcmaaNdV
import Derived.Test.YthoaangmekkcmaaShelf
import Derived.Laws.Externs
import Derived.Shelf.RegionOpenPlain

namespace Go.Proofs.Ythoaangmekkcmaa.Tr
open Go.ChangeShapes Go.WideShapes Go.ChangeAt Go.RowKit Go.PlainAid Aid
set_option linter.unusedVariables false
set_option linter.unusedSimpArgs false

/-! slices.Insert: sheet. -/
section
variable (g n cap i vb : Nat) (xs ys : List Value) (tv : TypeId) (w : World)
end

/-! slices.Insert: debt. -/
section
variable (g n cap i vb : Nat) (xs ys : List Value) (tv : TypeId) (w : World)
end
end Go.Proofs.Ythoaangmekkcmaa.Tr
