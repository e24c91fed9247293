/- Whole numbers of 128 bits: awake, and WideLaws' walk. -/
import Derived.Test.YtoofoalpffoheaaWdC
namespace Go.Proofs.Ytoofoalpffoheaa.Wd
open Go.ChangeShapes Go.WideShapes Go.ChangeAt Go.RowKit Go.PlainAid Aid
set_option linter.unusedVariables false
set_option linter.unusedSimpArgs false
theorem keepc {W W' : World} {g i : Nat} {v : Value} (hX : Below W.heap.size W W') (h : W.cell? ⟨g, i, none⟩ = some v) : W'.cell? ⟨g, i, none⟩ = some v := by
  have : g < W.heap.size := Law.cell_lt h
  rw [(bcell hX).1 g i this]; exact h
theorem keep2 {w0 W W' : World} {g1 : Nat} {a b : Value} (hX : Below W.heap.size W W') (hB : Hid (Below w0.heap.size w0 W)) (h0 : W.cell? ⟨g1, 0, none⟩ = some a) (h1 : W.cell? ⟨g1, 1, none⟩ = some b) :
    Hid (Below w0.heap.size w0 W') ∧ W'.cell? ⟨g1, 0, none⟩ = some a ∧ W'.cell? ⟨g1, 1, none⟩ = some b := ⟨Lib.hid (bl hB.out hX), keepc hX h0, keepc hX h1⟩
end Go.Proofs.Ytoofoalpffoheaa.Wd
