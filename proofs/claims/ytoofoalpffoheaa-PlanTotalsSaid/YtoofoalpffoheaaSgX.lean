import Derived.Test.YtoofoalpffoheaaSgW
import Derived.Test.YtoofoalpffoheaaSgOrd


namespace Go.Proofs.Ytoofoalpffoheaa.Sg
open Go.ChangeShapes Go.WideShapes Go.ChangeAt Go.RowKit Go.PlainAid
set_option linter.unusedVariables false
set_option linter.unusedSimpArgs false

def zeroT (e : Value) : Value := .tuple #[.agg #[.int .i64 0, .int .i64 0, .string ⟨#[]⟩], e]

theorem slice_to (s : ByteArray) (x : Int) (h0 : 0 ≤ x) (h1 : 1 + x ≤ s.size) (w : World) : (Instr.slice 9 (.string s) (some (.int .i64 1)) (some (.int .i64 (1 + x))) none).run Try.prog w = .ok (.string (s.extract 1 (1 + x.toNat))) w := by
  have := run_slice_string (P := Try.prog) w 9 s .i64 .i64 1 (1 + x) Try.underlying9 (by omega) (by omega) (by omega)
  rw [this, show (1 + x).toNat = 1 + x.toNat from by omega, show (1 : Int).toNat = 1 from rfl]
end Go.Proofs.Ytoofoalpffoheaa.Sg
