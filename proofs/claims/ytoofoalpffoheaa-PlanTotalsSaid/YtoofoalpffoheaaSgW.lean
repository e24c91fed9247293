import Derived.Test.YtoofoalpffoheaaSgV


namespace Go.Proofs.Ytoofoalpffoheaa.Sg
open Go.ChangeShapes Go.WideShapes Go.ChangeAt Go.RowKit Go.PlainAid
set_option linter.unusedVariables false
set_option linter.unusedSimpArgs false

theorem cdv_txt (n : Int) (s : ByteArray) (k : Nat) (h : k < 7) : cdv 2 n s (k + 1) = bt s k := by
  unfold cdv; rw [if_neg (by omega), if_neg (by decide), if_neg (by omega)]; rfl
theorem cdv_len (n : Int) (s : ByteArray) : cdv 2 n s 8 = s.size := rfl

end Go.Proofs.Ytoofoalpffoheaa.Sg
