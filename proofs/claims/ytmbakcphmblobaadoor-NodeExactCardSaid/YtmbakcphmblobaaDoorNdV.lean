/- The writer of a whole node; Bytes. -/
import Derived.Test.YtmbakcphmblobaaDoorNdW
import Derived.Test.YtmbakcphmblobaaDoorNdB
namespace Go.Proofs.YtmbakcphmblobaaDoor.Nd
open Go.ChangeShapes Go.WideShapes Go.ChangeAt Go.RowKit Go.PlainAid Aid Cr Nt
set_option linter.unusedVariables false
set_option linter.unusedSimpArgs false
theorem flat_take {α : Type} (b : α → By) (l : List α) (k : Nat) (x : α) (hx : l[k]? = some x) : (l.take (k + 1)).flatMap b = (l.take k).flatMap b ++ b x := by
  rw [List.take_add_one, hx, List.flatMap_append]; simp
theorem flat_len_take {n : Nod} (g : Goods n) (k : Nat) : ((n.list.take k).flatMap bEnt).length ≤ 11100 := by
  rw [flat_size _ (fun e he => g.ky e (List.mem_of_mem_take he))]
  have h := sizeL_le n.list k
  have h2 := sizeL_bound n.list 100 g.vl
  have := g.ll
  have h3 : (11 + 100) * n.list.length ≤ 111 * 100 := Nat.mul_le_mul (by decide) this
  omega
end Go.Proofs.YtmbakcphmblobaaDoor.Nd
