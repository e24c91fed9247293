/- Small theorems of no program: parts of memory in another order. -/
import Derived.Test.YtoofoalpffoheaaSep
namespace Go.Proofs.Ytoofoalpffoheaa.Aid
open Go.ChangeShapes Go.WideShapes Go.ChangeAt Go.RowKit Go.PlainAid
set_option linter.unusedVariables false
theorem Asn.same {A B : Asn} (h : ∀ w O, A.P w O ↔ B.P w O) : A = B := by
  obtain ⟨P, a, b⟩ := A
  obtain ⟨Q, c, d⟩ := B
  have e : P = Q := by funext w O; exact propext (h w O)
  subst e
  rfl
theorem Asn.comm (A B : Asn) : A * B = B * A := Asn.same fun w O => ⟨sep_comm, sep_comm⟩
theorem Asn.assoc (A B C : Asn) : A * B * C = A * (B * C) := Asn.same fun w O => ⟨sep_assoc, sep_assoc'⟩
instance : Std.Commutative (α := Asn) (· * ·) := ⟨Asn.comm⟩
instance : Std.Associative (α := Asn) (· * ·) := ⟨Asn.assoc⟩
section
variable {w0 w : World} {O0 : Nat → Prop} {A B C D E F : Asn}
theorem Own.re (h : Own w0 O0 w A) (e : A = B) : Own w0 O0 w B := e ▸ h
end
end Go.Proofs.Ytoofoalpffoheaa.Aid
