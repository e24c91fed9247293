/- Small theorems of no program: what came in, read in a world in which nothing of it has changed. -/
import Derived.Test.YtmbakcphmblobaaDoorChg
namespace Go.Proofs.YtmbakcphmblobaaDoor.Aid
open Go.ChangeShapes Go.WideShapes Go.ChangeAt Go.RowKit Go.PlainAid
set_option linter.unusedVariables false
/-- A number of 64 bits. -/
def I64 (n : Int) : Prop := -9223372036854775808 ≤ n ∧ n ≤ 9223372036854775807
/-- A slice of structs of F numbers each that came in. -/
def IntRows (w : World) (A : Option Addr) (m F : Nat) (z : Nat → Nat → Int) : Prop :=
  m = 0 ∨ ∃ b o, A = some ⟨b, o, none⟩ ∧ b < w.heap.size ∧ (∀ i, i < m → ∀ j, j < F → w.cell? ⟨b, o + i * F + j, none⟩ = some (.int .i64 (z i j))) ∧ ∀ i, i < m → ∀ j, j < F → I64 (z i j)
theorem IntRows.at {w : World} {A : Option Addr} {m F : Nat} {z : Nat → Nat → Int} (h : IntRows w A m F z) (k : Nat) (hk : k < m) (w' : World) (hb : Below w.heap.size w w') :
    ∃ b o, A = some ⟨b, o, none⟩ ∧ b < w.heap.size ∧ (∀ j, j < F → w'.cell? ⟨b, o + k * F + j, none⟩ = some (.int .i64 (z k j))) ∧ ∀ j, j < F → I64 (z k j) := by
  rcases h with h | ⟨b, o, rfl, hl, hc, hz⟩
  · omega
  · exact ⟨b, o, rfl, hl, fun j hj => by rw [(bcell hb).1 _ _ hl]; exact hc k hk j hj, hz k hk⟩
end Go.Proofs.YtmbakcphmblobaaDoor.Aid
