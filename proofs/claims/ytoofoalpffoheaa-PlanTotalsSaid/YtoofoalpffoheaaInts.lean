/- Two rows of numbers, side by side. -/
import Derived.Test.YtoofoalpffoheaaSep
import Derived.Test.YtoofoalpffoheaaRow
import Derived.Test.YtoofoalpffoheaaRows
import Derived.Test.YtoofoalpffoheaaAc
namespace Go.Proofs.Ytoofoalpffoheaa.Aid
open Go.ChangeShapes Go.WideShapes Go.ChangeAt Go.RowKit Go.PlainAid
set_option linter.unusedVariables false
set_option linter.unusedSimpArgs false
/-- A slice's numbers. -/
def IntsAt (w : World) (A : Option Addr) (l : List Int) : Prop := l = [] ∨ ∃ b o, A = some ⟨b, o, none⟩ ∧ b < w.heap.size ∧ ∀ j x, l[j]? = some x → w.cell? ⟨b, o + j, none⟩ = some (.int .i64 x)
theorem IntsAt.keep {w w' : World} {A : Option Addr} {l : List Int} (h : IntsAt w A l) (hb : Below w.heap.size w w') : IntsAt w' A l := by
  rcases h with h | ⟨b, o, rfl, hl, hc⟩
  · exact Or.inl h
  · exact Or.inr ⟨b, o, rfl, Nat.lt_of_lt_of_le hl hb.size, fun j x hx => by rw [(bcell hb).1 _ _ hl]; exact hc j x hx⟩
theorem IntsAt.of_vec {w : World} {A : Option Addr} {c : Nat} {l : List Int} {T : TypeId} (h : Vec w T 1 (.slice A l.length c) l.length (l.map fun x => .int .i64 x)) : IntsAt w A l := by
  have hv := h
  rcases h.forms with ⟨he, hz⟩ | ⟨g, cap, he, -⟩
  · exact Or.inl (List.eq_nil_of_length_eq_zero hz)
  · cases he
    by_cases hz : l = []
    · exact Or.inl hz
    refine Or.inr ⟨g, 0, rfl, hv.lt (by exact rfl), fun j x hx => ?_⟩
    rw [Nat.zero_add]
    refine hv.cell ?_
    rw [List.getElem?_map, hx]; rfl
end Go.Proofs.Ytoofoalpffoheaa.Aid
