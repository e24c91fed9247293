/- Read: a page as a node. -/
import Derived.Test.YtmbakcphmblobaaDoorNdR
import Derived.Test.YtmbakcphmblobaaDoorNdY
namespace Go.Proofs.YtmbakcphmblobaaDoor.Nd
open Go.ChangeShapes Go.WideShapes Go.ChangeAt Go.RowKit Go.PlainAid Aid Cr Nt
set_option linter.unusedVariables false
set_option linter.unusedSimpArgs false
theorem Row3.of_vec {w : World} {e : TypeId} {v : Value} {l : List Ent} (h : Vec w e 3 v l.length (cells3 l)) : Row3 w v l := by
  rcases h.forms with ⟨rfl, h0⟩ | ⟨g, cap, rfl, hg, hn, hc⟩
  · have : l = [] := List.eq_nil_of_length_eq_zero h0
    subst this
    exact Row3.nil w
  · refine ⟨_, _, rfl, by omega, Or.inr ⟨g, 0, rfl, hg, fun k x hx => ?_⟩⟩
    have key : ∀ (l : List Ent) (k : Nat) (x : Ent), l[k]? = some x → (cells3 l)[k * 3]? = some (.string (ofL x.key)) ∧ (cells3 l)[k * 3 + 1]? = some (.string (ofL x.val)) ∧ (cells3 l)[k * 3 + 2]? = some (.bool x.ghost) := by
      intro l
      induction l with
      | nil => intro k x hx; cases hx
      | cons a l ih =>
        intro k x hx
        have e : cells3 (a :: l) = .string (ofL a.key) :: .string (ofL a.val) :: .bool a.ghost :: cells3 l := by simp [cells3]
        cases k with
        | zero => simp at hx; subst hx; rw [e]; simp
        | succ k =>
          simp only [List.getElem?_cons_succ] at hx
          have := ih k x hx
          rw [e, show (k + 1) * 3 = k * 3 + 1 + 1 + 1 by omega]
          simpa using this
    obtain ⟨h1, h2, h3⟩ := key l k x hx
    rw [Nat.zero_add]
    exact ⟨h.cell h1, h.cell h2, h.cell h3⟩
theorem ents_at {w0 w : World} {O0 : Nat → Prop} {n : Nod} {v : Value} (h : Own w0 O0 w (aEnts n v)) : NodAt w (.agg (nodCells n v)) n :=
  ⟨_, rfl, Row3.of_vec h.addEmp.vec⟩
def rV (o : Option Nod) (v : Value) : Value := match o with
  | none => .tuple #[v, .int .i64 3]
  | some _ => .tuple #[v, .int .i64 0]
def rN (o : Option Nod) : Nod := match o with
  | none => Nod.none
  | some n => n
theorem none_ents {w0 w : World} {O0 : Nat → Prop} {A : Asn} (h : Own w0 O0 w A) : Own w0 O0 w (aEnts Nod.none (.slice none 0 0) * A) := h.nilVec 111 3
end Go.Proofs.YtmbakcphmblobaaDoor.Nd
