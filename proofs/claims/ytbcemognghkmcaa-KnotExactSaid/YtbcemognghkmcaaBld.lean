/- strings.Builder (alone, or the only field of a struct of type T) as what is owned. -/
import Derived.Test.YtbcemognghkmcaaSep
import Derived.Test.YtbcemognghkmcaaChecked
import Derived.Lib.Builder
import Derived.Lib.MakeNoZero
import Derived.Lib.UnsafeStr
import Derived.Shelf.RegionOpenPlain
namespace Go.Proofs.Ytbcemognghkmcaa.Aid
open Go.ChangeShapes Go.WideShapes Go.ChangeAt Go.RowKit Go.PlainAid
set_option linter.unusedVariables false
set_option linter.unusedSimpArgs false
section
variable {w0 w w' : World} {O0 O : Nat → Prop} {A B C D : Asn} {P : Program}
/-- A row that grew. -/
theorem Own.app {e : TypeId} {size n n' : Nat} {v v' : Value} {xs xs' : List Value} (h : Own w0 O0 w (Asn.vec e size v n xs * C)) (hv : Vec w' e size v' n' xs') (hc : Chg (VB v) w w') (hf : Fresh w (VB v) (VB v')) : Own w0 O0 w' (Asn.vec e size v' n' xs' * C) := by
  refine h.then fun O hO => ?_
  obtain ⟨X, Y, ⟨hV, hX⟩, hC, hd, hO⟩ := hO
  have : Own w X w' (Asn.vec e size v' n' xs') := ⟨⟨VB v', ⟨hv, fun _ => Iff.rfl⟩, fun k hk => (hf k hk).imp_left (hX k).2⟩, hc.mono (fun k _ hk => (hX k).2 hk)⟩
  exact this.frame hC hd hO
theorem Own.vec {e : TypeId} {size n : Nat} {v : Value} {xs : List Value} (h : Own w0 O0 w (Asn.vec e size v n xs * C)) : Vec w e size v n xs := by
  obtain ⟨O, ⟨X, Y, hV, -⟩, -⟩ := h.ex
  exact hV.1
theorem Own.vecR {e : TypeId} {size n : Nat} {v : Value} {xs : List Value} (h : Own w0 O0 w (C * Asn.vec e size v n xs)) : Vec w e size v n xs := h.comm.vec
theorem Own.exOpen {α : Type} {A : α → Asn} (h : Own w0 O0 w (Asn.ex A)) : ∃ a, Own w0 O0 w (A a) := by
  obtain ⟨O, ⟨a, hA⟩, hf⟩ := h.ex
  exact ⟨a, ⟨⟨O, hA, hf⟩, h.chg⟩⟩
theorem Own.exMk {α : Type} {A : α → Asn} (a : α) (h : Own w0 O0 w (A a)) : Own w0 O0 w (Asn.ex A) := h.imp (fun _ _ h => ⟨a, h⟩)
/-- A new row, empty. -/
theorem Own.nilVec (h : Own w0 O0 w A) (e : TypeId) (size : Nat) : Own w0 O0 w (Asn.vec e size (.slice Option.none 0 0) 0 [] * A) := by
  refine h.map fun O hO => ⟨O, ⟨fun _ => False, O, ⟨Vec.nil _ _ _, fun k => ?_⟩, hO, fun _ h => h.elim, fun k => by simp⟩, fun _ => id⟩
  simp [VB, Value.ownBlock]
/-- What one makes, all new. -/
theorem Own.newVec {e : TypeId} {size n : Nat} {v : Value} {xs : List Value} (h : Own w0 O0 w A) (hb : Below w.heap.size w w') (hv : Vec w' e size v n xs) (hn : ∀ k, VB v k → w.heap.size ≤ k) : Own w0 O0 w' (Asn.vec e size v n xs * A) := by
  refine h.then fun O hO => ?_
  have h2 : Own w (fun _ => False) w' (Asn.vec e size v n xs) := ⟨⟨VB v, ⟨hv, fun _ => Iff.rfl⟩, fun k hk => Or.inr (hn k hk)⟩, Chg.of_below hb⟩
  exact h2.frame hO (fun _ h => h.elim) (fun k => by simp)
end

/-! The builder. -/
def bPtr (g : Nat) : Value := .pointer (some ⟨g, 0, none⟩)
def aBlk (T : TypeId) (g : Nat) (q v : Value) : Asn := Asn.blk g T #[q, v]
/-- A builder that holds the bytes l, written on. -/
def aBld (T : TypeId) (g : Nat) (l : List UInt8) : Asn := Asn.ex fun q : Bool × Value => aBlk T g (if q.1 then bPtr g else .pointer none) q.2 * Asn.vec 5 1 q.2 l.length (Lib.byteCells l)
theorem byteInfo : (Try.prog.info? 5).map (fun i => (i.zero, i.size, i.bytes)) = some (some (.int .u8 0), 1, 1) := by kernel_rfl
theorem blk_cells {w : World} {g : Nat} {T : TypeId} {q v : Value} (h : Blk w g T #[q, v]) : w.cell? ⟨g, 0, none⟩ = some q ∧ w.cell? ⟨g, 1, none⟩ = some v ∧ w.frozen? ⟨g, 0, none⟩ = false ∧ w.frozen? ⟨g, 1, none⟩ = false := ⟨h.cell 0, h.cell 1, h.free 0, h.free 1⟩
end Go.Proofs.Ytbcemognghkmcaa.Aid
