/- strings.Builder (alone, or the only field of a struct of type T) as what is owned. -/
import Derived.Test.YtmbakcphmblobaaDoorSep
import Derived.Test.YtmbakcphmblobaaDoorChecked
import Derived.Lib.Builder
import Derived.Lib.MakeNoZero
import Derived.Lib.UnsafeStr
import Derived.Shelf.RegionOpenPlain
namespace Go.Proofs.YtmbakcphmblobaaDoor.Aid
open Go.ChangeShapes Go.WideShapes Go.ChangeAt Go.RowKit Go.PlainAid
set_option linter.unusedVariables false
set_option linter.unusedSimpArgs false
section
variable {w0 w w' : World} {O0 O : Nat → Prop} {A B C D : Asn} {P : Program}
/-- A row that grew. -/
theorem Own.app {e : TypeId} {size n n' : Nat} {v v' : Value} {xs xs' : List Value} (h : Own w0 O0 w (Asn.vec e size v n xs * C)) (hv : Vec w' e size v' n' xs') (hc : Chg (VB v) w w') (hf : Fresh w (VB v) (VB v')) : Own w0 O0 w' (Asn.vec e size v' n' xs' * C) := by
  refine h.then fun O hO => ?_
  obtain ⟨X, Y, ⟨hV, hX⟩, hC, hd, hO⟩ := hO
  have : Own w X w' (Asn.vec e size v' n' xs') := ⟨⟨VB v', ⟨hv, fun _ => Iff.rfl⟩, fun k hk => (hf k hk).imp_left (hX k).2⟩, hc.mono (fun k _ hk => (hX k).2 hk)⟩
  exact this.frame hC hd hO
theorem Own.vec {e : TypeId} {size n : Nat} {v : Value} {xs : List Value} (h : Own w0 O0 w (Asn.vec e size v n xs * C)) : Vec w e size v n xs := by
  obtain ⟨O, ⟨X, Y, hV, -⟩, -⟩ := h.ex
  exact hV.1
theorem Own.vecR {e : TypeId} {size n : Nat} {v : Value} {xs : List Value} (h : Own w0 O0 w (C * Asn.vec e size v n xs)) : Vec w e size v n xs := h.comm.vec
theorem Own.exOpen {α : Type} {A : α → Asn} (h : Own w0 O0 w (Asn.ex A)) : ∃ a, Own w0 O0 w (A a) := by
  obtain ⟨O, ⟨a, hA⟩, hf⟩ := h.ex
  exact ⟨a, ⟨⟨O, hA, hf⟩, h.chg⟩⟩
theorem Own.exMk {α : Type} {A : α → Asn} (a : α) (h : Own w0 O0 w (A a)) : Own w0 O0 w (Asn.ex A) := h.imp (fun _ _ h => ⟨a, h⟩)
/-- A new row, empty. -/
theorem Own.nilVec (h : Own w0 O0 w A) (e : TypeId) (size : Nat) : Own w0 O0 w (Asn.vec e size (.slice Option.none 0 0) 0 [] * A) := by
  refine h.map fun O hO => ⟨O, ⟨fun _ => False, O, ⟨Vec.nil _ _ _, fun k => ?_⟩, hO, fun _ h => h.elim, fun k => by simp⟩, fun _ => id⟩
  simp [VB, Value.ownBlock]
/-- What one makes, all new. -/
theorem Own.newVec {e : TypeId} {size n : Nat} {v : Value} {xs : List Value} (h : Own w0 O0 w A) (hb : Below w.heap.size w w') (hv : Vec w' e size v n xs) (hn : ∀ k, VB v k → w.heap.size ≤ k) : Own w0 O0 w' (Asn.vec e size v n xs * A) := by
  refine h.then fun O hO => ?_
  have h2 : Own w (fun _ => False) w' (Asn.vec e size v n xs) := ⟨⟨VB v, ⟨hv, fun _ => Iff.rfl⟩, fun k hk => Or.inr (hn k hk)⟩, Chg.of_below hb⟩
  exact h2.frame hO (fun _ h => h.elim) (fun k => by simp)
end

/-! The builder. -/
def bPtr (g : Nat) : Value := .pointer (some ⟨g, 0, none⟩)
def aBlk (T : TypeId) (g : Nat) (q v : Value) : Asn := Asn.blk g T #[q, v]
/-- A builder that holds the bytes l, written on. -/
def aBld (T : TypeId) (g : Nat) (l : List UInt8) : Asn := Asn.ex fun q : Bool × Value => aBlk T g (if q.1 then bPtr g else .pointer none) q.2 * Asn.vec 5 1 q.2 l.length (Lib.byteCells l)
def BldT (T : TypeId) : Prop := liesAt Tryd.prog Tryd.prog.depth T (2 / Tryd.prog.cellsOf T) 0 116 1 = true
theorem bldInfo : (Tryd.prog.info? 116).map (fun i => i.size) = some 2 := by kernel_rfl
theorem byteInfo : (Tryd.prog.info? 5).map (fun i => (i.zero, i.size, i.bytes)) = some (some (.int .u8 0), 1, 1) := by kernel_rfl
theorem blk_cells {w : World} {g : Nat} {T : TypeId} {q v : Value} (h : Blk w g T #[q, v]) : w.cell? ⟨g, 0, none⟩ = some q ∧ w.cell? ⟨g, 1, none⟩ = some v ∧ w.frozen? ⟨g, 0, none⟩ = false ∧ w.frozen? ⟨g, 1, none⟩ = false := ⟨h.cell 0, h.cell 1, h.free 0, h.free 1⟩
set_option maxRecDepth 1000000 in
set_option maxHeartbeats 1000000 in
/-- String: the bytes; the builder is given up. -/
theorem bString (T : TypeId) (g : Nat) (l : List UInt8) (hl : l ≠ []) :
    Tr Tryd.prog 72 #[bPtr g] (aBld T g l) (.string (ofL l)) Asn.emp := by
  intro w O hA
  obtain ⟨⟨q, v⟩, hA⟩ := hA
  obtain ⟨X, Y, hX, hY, hd, hO⟩ := hA
  have hv := hY.1
  have hOY : ∀ k, VB v k → O k := fun k hk => (hO k).2 (Or.inr ((hY.2 k).2 hk))
  obtain ⟨-, c1, -, -⟩ := blk_cells (w := w) hX.1
  have hl0 : 0 < l.length := List.length_pos_iff.2 hl
  obtain ⟨hv1, ⟨rfl, h0⟩ | ⟨b, cap, cur, rfl, hb0, hbk, hn, hc, hz, ht⟩⟩ := hY.1
  · omega
  have c2 : w.drew.cell? ⟨g, 1, none⟩ = some (.slice (some ⟨b, 0, none⟩) l.length cap) := c1
  have hcell : ∀ j x, l[j]? = some x → w.drew.cell? ((⟨b, 0, none⟩ : Addr).add j) = some (.int .u8 x.toNat) := fun j x hx => World.ownsRow.cells hv (g := b) rfl j (.int .u8 x.toNat) (by simp [Lib.byteCells, hx])
  have hSD : (Builtin.unsafeSliceData_ #[82] 160 #[.slice (some ⟨b, 0, none⟩) l.length cap]).run Tryd.prog w.drew = .ok (.pointer (some ⟨b, 0, none⟩)) w.drew :=
    Lib.run_unsafeSliceData_row _ _ _ _ _ _ (by omega)
  have hUS : (Builtin.unsafeString_ #[160, 3] 9 #[.pointer (some ⟨b, 0, none⟩), .int .i64 l.length]).run Tryd.prog w.drew = .ok (.string (ofL l)) (w.drew.freeze ⟨b, 0, none⟩ l.length) :=
    Lib.run_unsafeString_row w.drew 160 3 9 5 Tryd.underlying160 (by kernel_rfl) b cur.size (by have hg' : w.drew.heap[b]? = some (.cells cur 5 (0, 0)) := hbk; simp [World.shape?, hg']) l hl (by omega) (by unfold maxLen at hc; omega) hcell
  have mixed : Tryd.prog.follows Departure.mixedOrders = true := by kernel_rfl
  have fin : Own w O (w.drew.freeze ⟨b, 0, none⟩ l.length) Asn.emp := by
    refine ⟨⟨fun _ => False, fun _ => id, fun _ h => h.elim⟩, ?_⟩
    have : Chg O w w.drew := (Chg.refl _ _).drew
    refine this.trans (T := (· = b)) ?_ (fun i _ hi => hi ▸ hOY b rfl)
    unfold World.freeze
    split
    · exact Chg.refl _ _
    · refine ⟨rfl, rfl, rfl, by simp, fun k hk hne => ?_⟩
      simp only [Array.getElem?_modify]
      rw [if_neg (fun e => hne e.symm)]
  have FIN := Lib.hid fin
  clear fin hv1 hX hY hd hO hv hOY c1 hcell hbk hn hc hz ht
  generalize ofL l = x at *
  unfold bPtr at *
  go_enter Tryd.func72, Tryd.ntmps72
  go_wp2
  go_region_o
  all_goals
    go_wp2
    go_ret
    exact ⟨rfl, FIN.out⟩
end Go.Proofs.YtmbakcphmblobaaDoor.Aid
