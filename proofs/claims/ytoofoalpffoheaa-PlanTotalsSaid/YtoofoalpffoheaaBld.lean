/- strings.Builder (alone, or the only field of a struct of type T) as what is owned. -/
import Derived.Test.YtoofoalpffoheaaSep
import Derived.Test.YtoofoalpffoheaaChecked
import Derived.Lib.Builder
import Derived.Lib.MakeNoZero
import Derived.Lib.UnsafeStr
import Derived.Shelf.RegionOpenPlain
namespace Go.Proofs.Ytoofoalpffoheaa.Aid
open Go.ChangeShapes Go.WideShapes Go.ChangeAt Go.RowKit Go.PlainAid
set_option linter.unusedVariables false
set_option linter.unusedSimpArgs false
section
variable {w0 w w' : World} {O0 O : Nat → Prop} {A B C D : Asn} {P : Program}
/-- A row that grew. -/
theorem Own.app {e : TypeId} {size n n' : Nat} {v v' : Value} {xs xs' : List Value} (h : Own w0 O0 w (Asn.vec e size v n xs * C)) (hv : Vec w' e size v' n' xs') (hc : Chg (VB v) w w') (hf : Fresh w (VB v) (VB v')) : Own w0 O0 w' (Asn.vec e size v' n' xs' * C) := by
  refine h.then fun O hO => ?_
  obtain ⟨X, Y, ⟨hV, hX⟩, hC, hd, hO⟩ := hO
  have : Own w X w' (Asn.vec e size v' n' xs') := ⟨⟨VB v', ⟨hv, fun _ => Iff.rfl⟩, fun k hk => (hf k hk).imp_left (hX k).2⟩, hc.mono (fun k _ hk => (hX k).2 hk)⟩
  exact this.frame hC hd hO
theorem Own.vec {e : TypeId} {size n : Nat} {v : Value} {xs : List Value} (h : Own w0 O0 w (Asn.vec e size v n xs * C)) : Vec w e size v n xs := by
  obtain ⟨O, ⟨X, Y, hV, -⟩, -⟩ := h.ex
  exact hV.1
theorem Own.vecR {e : TypeId} {size n : Nat} {v : Value} {xs : List Value} (h : Own w0 O0 w (C * Asn.vec e size v n xs)) : Vec w e size v n xs := h.comm.vec
theorem Own.exOpen {α : Type} {A : α → Asn} (h : Own w0 O0 w (Asn.ex A)) : ∃ a, Own w0 O0 w (A a) := by
  obtain ⟨O, ⟨a, hA⟩, hf⟩ := h.ex
  exact ⟨a, ⟨⟨O, hA, hf⟩, h.chg⟩⟩
theorem Own.exMk {α : Type} {A : α → Asn} (a : α) (h : Own w0 O0 w (A a)) : Own w0 O0 w (Asn.ex A) := h.imp (fun _ _ h => ⟨a, h⟩)
/-- A new row, empty. -/
theorem Own.nilVec (h : Own w0 O0 w A) (e : TypeId) (size : Nat) : Own w0 O0 w (Asn.vec e size (.slice Option.none 0 0) 0 [] * A) := by
  refine h.map fun O hO => ⟨O, ⟨fun _ => False, O, ⟨Vec.nil _ _ _, fun k => ?_⟩, hO, fun _ h => h.elim, fun k => by simp⟩, fun _ => id⟩
  simp [VB, Value.ownBlock]
/-- What one makes, all new. -/
theorem Own.newVec {e : TypeId} {size n : Nat} {v : Value} {xs : List Value} (h : Own w0 O0 w A) (hb : Below w.heap.size w w') (hv : Vec w' e size v n xs) (hn : ∀ k, VB v k → w.heap.size ≤ k) : Own w0 O0 w' (Asn.vec e size v n xs * A) := by
  refine h.then fun O hO => ?_
  have h2 : Own w (fun _ => False) w' (Asn.vec e size v n xs) := ⟨⟨VB v, ⟨hv, fun _ => Iff.rfl⟩, fun k hk => Or.inr (hn k hk)⟩, Chg.of_below hb⟩
  exact h2.frame hO (fun _ h => h.elim) (fun k => by simp)
end

/-! The builder. -/
def bPtr (g : Nat) : Value := .pointer (some ⟨g, 0, none⟩)
def aBlk (T : TypeId) (g : Nat) (q v : Value) : Asn := Asn.blk g T #[q, v]
/-- A builder that holds the bytes l, written on. -/
def aBld (T : TypeId) (g : Nat) (l : List UInt8) : Asn := Asn.ex fun q : Bool × Value => aBlk T g (if q.1 then bPtr g else .pointer none) q.2 * Asn.vec 5 1 q.2 l.length (Lib.byteCells l)
def BldT (T : TypeId) : Prop := liesAt Try.prog Try.prog.depth T (2 / Try.prog.cellsOf T) 0 62 1 = true
theorem bldInfo : (Try.prog.info? 62).map (fun i => i.size) = some 2 := by kernel_rfl
theorem byteInfo : (Try.prog.info? 5).map (fun i => (i.zero, i.size, i.bytes)) = some (some (.int .u8 0), 1, 1) := by kernel_rfl
set_option maxRecDepth 100000 in
set_option maxHeartbeats 1000000 in
theorem bCheck (T : TypeId) (hT : BldT T) (g : Nat) (v : Value) (q : Bool) :
    Tr Try.prog 34 #[bPtr g] (aBlk T g (if q then bPtr g else .pointer none) v) (.tuple #[]) (aBlk T g (bPtr g) v) := by
  intro w O hA
  obtain ⟨j, hj, hjs⟩ := Option.map_eq_some_iff.1 bldInfo
  have hb := hA.1
  have c0 := hb.cell 0
  have f0 := hb.free 0
  have hsh : w.shape? g = some (T, 2) := by have := hA.1; simp [World.shape?, Blk] at this ⊢; rw [this]; simp
  have S := Lib.hid (Own.start hA)
  unfold bPtr at *
  cases q
  · go_enter Try.func34, Try.ntmps34
    go_wp2
    rw [Lib.run_to_unsafe w ⟨g, 0, none⟩ Try.underlying59 Try.underlying95 hj (by rw [hjs]; decide) hsh (Nat.zero_lt_succ 1)]
    simp only [Result.andThen]
    rw [Oper.upon_value]
    go_wp2
    rw [run_callFunc_extern Try.func45 (by kernel_rfl) (by kernel_rfl) (by kernel_rfl) (e := Extern.AbiNoEscape.same) (by kernel_rfl)]
    rw [Lib.run_noEscape]
    simp only [Result.andThen]
    rw [Oper.upon_value]
    go_wp2
    rw [Lib.run_from_unsafe w ⟨g, 0, none⟩ Try.underlying95 Try.underlying59 hj hsh hT]
    simp only [Result.andThen]
    rw [Oper.upon_value]
    go_wp2
    go_end0
    exact ⟨rfl, S.out.set (sets_blk _ _ _ 0 _)⟩
  · go_enter Try.func34, Try.ntmps34
    go_wp2
    rw [Lib.run_neq_ptr_same w _ Try.underlying59 hj]
    go_wp2
    go_end0
    exact ⟨rfl, S.out⟩
theorem blk_cells {w : World} {g : Nat} {T : TypeId} {q v : Value} (h : Blk w g T #[q, v]) : w.cell? ⟨g, 0, none⟩ = some q ∧ w.cell? ⟨g, 1, none⟩ = some v ∧ w.frozen? ⟨g, 0, none⟩ = false ∧ w.frozen? ⟨g, 1, none⟩ = false := ⟨h.cell 0, h.cell 1, h.free 0, h.free 1⟩
set_option maxRecDepth 100000 in
set_option maxHeartbeats 1000000 in
theorem bWriteString (T : TypeId) (hT : BldT T) (g : Nat) (l s : List UInt8) (hl : l.length + s.length ≤ 140737488355328) :
    Tr Try.prog 21 #[bPtr g, .string (ofL s)] (aBld T g l) (.tuple #[.int .i64 s.length, .nilIface]) (aBld T g (l ++ s)) := by
  intro w O hA
  obtain ⟨⟨q, v⟩, hA⟩ := hA
  have S := Lib.hid (Own.start hA)
  have HT := Lib.hid hT
  have hc2 : Lib.byteCells (l ++ s) = Lib.byteCells l ++ byteCells (ofL s) := by rw [byteCells_eq, byteCells_append]; rfl
  have HC2 := Lib.hid hc2
  have hz : (ofL s).size = s.length := rfl
  have HZ := Lib.hid hz
  rw [← hz] at hl ⊢
  clear hA hT hc2 hz
  generalize ofL s = x at *
  unfold bPtr at *
  go_enter Try.func21, Try.ntmps21
  go_wp2_with fail
  refine (S.out.call ((bCheck T HT.out g v q).l)).mono ?_
  rintro e w1 ⟨rfl, hX⟩
  have S1 := Lib.hid hX
  clear hX S 
  obtain ⟨c0, c1, f0, f1⟩ := blk_cells (S1.out.has (Has.l (has_blk _ _ _)))
  have S2 := Lib.hid S1.out.comm
  go_wp2_with (with_reducible refine wpList_append_vec rfl (.tmp 12) (.tmp 13) 60 9 rfl 5 (.int .u8 0) 1 1 Try.underlying60 byteInfo ?c1 ?c2 v l.length (Lib.byteCells l) ?c7 S2.out.vec (.string x) ?c8 x.size (byteCells x) (Src.ofString _ Try.underlying9 x) ?c3 ?c4 ?_)
  case c1 => rfl
  case c2 => decide
  case c3 => unfold maxLen; omega
  case c4 => omega
  case c7 => rfl
  case c8 => rfl
  intro v' w2 hv hc hf
  have S3 := Lib.hid (S2.out.app hv hc hf)
  obtain ⟨A', c', rfl⟩ := hv.slice
  obtain ⟨c0, c1, f0, f1⟩ := blk_cells (S3.out.has (Has.r (has_blk _ _ _)))
  clear S1 S2 hv hc hf
  go_wp2_with fail
  go_returns
  refine ⟨rfl, Own.exMk (true, .slice A' (l.length + x.size) c') ?_⟩
  have h := (S3.out.set (Sets.r (sets_blk _ _ _ 1 (.slice A' (l.length + x.size) c')))).comm
  rw [← HC2.out] at h
  rw [List.length_append, ← HZ.out]
  exact h
set_option maxRecDepth 1000000 in
set_option maxHeartbeats 1000000 in
/-- String: the bytes; the builder is given up. -/
theorem bString (T : TypeId) (g : Nat) (l : List UInt8) (hl : l ≠ []) :
    Tr Try.prog 23 #[bPtr g] (aBld T g l) (.string (ofL l)) Asn.emp := by
  intro w O hA
  obtain ⟨⟨q, v⟩, hA⟩ := hA
  obtain ⟨X, Y, hX, hY, hd, hO⟩ := hA
  have hv := hY.1
  have hOY : ∀ k, VB v k → O k := fun k hk => (hO k).2 (Or.inr ((hY.2 k).2 hk))
  obtain ⟨-, c1, -, -⟩ := blk_cells (w := w) hX.1
  have hl0 : 0 < l.length := List.length_pos_iff.2 hl
  obtain ⟨hv1, ⟨rfl, h0⟩ | ⟨b, cap, cur, rfl, hb0, hbk, hn, hc, hz, ht⟩⟩ := hY.1
  · omega
  have c2 : w.drew.cell? ⟨g, 1, none⟩ = some (.slice (some ⟨b, 0, none⟩) l.length cap) := c1
  have hcell : ∀ j x, l[j]? = some x → w.drew.cell? ((⟨b, 0, none⟩ : Addr).add j) = some (.int .u8 x.toNat) := fun j x hx => World.ownsRow.cells hv (g := b) rfl j (.int .u8 x.toNat) (by simp [Lib.byteCells, hx])
  have hSD : (Builtin.unsafeSliceData_ #[60] 79 #[.slice (some ⟨b, 0, none⟩) l.length cap]).run Try.prog w.drew = .ok (.pointer (some ⟨b, 0, none⟩)) w.drew :=
    Lib.run_unsafeSliceData_row _ _ _ _ _ _ (by omega)
  have hUS : (Builtin.unsafeString_ #[79, 3] 9 #[.pointer (some ⟨b, 0, none⟩), .int .i64 l.length]).run Try.prog w.drew = .ok (.string (ofL l)) (w.drew.freeze ⟨b, 0, none⟩ l.length) :=
    Lib.run_unsafeString_row w.drew 79 3 9 5 Try.underlying79 (by kernel_rfl) b cur.size (by have hg' : w.drew.heap[b]? = some (.cells cur 5 (0, 0)) := hbk; simp [World.shape?, hg']) l hl (by omega) (by unfold maxLen at hc; omega) hcell
  have mixed : Try.prog.follows Departure.mixedOrders = true := by kernel_rfl
  have fin : Own w O (w.drew.freeze ⟨b, 0, none⟩ l.length) Asn.emp := by
    refine ⟨⟨fun _ => False, fun _ => id, fun _ h => h.elim⟩, ?_⟩
    have : Chg O w w.drew := (Chg.refl _ _).drew
    refine this.trans (T := (· = b)) ?_ (fun i _ hi => hi ▸ hOY b rfl)
    unfold World.freeze
    split
    · exact Chg.refl _ _
    · refine ⟨rfl, rfl, rfl, by simp, fun k hk hne => ?_⟩
      simp only [Array.getElem?_modify]
      rw [if_neg (fun e => hne e.symm)]
  have FIN := Lib.hid fin
  clear fin hv1 hX hY hd hO hv hOY c1 hcell hbk hn hc hz ht
  generalize ofL l = x at *
  unfold bPtr at *
  go_enter Try.func23, Try.ntmps23
  go_wp2
  go_region_o
  all_goals
    go_wp2
    go_ret
    exact ⟨rfl, FIN.out⟩
end Go.Proofs.Ytoofoalpffoheaa.Aid
