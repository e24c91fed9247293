/- Texts of ours, joined. -/
import Derived.Test.YteiiogaopgfpfaaNtP
import Derived.Test.YteiiogaopgfpfaaSep
import Derived.Test.YteiiogaopgfpfaaShelf
import Derived.Test.YteiiogaopgfpfaaChecked
import Derived.Lib.Builder
import Derived.Lib.MakeNoZero
import Derived.Lib.UnsafeStr
import Derived.Shelf.RegionOpenPlain

-- joined
section
namespace Go.Proofs.Yteiiogaopgfpfaa.Nt
open Go.ChangeShapes Go.WideShapes Go.ChangeAt Go.RowKit Go.PlainAid Aid Cr
set_option linter.unusedVariables false
set_option linter.unusedSimpArgs false

/-- A row of things of two cells each. -/
def Row2 {α : Type} (f : α → Value × Value) (w : World) (v : Value) (l : List α) : Prop :=
  ∃ A c, v = .slice A l.length c ∧ l.length ≤ maxLen ∧ (l = [] ∨ ∃ b o, A = some ⟨b, o, none⟩ ∧ b < w.heap.size ∧ ∀ (k : Nat) (x : α), l[k]? = some x → w.cell? ⟨b, o + k * 2, none⟩ = some (f x).1 ∧ w.cell? ⟨b, o + k * 2 + 1, none⟩ = some (f x).2)
def fImg (x : Int × By) : Value × Value := (.int .i64 x.1, .string (ofL x.2))
def fNum (x : Int × Int) : Value × Value := (.int .i64 x.1, .int .i64 x.2)
theorem Row2.keep {α : Type} {f : α → Value × Value} {w w' : World} {v : Value} {l : List α} (h : Row2 f w v l) (hb : Below w.heap.size w w') : Row2 f w' v l := by
  obtain ⟨A, c, hv, hm, h⟩ := h
  refine ⟨A, c, hv, hm, h.imp_right fun ⟨b, o, hA, hl, hc⟩ => ⟨b, o, hA, by have := hb.size; omega, fun k x hx => ?_⟩⟩
  rw [(bcell hb).1 _ _ hl, (bcell hb).1 _ _ hl]
  exact hc k x hx
theorem Row2.nil {α : Type} (f : α → Value × Value) (w : World) : Row2 f w (.slice none 0 0) [] := ⟨none, 0, rfl, Nat.zero_le _, Or.inl rfl⟩
theorem Row2.at {α : Type} {f : α → Value × Value} {w : World} {A : Option Addr} {m c : Nat} {l : List α} (h : Row2 f w (.slice A m c) l) {k : Nat} {x : α} (hx : l[k]? = some x) :
    ∃ b o, A = some ⟨b, o, none⟩ ∧ b < w.heap.size ∧ w.cell? ⟨b, o + k * 2, none⟩ = some (f x).1 ∧ w.cell? ⟨b, o + k * 2 + 1, none⟩ = some (f x).2 := by
  obtain ⟨A', c', hv, hm, h⟩ := h
  cases hv
  rcases h with rfl | ⟨b, o, rfl, hl, hc⟩
  · cases hx
  · exact ⟨b, o, rfl, hl, hc k x hx⟩
theorem Row2.len {α : Type} {f : α → Value × Value} {w : World} {A : Option Addr} {m c : Nat} {l : List α} (h : Row2 f w (.slice A m c) l) : m = l.length ∧ m ≤ maxLen := by
  obtain ⟨A', c', hv, hm, h⟩ := h
  cases hv
  exact ⟨rfl, hm⟩
theorem Row2.slice {α : Type} {f : α → Value × Value} {w : World} {v : Value} {l : List α} (h : Row2 f w v l) : ∃ A c, v = .slice A l.length c := by
  obtain ⟨A, c, hv, -⟩ := h; exact ⟨A, c, hv⟩

def undV (u : Und) : Value := .agg #[.int .i64 u.kind, .int .i64 u.tree, .string (ofL u.key), .string (ofL u.val)]
def recCells (r : Rec) (p o d : Value) : Array Value := #[.int .i64 r.kind, .int .i64 r.deal, .int .i64 r.prev, .int .i64 r.next, p, .int .i64 r.und.kind, .int .i64 r.und.tree, .string (ofL r.und.key), .string (ofL r.und.val), o, d]
/-- The value v is the record r. -/
def RecAt (w : World) (v : Value) (r : Rec) : Prop := ∃ p o d, v = .agg (recCells r p o d) ∧ Row2 fImg w p r.pages ∧ Row2 fNum w o r.opn ∧ Row2 fNum w d r.dty
theorem RecAt.keep {w w' : World} {v : Value} {r : Rec} (h : RecAt w v r) (hb : Below w.heap.size w w') : RecAt w' v r := by
  obtain ⟨p, o, d, hv, h1, h2, h3⟩ := h
  exact ⟨p, o, d, hv, h1.keep hb, h2.keep hb, h3.keep hb⟩

/-! The parts. -/
theorem all_take {α : Type} (p : α → Bool) (l : List α) (k : Nat) (x : α) (hx : l[k]? = some x) (h : (l.take k).all p = true) : (l.take (k + 1)).all p = p x := by
  rw [List.take_add_one, hx, List.all_append, h]; simp
theorem all_not {α : Type} (p : α → Bool) (l : List α) (k : Nat) (x : α) (hx : l[k]? = some x) (h : p x = false) : l.all p = false := by
  rw [List.all_eq_false]; exact ⟨x, List.mem_of_getElem? hx, by simp [h]⟩

/-! Image. -/
/-! Open. -/
/-! Dirty. -/
end Go.Proofs.Yteiiogaopgfpfaa.Nt
end

-- joined
section
namespace Go.Proofs.Yteiiogaopgfpfaa.Aid
open Go.ChangeShapes Go.WideShapes Go.ChangeAt Go.RowKit Go.PlainAid
set_option linter.unusedVariables false
set_option linter.unusedSimpArgs false
section
variable {w0 w w' : World} {O0 O : Nat → Prop} {A B C D : Asn} {P : Program}
/-- A row that grew. -/
theorem Own.app {e : TypeId} {size n n' : Nat} {v v' : Value} {xs xs' : List Value} (h : Own w0 O0 w (Asn.vec e size v n xs * C)) (hv : Vec w' e size v' n' xs') (hc : Chg (VB v) w w') (hf : Fresh w (VB v) (VB v')) : Own w0 O0 w' (Asn.vec e size v' n' xs' * C) := by
  refine h.then fun O hO => ?_
  obtain ⟨X, Y, ⟨hV, hX⟩, hC, hd, hO⟩ := hO
  have : Own w X w' (Asn.vec e size v' n' xs') := ⟨⟨VB v', ⟨hv, fun _ => Iff.rfl⟩, fun k hk => (hf k hk).imp_left (hX k).2⟩, hc.mono (fun k _ hk => (hX k).2 hk)⟩
  exact this.frame hC hd hO
theorem Own.vec {e : TypeId} {size n : Nat} {v : Value} {xs : List Value} (h : Own w0 O0 w (Asn.vec e size v n xs * C)) : Vec w e size v n xs := by
  obtain ⟨O, ⟨X, Y, hV, -⟩, -⟩ := h.ex
  exact hV.1
theorem Own.vecR {e : TypeId} {size n : Nat} {v : Value} {xs : List Value} (h : Own w0 O0 w (C * Asn.vec e size v n xs)) : Vec w e size v n xs := h.comm.vec
theorem Own.exOpen {α : Type} {A : α → Asn} (h : Own w0 O0 w (Asn.ex A)) : ∃ a, Own w0 O0 w (A a) := by
  obtain ⟨O, ⟨a, hA⟩, hf⟩ := h.ex
  exact ⟨a, ⟨⟨O, hA, hf⟩, h.chg⟩⟩
theorem Own.exMk {α : Type} {A : α → Asn} (a : α) (h : Own w0 O0 w (A a)) : Own w0 O0 w (Asn.ex A) := h.imp (fun _ _ h => ⟨a, h⟩)
/-- A new row, empty. -/
theorem Own.nilVec (h : Own w0 O0 w A) (e : TypeId) (size : Nat) : Own w0 O0 w (Asn.vec e size (.slice Option.none 0 0) 0 [] * A) := by
  refine h.map fun O hO => ⟨O, ⟨fun _ => False, O, ⟨Vec.nil _ _ _, fun k => ?_⟩, hO, fun _ h => h.elim, fun k => by simp⟩, fun _ => id⟩
  simp [VB, Value.ownBlock]
/-- What one makes, all new. -/
theorem Own.newVec {e : TypeId} {size n : Nat} {v : Value} {xs : List Value} (h : Own w0 O0 w A) (hb : Below w.heap.size w w') (hv : Vec w' e size v n xs) (hn : ∀ k, VB v k → w.heap.size ≤ k) : Own w0 O0 w' (Asn.vec e size v n xs * A) := by
  refine h.then fun O hO => ?_
  have h2 : Own w (fun _ => False) w' (Asn.vec e size v n xs) := ⟨⟨VB v, ⟨hv, fun _ => Iff.rfl⟩, fun k hk => Or.inr (hn k hk)⟩, Chg.of_below hb⟩
  exact h2.frame hO (fun _ h => h.elim) (fun k => by simp)
end

/-! The builder. -/
def bPtr (g : Nat) : Value := .pointer (some ⟨g, 0, none⟩)
def aBlk (T : TypeId) (g : Nat) (q v : Value) : Asn := Asn.blk g T #[q, v]
/-- A builder that holds the bytes l, written on. -/
def aBld (T : TypeId) (g : Nat) (l : List UInt8) : Asn := Asn.ex fun q : Bool × Value => aBlk T g (if q.1 then bPtr g else .pointer none) q.2 * Asn.vec 5 1 q.2 l.length (Lib.byteCells l)
def BldT (T : TypeId) : Prop := liesAt Try.prog Try.prog.depth T (2 / Try.prog.cellsOf T) 0 137 1 = true
theorem bldInfo : (Try.prog.info? 137).map (fun i => i.size) = some 2 := by kernel_rfl
theorem byteInfo : (Try.prog.info? 5).map (fun i => (i.zero, i.size, i.bytes)) = some (some (.int .u8 0), 1, 1) := by kernel_rfl
set_option maxRecDepth 100000 in
set_option maxHeartbeats 1000000 in
theorem bCheck (T : TypeId) (hT : BldT T) (g : Nat) (v : Value) (q : Bool) :
    Tr Try.prog 75 #[bPtr g] (aBlk T g (if q then bPtr g else .pointer none) v) (.tuple #[]) (aBlk T g (bPtr g) v) := by
  intro w O hA
  obtain ⟨j, hj, hjs⟩ := Option.map_eq_some_iff.1 bldInfo
  have hb := hA.1
  have c0 := hb.cell 0
  have f0 := hb.free 0
  have hsh : w.shape? g = some (T, 2) := by have := hA.1; simp [World.shape?, Blk] at this ⊢; rw [this]; simp
  have S := Lib.hid (Own.start hA)
  unfold bPtr at *
  cases q
  · go_enter Try.func75, Try.ntmps75
    go_wp2
    rw [Lib.run_to_unsafe w ⟨g, 0, none⟩ Try.underlying135 Try.underlying150 hj (by rw [hjs]; decide) hsh (Nat.zero_lt_succ 1)]
    simp only [Result.andThen]
    rw [Oper.upon_value]
    go_wp2
    rw [run_callFunc_extern Try.func77 (by kernel_rfl) (by kernel_rfl) (by kernel_rfl) (e := Extern.AbiNoEscape.same) (by kernel_rfl)]
    rw [Lib.run_noEscape]
    simp only [Result.andThen]
    rw [Oper.upon_value]
    go_wp2
    rw [Lib.run_from_unsafe w ⟨g, 0, none⟩ Try.underlying150 Try.underlying135 hj hsh hT]
    simp only [Result.andThen]
    rw [Oper.upon_value]
    go_wp2
    go_end0
    exact ⟨rfl, S.out.set (sets_blk _ _ _ 0 _)⟩
  · go_enter Try.func75, Try.ntmps75
    go_wp2
    rw [Lib.run_neq_ptr_same w _ Try.underlying135 hj]
    go_wp2
    go_end0
    exact ⟨rfl, S.out⟩
theorem blk_cells {w : World} {g : Nat} {T : TypeId} {q v : Value} (h : Blk w g T #[q, v]) : w.cell? ⟨g, 0, none⟩ = some q ∧ w.cell? ⟨g, 1, none⟩ = some v ∧ w.frozen? ⟨g, 0, none⟩ = false ∧ w.frozen? ⟨g, 1, none⟩ = false := ⟨h.cell 0, h.cell 1, h.free 0, h.free 1⟩
set_option maxRecDepth 100000 in
set_option maxHeartbeats 1000000 in
theorem bWriteByte (T : TypeId) (hT : BldT T) (g : Nat) (l : List UInt8) (c : UInt8) (hl : l.length < 140737488355328) :
    Tr Try.prog 73 #[bPtr g, .int .u8 c.toNat] (aBld T g l) .nilIface (aBld T g (l ++ [c])) := by
  intro w O hA
  obtain ⟨⟨q, v⟩, hA⟩ := hA
  have S := Lib.hid (Own.start hA)
  have HT := Lib.hid hT
  have hc2 : Lib.byteCells (l ++ [c]) = Lib.byteCells l ++ [.int .u8 c.toNat] := by simp [Lib.byteCells]
  have HC2 := Lib.hid hc2
  clear hA hT hc2
  unfold bPtr at *
  go_enter Try.func73, Try.ntmps73
  go_wp2_with fail
  refine (S.out.call ((bCheck T HT.out g v q).l)).mono ?_
  rintro e w1 ⟨rfl, hX⟩
  have S1 := Lib.hid hX
  clear hX S 
  obtain ⟨c0, c1, f0, f1⟩ := blk_cells (S1.out.has (Has.l (has_blk _ _ _)))
  have S2 := Lib.hid (S1.out.alloc #[.int .u8 c.toNat] 5).right.comm
  have cx : (w1.alloc (.cells #[.int .u8 c.toNat] 5)).cell? ⟨w1.heap.size, 0, none⟩ = some (.int .u8 c.toNat) := (Blk.new w1 #[.int .u8 c.toNat] 5).cell 0
  have CX : Hid (Src Try.prog 1 63 (.slice (some ⟨w1.heap.size, 0, none⟩) 1 1) 1 [.int .u8 c.toNat] (w1.alloc (.cells #[.int .u8 c.toNat] 5))) := Lib.hid (Src.ofSlice _ Try.underlying63 _ 1 1 _ rfl (append1 cx) (by intro u hu; simp at hu; subst hu; rfl))
  clear cx
  go_wp2_with (with_reducible refine wpList_append_vec rfl (.tmp 11) (.tmp 13) 63 63 rfl 5 (.int .u8 0) 1 1 Try.underlying63 byteInfo ?c1 ?c2 v l.length (Lib.byteCells l) ?c7 S2.out.vec (.slice (some ⟨w1.heap.size, 0, none⟩) 1 1) ?c8 1 [.int .u8 c.toNat] CX.out ?c3 ?c4 ?_)
  case c1 => rfl
  case c2 => decide
  case c3 => unfold maxLen; omega
  case c4 => omega
  case c7 => rfl
  case c8 => rfl
  intro v' w2 hv hc hf
  have S3 := Lib.hid (S2.out.app hv hc hf)
  obtain ⟨A', c', rfl⟩ := hv.slice
  obtain ⟨c0, c1, f0, f1⟩ := blk_cells (S3.out.has (Has.r (has_blk _ _ _)))
  clear S1 S2 hv hc hf CX
  go_wp2_with fail
  go_returns
  refine ⟨rfl, Own.exMk (true, .slice A' (l.length + 1) c') ?_⟩
  have h := (S3.out.set (Sets.r (sets_blk _ _ _ 1 (.slice A' (l.length + 1) c')))).comm
  rw [← HC2.out] at h
  rw [List.length_append]
  exact h
set_option maxRecDepth 1000000 in
set_option maxHeartbeats 1000000 in
/-- String: the bytes; the builder is given up. -/
theorem bString (T : TypeId) (g : Nat) (l : List UInt8) (hl : l ≠ []) :
    Tr Try.prog 69 #[bPtr g] (aBld T g l) (.string (ofL l)) Asn.emp := by
  intro w O hA
  obtain ⟨⟨q, v⟩, hA⟩ := hA
  obtain ⟨X, Y, hX, hY, hd, hO⟩ := hA
  have hv := hY.1
  have hOY : ∀ k, VB v k → O k := fun k hk => (hO k).2 (Or.inr ((hY.2 k).2 hk))
  obtain ⟨-, c1, -, -⟩ := blk_cells (w := w) hX.1
  have hl0 : 0 < l.length := List.length_pos_iff.2 hl
  obtain ⟨hv1, ⟨rfl, h0⟩ | ⟨b, cap, cur, rfl, hb0, hbk, hn, hc, hz, ht⟩⟩ := hY.1
  · omega
  have c2 : w.drew.cell? ⟨g, 1, none⟩ = some (.slice (some ⟨b, 0, none⟩) l.length cap) := c1
  have hcell : ∀ j x, l[j]? = some x → w.drew.cell? ((⟨b, 0, none⟩ : Addr).add j) = some (.int .u8 x.toNat) := fun j x hx => World.ownsRow.cells hv (g := b) rfl j (.int .u8 x.toNat) (by simp [Lib.byteCells, hx])
  have hSD : (Builtin.unsafeSliceData_ #[63] 148 #[.slice (some ⟨b, 0, none⟩) l.length cap]).run Try.prog w.drew = .ok (.pointer (some ⟨b, 0, none⟩)) w.drew :=
    Lib.run_unsafeSliceData_row _ _ _ _ _ _ (by omega)
  have hUS : (Builtin.unsafeString_ #[148, 3] 9 #[.pointer (some ⟨b, 0, none⟩), .int .i64 l.length]).run Try.prog w.drew = .ok (.string (ofL l)) (w.drew.freeze ⟨b, 0, none⟩ l.length) :=
    Lib.run_unsafeString_row w.drew 148 3 9 5 Try.underlying148 (by kernel_rfl) b cur.size (by have hg' : w.drew.heap[b]? = some (.cells cur 5 (0, 0)) := hbk; simp [World.shape?, hg']) l hl (by omega) (by unfold maxLen at hc; omega) hcell
  have mixed : Try.prog.follows Departure.mixedOrders = true := by kernel_rfl
  have fin : Own w O (w.drew.freeze ⟨b, 0, none⟩ l.length) Asn.emp := by
    refine ⟨⟨fun _ => False, fun _ => id, fun _ h => h.elim⟩, ?_⟩
    have : Chg O w w.drew := (Chg.refl _ _).drew
    refine this.trans (T := (· = b)) ?_ (fun i _ hi => hi ▸ hOY b rfl)
    unfold World.freeze
    split
    · exact Chg.refl _ _
    · refine ⟨rfl, rfl, rfl, by simp, fun k hk hne => ?_⟩
      simp only [Array.getElem?_modify]
      rw [if_neg (fun e => hne e.symm)]
  have FIN := Lib.hid fin
  clear fin hv1 hX hY hd hO hv hOY c1 hcell hbk hn hc hz ht
  generalize ofL l = x at *
  unfold bPtr at *
  go_enter Try.func69, Try.ntmps69
  go_wp2
  go_region_o
  all_goals
    go_wp2
    go_ret
    exact ⟨rfl, FIN.out⟩
end Go.Proofs.Yteiiogaopgfpfaa.Aid
end
