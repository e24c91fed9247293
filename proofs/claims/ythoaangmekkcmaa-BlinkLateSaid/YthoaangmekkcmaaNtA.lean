/- Texts of ours, joined. -/
import Derived.Test.YthoaangmekkcmaaAid
import Derived.Test.YthoaangmekkcmaaSep
import Derived.Test.YthoaangmekkcmaaShelf
import Derived.Test.YthoaangmekkcmaaChecked
import Derived.Lib.Builder
import Derived.Lib.MakeNoZero
import Derived.Lib.UnsafeStr
import Derived.Shelf.RegionOpenPlain
import Derived.Laws.Cover1

-- joined
section
namespace Go.Proofs.Ythoaangmekkcmaa.Nt
open Go.ChangeShapes Go.WideShapes Go.ChangeAt Go.RowKit Go.PlainAid Aid Cr
set_option linter.unusedVariables false
set_option linter.unusedSimpArgs false

/-- A row of things of two cells each. -/
def Row2 {α : Type} (f : α → Value × Value) (w : World) (v : Value) (l : List α) : Prop :=
  ∃ A c, v = .slice A l.length c ∧ l.length ≤ maxLen ∧ (l = [] ∨ ∃ b o, A = some ⟨b, o, none⟩ ∧ b < w.heap.size ∧ ∀ (k : Nat) (x : α), l[k]? = some x → w.cell? ⟨b, o + k * 2, none⟩ = some (f x).1 ∧ w.cell? ⟨b, o + k * 2 + 1, none⟩ = some (f x).2)
theorem Row2.slice {α : Type} {f : α → Value × Value} {w : World} {v : Value} {l : List α} (h : Row2 f w v l) : ∃ A c, v = .slice A l.length c := by
  obtain ⟨A, c, hv, -⟩ := h; exact ⟨A, c, hv⟩

/-! The parts. -/
/-! Image. -/
/-! Open. -/
/-! Dirty. -/
end Go.Proofs.Ythoaangmekkcmaa.Nt
end

-- joined
section
namespace Go.Proofs.Ythoaangmekkcmaa.Aid
open Go.ChangeShapes Go.WideShapes Go.ChangeAt Go.RowKit Go.PlainAid
set_option linter.unusedVariables false
set_option linter.unusedSimpArgs false
section
variable {w0 w w' : World} {O0 O : Nat → Prop} {A B C D : Asn} {P : Program}
/-- A row that grew. -/
theorem Own.app {e : TypeId} {size n n' : Nat} {v v' : Value} {xs xs' : List Value} (h : Own w0 O0 w (Asn.vec e size v n xs * C)) (hv : Vec w' e size v' n' xs') (hc : Chg (VB v) w w') (hf : Fresh w (VB v) (VB v')) : Own w0 O0 w' (Asn.vec e size v' n' xs' * C) := by
  refine h.then fun O hO => ?_
  obtain ⟨X, Y, ⟨hV, hX⟩, hC, hd, hO⟩ := hO
  have : Own w X w' (Asn.vec e size v' n' xs') := ⟨⟨VB v', ⟨hv, fun _ => Iff.rfl⟩, fun k hk => (hf k hk).imp_left (hX k).2⟩, hc.mono (fun k _ hk => (hX k).2 hk)⟩
  exact this.frame hC hd hO
theorem Own.vec {e : TypeId} {size n : Nat} {v : Value} {xs : List Value} (h : Own w0 O0 w (Asn.vec e size v n xs * C)) : Vec w e size v n xs := by
  obtain ⟨O, ⟨X, Y, hV, -⟩, -⟩ := h.ex
  exact hV.1
theorem Own.exMk {α : Type} {A : α → Asn} (a : α) (h : Own w0 O0 w (A a)) : Own w0 O0 w (Asn.ex A) := h.imp (fun _ _ h => ⟨a, h⟩)
/-- A new row, empty. -/
theorem Own.nilVec (h : Own w0 O0 w A) (e : TypeId) (size : Nat) : Own w0 O0 w (Asn.vec e size (.slice Option.none 0 0) 0 [] * A) := by
  refine h.map fun O hO => ⟨O, ⟨fun _ => False, O, ⟨Vec.nil _ _ _, fun k => ?_⟩, hO, fun _ h => h.elim, fun k => by simp⟩, fun _ => id⟩
  simp [VB, Value.ownBlock]
end

/-! The builder. -/
def bPtr (g : Nat) : Value := .pointer (some ⟨g, 0, none⟩)
def aBlk (T : TypeId) (g : Nat) (q v : Value) : Asn := Asn.blk g T #[q, v]
/-- A builder that holds the bytes l, written on. -/
def aBld (T : TypeId) (g : Nat) (l : List UInt8) : Asn := Asn.ex fun q : Bool × Value => aBlk T g (if q.1 then bPtr g else .pointer none) q.2 * Asn.vec 5 1 q.2 l.length (Lib.byteCells l)
def BldT (T : TypeId) : Prop := liesAt Try.prog Try.prog.depth T (2 / Try.prog.cellsOf T) 0 137 1 = true
theorem bldInfo : (Try.prog.info? 137).map (fun i => i.size) = some 2 := by kernel_rfl
theorem byteInfo : (Try.prog.info? 5).map (fun i => (i.zero, i.size, i.bytes)) = some (some (.int .u8 0), 1, 1) := by kernel_rfl
set_option maxRecDepth 100000 in
set_option maxHeartbeats 1000000 in
theorem bCheck (T : TypeId) (hT : BldT T) (g : Nat) (v : Value) (q : Bool) :
    Tr Try.prog 76 #[bPtr g] (aBlk T g (if q then bPtr g else .pointer none) v) (.tuple #[]) (aBlk T g (bPtr g) v) := by
  intro w O hA
  obtain ⟨j, hj, hjs⟩ := Option.map_eq_some_iff.1 bldInfo
  have hb := hA.1
  have c0 := hb.cell 0
  have f0 := hb.free 0
  have hsh : w.shape? g = some (T, 2) := by have := hA.1; simp [World.shape?, Blk] at this ⊢; rw [this]; simp
  have S := Lib.hid (Own.start hA)
  unfold bPtr at *
  cases q
  · go_enter Try.func76, Try.ntmps76
    go_wp2
    rw [Lib.run_to_unsafe w ⟨g, 0, none⟩ Try.underlying135 Try.underlying151 hj (by rw [hjs]; decide) hsh (Nat.zero_lt_succ 1)]
    simp only [Result.andThen]
    rw [Oper.upon_value]
    go_wp2
    rw [run_callFunc_extern Try.func78 (by kernel_rfl) (by kernel_rfl) (by kernel_rfl) (e := Extern.AbiNoEscape.same) (by kernel_rfl)]
    rw [Lib.run_noEscape]
    simp only [Result.andThen]
    rw [Oper.upon_value]
    go_wp2
    rw [Lib.run_from_unsafe w ⟨g, 0, none⟩ Try.underlying151 Try.underlying135 hj hsh hT]
    simp only [Result.andThen]
    rw [Oper.upon_value]
    go_wp2
    go_end0
    exact ⟨rfl, S.out.set (sets_blk _ _ _ 0 _)⟩
  · go_enter Try.func76, Try.ntmps76
    go_wp2
    rw [Lib.run_neq_ptr_same w _ Try.underlying135 hj]
    go_wp2
    go_end0
    exact ⟨rfl, S.out⟩
theorem blk_cells {w : World} {g : Nat} {T : TypeId} {q v : Value} (h : Blk w g T #[q, v]) : w.cell? ⟨g, 0, none⟩ = some q ∧ w.cell? ⟨g, 1, none⟩ = some v ∧ w.frozen? ⟨g, 0, none⟩ = false ∧ w.frozen? ⟨g, 1, none⟩ = false := ⟨h.cell 0, h.cell 1, h.free 0, h.free 1⟩
set_option maxRecDepth 100000 in
set_option maxHeartbeats 1000000 in
theorem bWriteByte (T : TypeId) (hT : BldT T) (g : Nat) (l : List UInt8) (c : UInt8) (hl : l.length < 140737488355328) :
    Tr Try.prog 74 #[bPtr g, .int .u8 c.toNat] (aBld T g l) .nilIface (aBld T g (l ++ [c])) := by
  intro w O hA
  obtain ⟨⟨q, v⟩, hA⟩ := hA
  have S := Lib.hid (Own.start hA)
  have HT := Lib.hid hT
  have hc2 : Lib.byteCells (l ++ [c]) = Lib.byteCells l ++ [.int .u8 c.toNat] := by simp [Lib.byteCells]
  have HC2 := Lib.hid hc2
  clear hA hT hc2
  unfold bPtr at *
  go_enter Try.func74, Try.ntmps74
  go_wp2_with fail
  refine (S.out.call ((bCheck T HT.out g v q).l)).mono ?_
  rintro e w1 ⟨rfl, hX⟩
  have S1 := Lib.hid hX
  clear hX S 
  obtain ⟨c0, c1, f0, f1⟩ := blk_cells (S1.out.has (Has.l (has_blk _ _ _)))
  have S2 := Lib.hid (S1.out.alloc #[.int .u8 c.toNat] 5).right.comm
  have cx : (w1.alloc (.cells #[.int .u8 c.toNat] 5)).cell? ⟨w1.heap.size, 0, none⟩ = some (.int .u8 c.toNat) := (Blk.new w1 #[.int .u8 c.toNat] 5).cell 0
  have CX : Hid (Src Try.prog 1 63 (.slice (some ⟨w1.heap.size, 0, none⟩) 1 1) 1 [.int .u8 c.toNat] (w1.alloc (.cells #[.int .u8 c.toNat] 5))) := Lib.hid (Src.ofSlice _ Try.underlying63 _ 1 1 _ rfl (append1 cx) (by intro u hu; simp at hu; subst hu; rfl))
  clear cx
  go_wp2_with (with_reducible refine wpList_append_vec rfl (.tmp 11) (.tmp 13) 63 63 rfl 5 (.int .u8 0) 1 1 Try.underlying63 byteInfo ?c1 ?c2 v l.length (Lib.byteCells l) ?c7 S2.out.vec (.slice (some ⟨w1.heap.size, 0, none⟩) 1 1) ?c8 1 [.int .u8 c.toNat] CX.out ?c3 ?c4 ?_)
  case c1 => rfl
  case c2 => decide
  case c3 => unfold maxLen; omega
  case c4 => omega
  case c7 => rfl
  case c8 => rfl
  intro v' w2 hv hc hf
  have S3 := Lib.hid (S2.out.app hv hc hf)
  obtain ⟨A', c', rfl⟩ := hv.slice
  obtain ⟨c0, c1, f0, f1⟩ := blk_cells (S3.out.has (Has.r (has_blk _ _ _)))
  clear S1 S2 hv hc hf CX
  go_wp2_with fail
  go_returns
  refine ⟨rfl, Own.exMk (true, .slice A' (l.length + 1) c') ?_⟩
  have h := (S3.out.set (Sets.r (sets_blk _ _ _ 1 (.slice A' (l.length + 1) c')))).comm
  rw [← HC2.out] at h
  rw [List.length_append]
  exact h
set_option maxRecDepth 1000000 in
set_option maxHeartbeats 1000000 in
/-- String: the bytes; the builder is given up. -/
theorem bString (T : TypeId) (g : Nat) (l : List UInt8) (hl : l ≠ []) :
    Tr Try.prog 69 #[bPtr g] (aBld T g l) (.string (ofL l)) Asn.emp := by
  intro w O hA
  obtain ⟨⟨q, v⟩, hA⟩ := hA
  obtain ⟨X, Y, hX, hY, hd, hO⟩ := hA
  have hv := hY.1
  have hOY : ∀ k, VB v k → O k := fun k hk => (hO k).2 (Or.inr ((hY.2 k).2 hk))
  obtain ⟨-, c1, -, -⟩ := blk_cells (w := w) hX.1
  have hl0 : 0 < l.length := List.length_pos_iff.2 hl
  obtain ⟨hv1, ⟨rfl, h0⟩ | ⟨b, cap, cur, rfl, hb0, hbk, hn, hc, hz, ht⟩⟩ := hY.1
  · omega
  have c2 : w.drew.cell? ⟨g, 1, none⟩ = some (.slice (some ⟨b, 0, none⟩) l.length cap) := c1
  have hcell : ∀ j x, l[j]? = some x → w.drew.cell? ((⟨b, 0, none⟩ : Addr).add j) = some (.int .u8 x.toNat) := fun j x hx => World.ownsRow.cells hv (g := b) rfl j (.int .u8 x.toNat) (by simp [Lib.byteCells, hx])
  have hSD : (Builtin.unsafeSliceData_ #[63] 149 #[.slice (some ⟨b, 0, none⟩) l.length cap]).run Try.prog w.drew = .ok (.pointer (some ⟨b, 0, none⟩)) w.drew :=
    Lib.run_unsafeSliceData_row _ _ _ _ _ _ (by omega)
  have hUS : (Builtin.unsafeString_ #[149, 3] 9 #[.pointer (some ⟨b, 0, none⟩), .int .i64 l.length]).run Try.prog w.drew = .ok (.string (ofL l)) (w.drew.freeze ⟨b, 0, none⟩ l.length) :=
    Lib.run_unsafeString_row w.drew 149 3 9 5 Try.underlying149 (by kernel_rfl) b cur.size (by have hg' : w.drew.heap[b]? = some (.cells cur 5 (0, 0)) := hbk; simp [World.shape?, hg']) l hl (by omega) (by unfold maxLen at hc; omega) hcell
  have mixed : Try.prog.follows Departure.mixedOrders = true := by kernel_rfl
  have fin : Own w O (w.drew.freeze ⟨b, 0, none⟩ l.length) Asn.emp := by
    refine ⟨⟨fun _ => False, fun _ => id, fun _ h => h.elim⟩, ?_⟩
    have : Chg O w w.drew := (Chg.refl _ _).drew
    refine this.trans (T := (· = b)) ?_ (fun i _ hi => hi ▸ hOY b rfl)
    unfold World.freeze
    split
    · exact Chg.refl _ _
    · refine ⟨rfl, rfl, rfl, by simp, fun k hk hne => ?_⟩
      simp only [Array.getElem?_modify]
      rw [if_neg (fun e => hne e.symm)]
  have FIN := Lib.hid fin
  clear fin hv1 hX hY hd hO hv hOY c1 hcell hbk hn hc hz ht
  generalize ofL l = x at *
  unfold bPtr at *
  go_enter Try.func69, Try.ntmps69
  go_wp2
  go_region_o
  all_goals
    go_wp2
    go_ret
    exact ⟨rfl, FIN.out⟩
end Go.Proofs.Ythoaangmekkcmaa.Aid
end

-- joined
section
namespace Go.Proofs.Ythoaangmekkcmaa.Nt
open Go.ChangeShapes Go.WideShapes Go.ChangeAt Go.RowKit Go.PlainAid Aid Cr
set_option linter.unusedVariables false
set_option linter.unusedSimpArgs false
theorem ofL_take (l : By) (n : Nat) : (ofL l).extract 0 n = ofL (l.take n) := by
  apply list_inj; rw [Lib.extract_data, List.drop_zero, Nat.sub_zero]; rfl
theorem ofL_drop (l : By) (n : Nat) : (ofL l).extract n (ofL l).size = ofL (l.drop n) := by
  apply list_inj
  rw [Lib.extract_data, ofL_list, ofL_list, ofL_size, List.take_of_length_le]
  rw [List.length_drop]; exact Nat.le_refl _
/-- s[k:] of a string. -/
theorem slice_from {P : Program} {t : TypeId} (ht : P.underlying t = some .string) (s : ByteArray) (k : Nat) (j : Int) (hj : j = k) (h : k ≤ s.size) (w : World) : (Instr.slice t (.string s) (some (.int .i64 j)) none none).run P w = .ok (.string (s.extract k s.size)) w := by
  subst hj
  have := Go.run_slice_string_l (P := P) w t s ht .i64 (k : Int) (by omega) (by omega)
  rw [Int.toNat_natCast] at this
  exact this
/-- What goes through bytes: of type T, what is left and whether there were too few. -/
def aSt (T : TypeId) (g : Nat) (s : St) : Asn := Asn.blk g T #[.string (ofL s.rest), .bool s.bad]
theorem st_cells {w : World} {T : TypeId} {g : Nat} {a : ByteArray} {b : Bool} (h : Blk w g T #[.string a, .bool b]) : w.cell? ⟨g, 0, none⟩ = some (.string a) ∧ w.cell? ⟨g, 1, none⟩ = some (.bool b) ∧ w.frozen? ⟨g, 0, none⟩ = false ∧ w.frozen? ⟨g, 1, none⟩ = false := ⟨h.cell 0, h.cell 1, h.free 0, h.free 1⟩
theorem unnum_snoc (t : By) (k : Nat) (x : UInt8) (hx : t[k]? = some x) : unnum (t.take (k + 1)) = unnum (t.take k) + x.toNat * 256 ^ k := by
  induction t generalizing k with
  | nil => cases hx
  | cons b t ih =>
    cases k with
    | zero => simp at hx; subst hx; simp [unnum]
    | succ k =>
      simp only [List.getElem?_cons_succ] at hx
      have := ih k hx
      simp only [List.take_succ_cons, unnum, this, Nat.pow_succ, Nat.mul_add]
      rw [← Nat.mul_assoc x.toNat, Nat.mul_comm 256 (x.toNat * 256 ^ k), Nat.add_assoc]
theorem or_add (n b i : Nat) (hn : n < 2 ^ i) (hs : n + b * 2 ^ i < 9223372036854775808) : bits BinOp.or IntKind.i64 (n : Int) ((b * 2 ^ i : Nat) : Int) = ((n + b * 2 ^ i : Nat) : Int) := by
  show IntKind.i64.wrap (((BitVec.ofInt 64 (n : Int)) ||| (BitVec.ofInt 64 ((b * 2 ^ i : Nat) : Int))).toNat : Int) = _
  rw [BitVec.ofInt_natCast, BitVec.ofInt_natCast, BitVec.toNat_or, BitVec.toNat_ofNat, BitVec.toNat_ofNat, Nat.mod_eq_of_lt (by omega), Nat.mod_eq_of_lt (by omega)]
  have e : n ||| b * 2 ^ i = n + b * 2 ^ i := by
    have := Nat.two_pow_add_eq_or_of_lt hn b
    rw [Nat.or_comm, Nat.mul_comm b, ← this, Nat.add_comm]
  rw [e, IntKind.wrap_i64]
  omega
end Go.Proofs.Ythoaangmekkcmaa.Nt
end

-- joined
section
namespace Go.Proofs.Ythoaangmekkcmaa.Nt
open Go.ChangeShapes Go.WideShapes Go.ChangeAt Go.RowKit Go.PlainAid Aid Cr
set_option linter.unusedVariables false
set_option linter.unusedSimpArgs false

end Go.Proofs.Ythoaangmekkcmaa.Nt
end

-- joined
section
namespace Go.Proofs.Ythoaangmekkcmaa.Cr
open Go.ChangeShapes Go.WideShapes Go.ChangeAt Go.RowKit Go.PlainAid Aid
set_option linter.unusedVariables false
set_option linter.unusedSimpArgs false

end Go.Proofs.Ythoaangmekkcmaa.Cr
end

-- joined
section
namespace Go.Proofs.Ythoaangmekkcmaa.Cr
open Go.ChangeShapes Go.WideShapes Go.ChangeAt Go.RowKit Go.PlainAid Aid
set_option linter.unusedVariables false
set_option linter.unusedSimpArgs false

end Go.Proofs.Ythoaangmekkcmaa.Cr
end

-- joined
section
namespace Go.Proofs.Ythoaangmekkcmaa.Cr
open Go.ChangeShapes Go.WideShapes Go.ChangeAt Go.RowKit Go.PlainAid Aid
set_option linter.unusedVariables false
set_option linter.unusedSimpArgs false

end Go.Proofs.Ythoaangmekkcmaa.Cr
end

-- joined
section
namespace Go.Proofs.Ythoaangmekkcmaa.Nt
open Go.ChangeShapes Go.WideShapes Go.ChangeAt Go.RowKit Go.PlainAid Aid Cr
set_option linter.unusedVariables false
set_option linter.unusedSimpArgs false
def zeroCells : Array Value := #[.int .i64 0, .int .i64 0, .int .i64 0, .int .i64 0, .slice none 0 0, .int .i64 0, .int .i64 0, .string ⟨#[]⟩, .string ⟨#[]⟩, .slice none 0 0, .slice none 0 0]
section
variable {w0 w : World} {O0 : Nat → Prop} {A : Asn} {g : Nat} {T : TypeId} {a0 a1 a2 a3 a4 a5 a6 a7 a8 a9 a10 : Value}
theorem set_l {cs : Array Value} (h : Own w0 O0 w (Asn.blk g T cs * A)) (i : Nat) (u : Value) (cs' : Array Value) (e : cs.setIfInBounds i u = cs') : Own w0 O0 (w.setCell ⟨g, i, none⟩ u) (Asn.blk g T cs' * A) := e ▸ h.set (Sets.l (sets_blk _ _ _ i u))
end
end Go.Proofs.Ythoaangmekkcmaa.Nt
end

-- joined
section
namespace Go.Proofs.Ythoaangmekkcmaa.Nt
open Go.ChangeShapes Go.WideShapes Go.ChangeAt Go.RowKit Go.PlainAid Aid Cr
set_option linter.unusedVariables false
set_option linter.unusedSimpArgs false
end Go.Proofs.Ythoaangmekkcmaa.Nt
end
