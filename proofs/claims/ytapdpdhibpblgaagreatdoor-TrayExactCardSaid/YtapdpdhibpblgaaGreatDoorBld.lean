/- strings.Builder (alone, or the only field of a struct of type T) as what is owned. -/
import Derived.Test.YtapdpdhibpblgaaGreatDoorSep
import Derived.Test.YtapdpdhibpblgaaGreatDoorChecked
import Derived.Lib.Builder
import Derived.Lib.MakeNoZero
import Derived.Lib.UnsafeStr
import Derived.Shelf.RegionOpenPlain
namespace Go.Proofs.YtapdpdhibpblgaaGreatDoor.Aid
open Go.ChangeShapes Go.WideShapes Go.ChangeAt Go.RowKit Go.PlainAid
set_option linter.unusedVariables false
set_option linter.unusedSimpArgs false
section
variable {w0 w w' : World} {O0 O : Nat → Prop} {A B C D : Asn} {P : Program}
/-- A row that grew. -/
theorem Own.app {e : TypeId} {size n n' : Nat} {v v' : Value} {xs xs' : List Value} (h : Own w0 O0 w (Asn.vec e size v n xs * C)) (hv : Vec w' e size v' n' xs') (hc : Chg (VB v) w w') (hf : Fresh w (VB v) (VB v')) : Own w0 O0 w' (Asn.vec e size v' n' xs' * C) := by
  refine h.then fun O hO => ?_
  obtain ⟨X, Y, ⟨hV, hX⟩, hC, hd, hO⟩ := hO
  have : Own w X w' (Asn.vec e size v' n' xs') := ⟨⟨VB v', ⟨hv, fun _ => Iff.rfl⟩, fun k hk => (hf k hk).imp_left (hX k).2⟩, hc.mono (fun k _ hk => (hX k).2 hk)⟩
  exact this.frame hC hd hO
theorem Own.vec {e : TypeId} {size n : Nat} {v : Value} {xs : List Value} (h : Own w0 O0 w (Asn.vec e size v n xs * C)) : Vec w e size v n xs := by
  obtain ⟨O, ⟨X, Y, hV, -⟩, -⟩ := h.ex
  exact hV.1
theorem Own.vecR {e : TypeId} {size n : Nat} {v : Value} {xs : List Value} (h : Own w0 O0 w (C * Asn.vec e size v n xs)) : Vec w e size v n xs := h.comm.vec
theorem Own.exOpen {α : Type} {A : α → Asn} (h : Own w0 O0 w (Asn.ex A)) : ∃ a, Own w0 O0 w (A a) := by
  obtain ⟨O, ⟨a, hA⟩, hf⟩ := h.ex
  exact ⟨a, ⟨⟨O, hA, hf⟩, h.chg⟩⟩
theorem Own.exMk {α : Type} {A : α → Asn} (a : α) (h : Own w0 O0 w (A a)) : Own w0 O0 w (Asn.ex A) := h.imp (fun _ _ h => ⟨a, h⟩)
/-- A new row, empty. -/
theorem Own.nilVec (h : Own w0 O0 w A) (e : TypeId) (size : Nat) : Own w0 O0 w (Asn.vec e size (.slice Option.none 0 0) 0 [] * A) := by
  refine h.map fun O hO => ⟨O, ⟨fun _ => False, O, ⟨Vec.nil _ _ _, fun k => ?_⟩, hO, fun _ h => h.elim, fun k => by simp⟩, fun _ => id⟩
  simp [VB, Value.ownBlock]
/-- What one makes, all new. -/
theorem Own.newVec {e : TypeId} {size n : Nat} {v : Value} {xs : List Value} (h : Own w0 O0 w A) (hb : Below w.heap.size w w') (hv : Vec w' e size v n xs) (hn : ∀ k, VB v k → w.heap.size ≤ k) : Own w0 O0 w' (Asn.vec e size v n xs * A) := by
  refine h.then fun O hO => ?_
  have h2 : Own w (fun _ => False) w' (Asn.vec e size v n xs) := ⟨⟨VB v, ⟨hv, fun _ => Iff.rfl⟩, fun k hk => Or.inr (hn k hk)⟩, Chg.of_below hb⟩
  exact h2.frame hO (fun _ h => h.elim) (fun k => by simp)
end

/-! The builder. -/
def bPtr (g : Nat) : Value := .pointer (some ⟨g, 0, none⟩)
def aBlk (T : TypeId) (g : Nat) (q v : Value) : Asn := Asn.blk g T #[q, v]
/-- A builder that holds the bytes l, written on. -/
def aBld (T : TypeId) (g : Nat) (l : List UInt8) : Asn := Asn.ex fun q : Bool × Value => aBlk T g (if q.1 then bPtr g else .pointer none) q.2 * Asn.vec 5 1 q.2 l.length (Lib.byteCells l)
def BldT (T : TypeId) : Prop := liesAt Tryz.prog Tryz.prog.depth T (2 / Tryz.prog.cellsOf T) 0 144 1 = true
theorem bldInfo : (Tryz.prog.info? 144).map (fun i => i.size) = some 2 := by kernel_rfl
theorem byteInfo : (Tryz.prog.info? 5).map (fun i => (i.zero, i.size, i.bytes)) = some (some (.int .u8 0), 1, 1) := by kernel_rfl
set_option maxRecDepth 100000 in
set_option maxHeartbeats 1000000 in
theorem bCheck (T : TypeId) (hT : BldT T) (g : Nat) (v : Value) (q : Bool) :
    Tr Tryz.prog 107 #[bPtr g] (aBlk T g (if q then bPtr g else .pointer none) v) (.tuple #[]) (aBlk T g (bPtr g) v) := by
  intro w O hA
  obtain ⟨j, hj, hjs⟩ := Option.map_eq_some_iff.1 bldInfo
  have hb := hA.1
  have c0 := hb.cell 0
  have f0 := hb.free 0
  have hsh : w.shape? g = some (T, 2) := by have := hA.1; simp [World.shape?, Blk] at this ⊢; rw [this]; simp
  have S := Lib.hid (Own.start hA)
  unfold bPtr at *
  cases q
  · go_enter Tryz.func107, Tryz.ntmps107
    go_wp2
    rw [Lib.run_to_unsafe w ⟨g, 0, none⟩ Tryz.underlying142 Tryz.underlying215 hj (by rw [hjs]; decide) hsh (Nat.zero_lt_succ 1)]
    simp only [Result.andThen]
    rw [Oper.upon_value]
    go_wp2
    rw [run_callFunc_extern Tryz.func137 (by kernel_rfl) (by kernel_rfl) (by kernel_rfl) (e := Extern.AbiNoEscape.same) (by kernel_rfl)]
    rw [Lib.run_noEscape]
    simp only [Result.andThen]
    rw [Oper.upon_value]
    go_wp2
    rw [Lib.run_from_unsafe w ⟨g, 0, none⟩ Tryz.underlying215 Tryz.underlying142 hj hsh hT]
    simp only [Result.andThen]
    rw [Oper.upon_value]
    go_wp2
    go_end0
    exact ⟨rfl, S.out.set (sets_blk _ _ _ 0 _)⟩
  · go_enter Tryz.func107, Tryz.ntmps107
    go_wp2
    rw [Lib.run_neq_ptr_same w _ Tryz.underlying142 hj]
    go_wp2
    go_end0
    exact ⟨rfl, S.out⟩
theorem blk_cells {w : World} {g : Nat} {T : TypeId} {q v : Value} (h : Blk w g T #[q, v]) : w.cell? ⟨g, 0, none⟩ = some q ∧ w.cell? ⟨g, 1, none⟩ = some v ∧ w.frozen? ⟨g, 0, none⟩ = false ∧ w.frozen? ⟨g, 1, none⟩ = false := ⟨h.cell 0, h.cell 1, h.free 0, h.free 1⟩
set_option maxRecDepth 100000 in
set_option maxHeartbeats 1000000 in
theorem bWriteByte (T : TypeId) (hT : BldT T) (g : Nat) (l : List UInt8) (c : UInt8) (hl : l.length < 140737488355328) :
    Tr Tryz.prog 109 #[bPtr g, .int .u8 c.toNat] (aBld T g l) .nilIface (aBld T g (l ++ [c])) := by
  intro w O hA
  obtain ⟨⟨q, v⟩, hA⟩ := hA
  have S := Lib.hid (Own.start hA)
  have HT := Lib.hid hT
  have hc2 : Lib.byteCells (l ++ [c]) = Lib.byteCells l ++ [.int .u8 c.toNat] := by simp [Lib.byteCells]
  have HC2 := Lib.hid hc2
  clear hA hT hc2
  unfold bPtr at *
  go_enter Tryz.func109, Tryz.ntmps109
  go_wp2_with fail
  refine (S.out.call ((bCheck T HT.out g v q).l)).mono ?_
  rintro e w1 ⟨rfl, hX⟩
  have S1 := Lib.hid hX
  clear hX S 
  obtain ⟨c0, c1, f0, f1⟩ := blk_cells (S1.out.has (Has.l (has_blk _ _ _)))
  have S2 := Lib.hid (S1.out.alloc #[.int .u8 c.toNat] 5).right.comm
  have cx : (w1.alloc (.cells #[.int .u8 c.toNat] 5)).cell? ⟨w1.heap.size, 0, none⟩ = some (.int .u8 c.toNat) := (Blk.new w1 #[.int .u8 c.toNat] 5).cell 0
  have CX : Hid (Src Tryz.prog 1 138 (.slice (some ⟨w1.heap.size, 0, none⟩) 1 1) 1 [.int .u8 c.toNat] (w1.alloc (.cells #[.int .u8 c.toNat] 5))) := Lib.hid (Src.ofSlice _ Tryz.underlying138 _ 1 1 _ rfl (append1 cx) (by intro u hu; simp at hu; subst hu; rfl))
  clear cx
  go_wp2_with (with_reducible refine wpList_append_vec rfl (.tmp 11) (.tmp 13) 138 138 rfl 5 (.int .u8 0) 1 1 Tryz.underlying138 byteInfo ?c1 ?c2 v l.length (Lib.byteCells l) ?c7 S2.out.vec (.slice (some ⟨w1.heap.size, 0, none⟩) 1 1) ?c8 1 [.int .u8 c.toNat] CX.out ?c3 ?c4 ?_)
  case c1 => rfl
  case c2 => decide
  case c3 => unfold maxLen; omega
  case c4 => omega
  case c7 => rfl
  case c8 => rfl
  intro v' w2 hv hc hf
  have S3 := Lib.hid (S2.out.app hv hc hf)
  obtain ⟨A', c', rfl⟩ := hv.slice
  obtain ⟨c0, c1, f0, f1⟩ := blk_cells (S3.out.has (Has.r (has_blk _ _ _)))
  clear S1 S2 hv hc hf CX
  go_wp2_with fail
  go_returns
  refine ⟨rfl, Own.exMk (true, .slice A' (l.length + 1) c') ?_⟩
  have h := (S3.out.set (Sets.r (sets_blk _ _ _ 1 (.slice A' (l.length + 1) c')))).comm
  rw [← HC2.out] at h
  rw [List.length_append]
  exact h
set_option maxRecDepth 100000 in
set_option maxHeartbeats 1000000 in
theorem bWriteString (T : TypeId) (hT : BldT T) (g : Nat) (l s : List UInt8) (hl : l.length + s.length ≤ 140737488355328) :
    Tr Tryz.prog 111 #[bPtr g, .string (ofL s)] (aBld T g l) (.tuple #[.int .i64 s.length, .nilIface]) (aBld T g (l ++ s)) := by
  intro w O hA
  obtain ⟨⟨q, v⟩, hA⟩ := hA
  have S := Lib.hid (Own.start hA)
  have HT := Lib.hid hT
  have hc2 : Lib.byteCells (l ++ s) = Lib.byteCells l ++ byteCells (ofL s) := by rw [byteCells_eq, byteCells_append]; rfl
  have HC2 := Lib.hid hc2
  have hz : (ofL s).size = s.length := rfl
  have HZ := Lib.hid hz
  rw [← hz] at hl ⊢
  clear hA hT hc2 hz
  generalize ofL s = x at *
  unfold bPtr at *
  go_enter Tryz.func111, Tryz.ntmps111
  go_wp2_with fail
  refine (S.out.call ((bCheck T HT.out g v q).l)).mono ?_
  rintro e w1 ⟨rfl, hX⟩
  have S1 := Lib.hid hX
  clear hX S 
  obtain ⟨c0, c1, f0, f1⟩ := blk_cells (S1.out.has (Has.l (has_blk _ _ _)))
  have S2 := Lib.hid S1.out.comm
  go_wp2_with (with_reducible refine wpList_append_vec rfl (.tmp 12) (.tmp 13) 138 9 rfl 5 (.int .u8 0) 1 1 Tryz.underlying138 byteInfo ?c1 ?c2 v l.length (Lib.byteCells l) ?c7 S2.out.vec (.string x) ?c8 x.size (byteCells x) (Src.ofString _ Tryz.underlying9 x) ?c3 ?c4 ?_)
  case c1 => rfl
  case c2 => decide
  case c3 => unfold maxLen; omega
  case c4 => omega
  case c7 => rfl
  case c8 => rfl
  intro v' w2 hv hc hf
  have S3 := Lib.hid (S2.out.app hv hc hf)
  obtain ⟨A', c', rfl⟩ := hv.slice
  obtain ⟨c0, c1, f0, f1⟩ := blk_cells (S3.out.has (Has.r (has_blk _ _ _)))
  clear S1 S2 hv hc hf
  go_wp2_with fail
  go_returns
  refine ⟨rfl, Own.exMk (true, .slice A' (l.length + x.size) c') ?_⟩
  have h := (S3.out.set (Sets.r (sets_blk _ _ _ 1 (.slice A' (l.length + x.size) c')))).comm
  rw [← HC2.out] at h
  rw [List.length_append, ← HZ.out]
  exact h
set_option maxRecDepth 100000 in
set_option maxHeartbeats 1000000 in
theorem b_grow (T : TypeId) (g n : Nat) (hn : n ≤ 281474976710656) :
    Tr Tryz.prog 108 #[bPtr g, .int .i64 n] (aBlk T g (bPtr g) (.slice none 0 0)) (.tuple #[]) (aBld T g []) := by
  intro w O hA
  obtain ⟨cs, hrun, hle, hmax⟩ := Lib.run_makeNoZero (P := Tryz.prog) w.drew #[3] 138 5 Tryz.underlying138 n hn
  have hcs := hmax (by unfold maxLen; omega)
  have hw : IntKind.i64.wrap (IntKind.i64.wrap 0 + (n : Int)) = n := by
    rw [IntKind.wrap_i64, IntKind.wrap_i64]
    omega
  have hcall : (callFunc 138 #[.int .i64 (IntKind.i64.wrap (IntKind.i64.wrap 0 + (n : Int)))]).run Tryz.prog w.drew = .ok (.value (.slice (some ⟨w.drew.heap.size, 0, none⟩) n cs.size)) (w.drew.drew.drew.alloc (.cells cs 5)) := by
    rw [hw, run_callFunc_extern Tryz.func138 (by kernel_rfl) (by kernel_rfl) (by kernel_rfl) (e := Extern.BytealgMakeNoZero.makeNoZero #[3] #[138]) (by kernel_rfl), hrun]
    rfl
  have hcall2 : (callFunc 138 #[.int .i64 n]).run Tryz.prog w.drew = .ok (.value (.slice (some ⟨w.drew.heap.size, 0, none⟩) n cs.size)) (w.drew.drew.drew.alloc (.cells cs 5)) := by
    rw [hw] at hcall; exact hcall
  have S := Lib.hid (Own.start hA)
  have bb : Below w.heap.size w (w.drew.drew.drew.alloc (.cells cs 5)) := blA (Below.drew (Below.drew (Below.drew (Below.refl _ _)))) _
  have hvec : Vec (w.drew.drew.drew.alloc (.cells cs 5)) 5 1 (.slice (some ⟨w.heap.size, 0, none⟩) 0 cs.size) 0 [] :=
    ⟨rfl, Or.inr ⟨w.heap.size, cs.size, cs, rfl, Nat.zero_le _, heap_alloc_new w.drew.drew.drew _, Nat.zero_le _, hcs, by omega, by simp⟩⟩
  have S1 := Lib.hid (S.out.newVec bb hvec (fun k hk => by simp only [VB, Value.ownBlock, Option.some.injEq] at hk; omega))
  have hd : Own w O w.drew (aBlk T g (bPtr g) (.slice none 0 0)) := S.out.drew
  obtain ⟨-, c1, -, -⟩ := blk_cells (hd.has (has_blk _ _ _))
  obtain ⟨-, c2, -, f2⟩ := blk_cells (S1.out.has (Has.r (has_blk _ _ _)))
  have c3 : (w.alloc (.cells cs 5)).cell? ⟨g, 1, none⟩ = some (.slice none 0 0) := c2
  have f3 : (w.alloc (.cells cs 5)).frozen? ⟨g, 1, none⟩ = false := f2
  have mixed : Tryz.prog.follows Departure.mixedOrders = true := by kernel_rfl
  have hcopy : ∀ W : World, (Builtin.copy_ #[138, 138] 3 #[.slice (some ⟨w.heap.size, 0, none⟩) 0 cs.size, .slice none 0 0]).run Tryz.prog W = .ok (goInt 0) W :=
    fun W => run_copy_none W 138 138 3 5 _ _ 0 cs.size 0 0 Tryz.underlying138 (by kernel_rfl) rfl
  clear hw hrun hle hmax hA hd bb hvec
  unfold bPtr at *
  go_enter Tryz.func108, Tryz.ntmps108
  go_wp2
  go_region_o
  all_goals
    go_wp2
    go_end0
    exact ⟨rfl, Own.exMk (true, .slice (some ⟨w.heap.size, 0, none⟩) 0 cs.size) (S1.out.set (Sets.r (sets_blk _ _ _ 1 (.slice (some ⟨w.heap.size, 0, none⟩) 0 cs.size)))).comm⟩
set_option maxRecDepth 1000000 in
set_option maxHeartbeats 1000000 in
/-- Grow, of a builder that hasn't been written. -/
theorem bGrow (T : TypeId) (hT : BldT T) (g n : Nat) (hn0 : 0 < n) (hn : n ≤ 281474976710656) :
    Tr Tryz.prog 61 #[bPtr g, .int .i64 n] (aBlk T g (.pointer none) (.slice none 0 0)) (.tuple #[]) (aBld T g []) := by
  intro w O hA
  have S := Lib.hid (Own.start hA)
  have HT := Lib.hid hT
  have HG := Lib.hid (b_grow T g n hn)
  have mixed : Tryz.prog.follows Departure.mixedOrders = true := by kernel_rfl
  have hn1 : (0 : Int) < n := by omega
  clear hA hT
  unfold bPtr at *
  go_enter Tryz.func61, Tryz.ntmps61
  go_wp2_with fail
  refine (S.out.call (bCheck T HT.out g (.slice none 0 0) false)).mono ?_
  rintro e w1 ⟨rfl, hX⟩
  have S1 := Lib.hid hX
  clear hX S 
  obtain ⟨c0, c1, f0, f1⟩ := blk_cells (S1.out.has (has_blk _ _ _))
  go_wp2_with fail
  go_quiet (fail)
  have S2 := Lib.hid (S1.out.drewN nq)
  clear c0 c1 f0 f1 S1
  generalize w1.drewN nq = w2 at *
  go_wp2_with fail
  refine (S2.out.call HG.out).mono ?_
  rintro e w3 ⟨rfl, h3⟩
  have S3 := Lib.hid h3
  clear h3 S2
  go_wp2_with fail
  go_end0
  exact ⟨rfl, S3.out⟩
set_option maxRecDepth 1000000 in
set_option maxHeartbeats 1000000 in
/-- String: the bytes; the builder is given up. -/
theorem bString (T : TypeId) (g : Nat) (l : List UInt8) (hl : l ≠ []) :
    Tr Tryz.prog 66 #[bPtr g] (aBld T g l) (.string (ofL l)) Asn.emp := by
  intro w O hA
  obtain ⟨⟨q, v⟩, hA⟩ := hA
  obtain ⟨X, Y, hX, hY, hd, hO⟩ := hA
  have hv := hY.1
  have hOY : ∀ k, VB v k → O k := fun k hk => (hO k).2 (Or.inr ((hY.2 k).2 hk))
  obtain ⟨-, c1, -, -⟩ := blk_cells (w := w) hX.1
  have hl0 : 0 < l.length := List.length_pos_iff.2 hl
  obtain ⟨hv1, ⟨rfl, h0⟩ | ⟨b, cap, cur, rfl, hb0, hbk, hn, hc, hz, ht⟩⟩ := hY.1
  · omega
  have c2 : w.drew.cell? ⟨g, 1, none⟩ = some (.slice (some ⟨b, 0, none⟩) l.length cap) := c1
  have hcell : ∀ j x, l[j]? = some x → w.drew.cell? ((⟨b, 0, none⟩ : Addr).add j) = some (.int .u8 x.toNat) := fun j x hx => World.ownsRow.cells hv (g := b) rfl j (.int .u8 x.toNat) (by simp [Lib.byteCells, hx])
  have hSD : (Builtin.unsafeSliceData_ #[138] 199 #[.slice (some ⟨b, 0, none⟩) l.length cap]).run Tryz.prog w.drew = .ok (.pointer (some ⟨b, 0, none⟩)) w.drew :=
    Lib.run_unsafeSliceData_row _ _ _ _ _ _ (by omega)
  have hUS : (Builtin.unsafeString_ #[199, 3] 9 #[.pointer (some ⟨b, 0, none⟩), .int .i64 l.length]).run Tryz.prog w.drew = .ok (.string (ofL l)) (w.drew.freeze ⟨b, 0, none⟩ l.length) :=
    Lib.run_unsafeString_row w.drew 199 3 9 5 Tryz.underlying199 (by kernel_rfl) b cur.size (by have hg' : w.drew.heap[b]? = some (.cells cur 5 (0, 0)) := hbk; simp [World.shape?, hg']) l hl (by omega) (by unfold maxLen at hc; omega) hcell
  have mixed : Tryz.prog.follows Departure.mixedOrders = true := by kernel_rfl
  have fin : Own w O (w.drew.freeze ⟨b, 0, none⟩ l.length) Asn.emp := by
    refine ⟨⟨fun _ => False, fun _ => id, fun _ h => h.elim⟩, ?_⟩
    have : Chg O w w.drew := (Chg.refl _ _).drew
    refine this.trans (T := (· = b)) ?_ (fun i _ hi => hi ▸ hOY b rfl)
    unfold World.freeze
    split
    · exact Chg.refl _ _
    · refine ⟨rfl, rfl, rfl, by simp, fun k hk hne => ?_⟩
      simp only [Array.getElem?_modify]
      rw [if_neg (fun e => hne e.symm)]
  have FIN := Lib.hid fin
  clear fin hv1 hX hY hd hO hv hOY c1 hcell hbk hn hc hz ht
  generalize ofL l = x at *
  unfold bPtr at *
  go_enter Tryz.func66, Tryz.ntmps66
  go_wp2
  go_region_o
  all_goals
    go_wp2
    go_ret
    exact ⟨rfl, FIN.out⟩
end Go.Proofs.YtapdpdhibpblgaaGreatDoor.Aid
