/- Texts of ours, joined. -/
import Derived.Test.YtapdpdhibpblgaaGreatDoorNtA
import Derived.Test.YtapdpdhibpblgaaGreatDoorCrC
import Derived.Laws.Cover1
import Derived.Test.YtapdpdhibpblgaaGreatDoorNtR

-- joined
section
namespace Go.Proofs.YtapdpdhibpblgaaGreatDoor.Nt
open Go.ChangeShapes Go.WideShapes Go.ChangeAt Go.RowKit Go.PlainAid Aid Cr
set_option linter.unusedVariables false
set_option linter.unusedSimpArgs false

/-- A record that a call holds for itself. -/
def aRec (g : Nat) (r : Rec) (p o d : Value) : Asn := Asn.blk g 50 (recCells r p o d)
theorem rec_cells {w : World} {g : Nat} {r : Rec} {p o d : Value} (h : Blk w g 50 (recCells r p o d)) :
    w.cell? ⟨g, 0, none⟩ = some (.int .i64 r.kind) ∧ w.cell? ⟨g, 1, none⟩ = some (.int .i64 r.deal) ∧ w.cell? ⟨g, 2, none⟩ = some (.int .i64 r.prev) ∧ w.cell? ⟨g, 3, none⟩ = some (.int .i64 r.next) ∧ w.cell? ⟨g, 4, none⟩ = some p ∧
    w.cell? ⟨g, 5, none⟩ = some (.int .i64 r.und.kind) ∧ w.cell? ⟨g, 6, none⟩ = some (.int .i64 r.und.tree) ∧ w.cell? ⟨g, 7, none⟩ = some (.string (ofL r.und.key)) ∧ w.cell? ⟨g, 8, none⟩ = some (.string (ofL r.und.val)) ∧ w.cell? ⟨g, 9, none⟩ = some o ∧ w.cell? ⟨g, 10, none⟩ = some d :=
  ⟨h.cell 0, h.cell 1, h.cell 2, h.cell 3, h.cell 4, h.cell 5, h.cell 6, h.cell 7, h.cell 8, h.cell 9, h.cell 10⟩
theorem ofL_sz (l : By) : (ofL l).size = l.length := rfl

set_option maxHeartbeats 2000000 in
theorem Good_any (r : Rec) (v : Value) (w : World) (hv : RecAt w v r) :
    Calls Tryz.prog 60 #[v] w fun e w' => e = .returned (.bool (goodB r)) ∧ Below w.heap.size w w' := by
  obtain ⟨p, o, d, rfl, hp, ho, hd⟩ := hv
  obtain ⟨A1, m1, rfl⟩ := hp.slice
  obtain ⟨A2, m2, rfl⟩ := ho.slice
  obtain ⟨A3, m3, rfl⟩ := hd.slice
  have S := Lib.hid ((Own.none w).alloc (recCells r (.slice A1 r.pages.length m1) (.slice A2 r.opn.length m2) (.slice A3 r.dty.length m3)) 50).left
  obtain ⟨c0, c1, c2, c3, -, c5, c6, c7, c8, -, -⟩ := rec_cells (S.out.has (has_blk _ _ _))
  have e0 := fun w => within_any r.kind 1 6 w
  have e1 := fun w => isNumber_any r.deal w
  have e2 := fun w => isNumber_any r.prev w
  have e3 := fun w => isNumber_any r.next w
  have e4 := fun w => goodUndo_any r.und w
  have E5 : Hid (∀ w', Below w.heap.size w w' → _) := Lib.hid (fun w' (hb : Below w.heap.size w w') => goodListImage_any A1 _ m1 8 r.pages w' (hp.keep hb))
  have E6 : Hid (∀ w', Below w.heap.size w w' → _) := Lib.hid (fun w' (hb : Below w.heap.size w w') => goodListOpen_any A2 _ m2 16 r.opn w' (ho.keep hb))
  have E7 : Hid (∀ w', Below w.heap.size w w' → _) := Lib.hid (fun w' (hb : Below w.heap.size w w') => goodListDirty_any A3 _ m3 256 r.dty w' (hd.keep hb))
  have hg : goodB r = ((decide (1 ≤ r.kind) && decide (r.kind ≤ 6)) && inN r.deal 2147483647 && inN r.prev 2147483647 && inN r.next 2147483647 && gUnd r.und &&
    (decide ((r.pages.length : Int) ≤ 8) && r.pages.all gImg) && (decide ((r.opn.length : Int) ≤ 16) && r.opn.all gOpn) && (decide ((r.dty.length : Int) ≤ 256) && r.dty.all gDty)) := by
    unfold goodB
    simp only [show ((r.pages.length : Int) ≤ 8) = (r.pages.length ≤ 8) by simp; omega, show ((r.opn.length : Int) ≤ 16) = (r.opn.length ≤ 16) by simp; omega, show ((r.dty.length : Int) ≤ 256) = (r.dty.length ≤ 256) by simp; omega]
  rw [hg]
  clear hp ho hd hg
  unfold undV at e4
  generalize (decide (1 ≤ r.kind) && decide (r.kind ≤ 6)) = b0 at *
  generalize inN r.deal 2147483647 = b1 at *
  generalize inN r.prev 2147483647 = b2 at *
  generalize inN r.next 2147483647 = b3 at *
  generalize gUnd r.und = b4 at *
  generalize (decide ((r.pages.length : Int) ≤ 8) && r.pages.all gImg) = b5 at *
  generalize (decide ((r.opn.length : Int) ≤ 16) && r.opn.all gOpn) = b6 at *
  generalize (decide ((r.dty.length : Int) ≤ 256) && r.dty.all gDty) = b7 at *
  unfold goodImageF goodOpenF goodDirtyF at *
  unfold recCells at *
  go_enter Tryz.func60, Tryz.ntmps60
  go_wp2_with fail
  obtain ⟨g, hgz⟩ : ∃ g, g = w.heap.size := ⟨_, rfl⟩
  rw [← hgz] at S ⊢ c0 c1 c2 c3 c5 c6 c7 c8
  clear hgz
  generalize w.alloc _ = w1 at *
  refine (e0 _).mono ?_
  rintro e w' ⟨rfl, rfl⟩
  cases b0
  · go_wp2_with fail
    go_returns
    exact ⟨rfl, S.out.bel⟩
  go_wp2_with fail
  refine (e1 _).mono ?_
  rintro e w' ⟨rfl, rfl⟩
  cases b1
  · go_wp2_with fail
    go_returns
    exact ⟨rfl, S.out.bel⟩
  go_wp2_with fail
  refine (e2 _).mono ?_
  rintro e w' ⟨rfl, rfl⟩
  cases b2
  · go_wp2_with fail
    go_returns
    exact ⟨rfl, S.out.bel⟩
  go_wp2_with fail
  refine (e3 _).mono ?_
  rintro e w' ⟨rfl, rfl⟩
  cases b3
  · go_wp2_with fail
    go_returns
    exact ⟨rfl, S.out.bel⟩
  go_wp2_with fail
  refine (e4 _).mono ?_
  rintro e w2 ⟨rfl, hX⟩
  have S2 := Lib.hid (S.out.below hX)
  clear hX S c0 c1 c2 c3 c5 c6 c7 c8
  cases b4
  · go_wp2_with fail
    go_returns
    exact ⟨rfl, S2.out.bel⟩
  obtain ⟨-, -, -, -, c4, -, -, -, -, -, -⟩ := rec_cells (S2.out.has (has_blk _ _ _))
  go_wp2_with fail
  refine (E5.out _ S2.out.bel).mono ?_
  rintro e w3 ⟨rfl, hX⟩
  have S3 := Lib.hid (S2.out.below hX)
  clear hX S2 c4
  cases b5
  · go_wp2_with fail
    go_returns
    exact ⟨rfl, S3.out.bel⟩
  obtain ⟨-, -, -, -, -, -, -, -, -, c9, -⟩ := rec_cells (S3.out.has (has_blk _ _ _))
  go_wp2_with fail
  refine (E6.out _ S3.out.bel).mono ?_
  rintro e w4 ⟨rfl, hX⟩
  have S4 := Lib.hid (S3.out.below hX)
  clear hX S3 c9
  cases b6
  · go_wp2_with fail
    go_returns
    exact ⟨rfl, S4.out.bel⟩
  obtain ⟨-, -, -, -, -, -, -, -, -, -, c10⟩ := rec_cells (S4.out.has (has_blk _ _ _))
  go_wp2_with fail
  refine (E7.out _ S4.out.bel).mono ?_
  rintro e w5 ⟨rfl, hX⟩
  have S5 := Lib.hid (S4.out.below hX)
  clear hX S4 c10
  go_wp2_with fail
  go_returns
  exact ⟨ret_bool (by cases b7 <;> rfl), S5.out.bel⟩

set_option maxHeartbeats 2000000 in
theorem sizeOf_any (r : Rec) (hr : Goods r) (v : Value) (w : World) (hv : RecAt w v r) :
    Calls Tryz.prog 62 #[v] w fun e w' => e = .returned (.int .i64 (sizeR r)) ∧ Below w.heap.size w w' := by
  obtain ⟨p, o, d, rfl, hp, ho, hd⟩ := hv
  obtain ⟨A1, m1, rfl⟩ := hp.slice
  obtain ⟨A2, m2, rfl⟩ := ho.slice
  obtain ⟨A3, m3, rfl⟩ := hd.slice
  have B0 : Hid (Below w.heap.size w (w.alloc (.cells (recCells r (.slice A1 r.pages.length m1) (.slice A2 r.opn.length m2) (.slice A3 r.dty.length m3)) 50))) := Lib.hid (blA (Below.refl _ _) _)
  have he : (sizeR r : Int) = 29 + (ofL r.und.key).size + (ofL r.und.val).size + 258 * (r.pages.length : Int) + 8 * (r.opn.length : Int) + 6 * (r.dty.length : Int) := by
    rw [ofL_sz, ofL_sz]; unfold sizeR; omega
  rw [he]
  have h1 := hr.key
  have h2 := hr.val
  rw [← ofL_sz] at h1 h2
  have h3 := hr.pl
  have h4 := hr.ol
  have h5 := hr.dl
  clear hp ho hd he
  unfold recCells at *
  generalize ofL r.und.key = a at *
  generalize ofL r.und.val = b at *
  generalize r.pages.length = n1 at *
  generalize r.opn.length = n2 at *
  generalize r.dty.length = n3 at *
  go_enter Tryz.func62, Tryz.ntmps62
  go_wp2_with fail
  go_returns
  exact ⟨ret_int (by omega), B0.out⟩
end Go.Proofs.YtapdpdhibpblgaaGreatDoor.Nt
end

-- joined
section
namespace Go.Proofs.YtapdpdhibpblgaaGreatDoor.Cr
open Go.ChangeShapes Go.WideShapes Go.ChangeAt Go.RowKit Go.PlainAid Aid
set_option linter.unusedVariables false
set_option linter.unusedSimpArgs false

theorem crc_nine : crc (⟨#[49, 50, 51, 52, 53, 54, 55, 56, 57]⟩ : ByteArray).data.toList = 3421780262#32 := by decide +kernel
theorem crc_none : crc (⟨#[]⟩ : ByteArray).data.toList = 0#32 := by decide +kernel
theorem tail_1234 : tailS 67305985#32 = ⟨#[1, 2, 3, 4]⟩ := by decide +kernel

end Go.Proofs.YtapdpdhibpblgaaGreatDoor.Cr
end

-- joined
section
namespace Go.Proofs.YtapdpdhibpblgaaGreatDoor.Cr
open Go.ChangeShapes Go.WideShapes Go.ChangeAt Go.RowKit Go.PlainAid Aid
set_option linter.unusedVariables false
set_option linter.unusedSimpArgs false

theorem bx8 (x y : UInt8) : bits BinOp.xor IntKind.u8 (x.toNat : Int) (y.toNat : Int) = ((x ^^^ y).toNat : Int) := by
  show IntKind.u8.wrap (((BitVec.ofInt 8 (x.toNat : Int)) ^^^ (BitVec.ofInt 8 (y.toNat : Int))).toNat : Int) = _
  rw [BitVec.ofInt_natCast, BitVec.ofInt_natCast, IntKind.wrap_u8, UInt8.toNat_xor, BitVec.toNat_xor, BitVec.toNat_ofNat, BitVec.toNat_ofNat]
  have h1 := x.toNat_lt; have h2 := y.toNat_lt
  rw [Nat.mod_eq_of_lt h1, Nat.mod_eq_of_lt h2]
  have := Nat.xor_lt_two_pow (n := 8) (x := x.toNat) (y := y.toNat) (by omega) (by omega)
  omega
def zip3 (a b c : List UInt8) (k : Nat) : List UInt8 := List.zipWith (· ^^^ ·) (List.zipWith (· ^^^ ·) (a.take k) (b.take k)) (c.take k)
theorem zip3_length (a b c : List UInt8) (k : Nat) (ha : k ≤ a.length) (hb : k ≤ b.length) (hc : k ≤ c.length) : (zip3 a b c k).length = k := by
  unfold zip3; simp only [List.length_zipWith, List.length_take]; omega
theorem zip3_snoc (a b c : List UInt8) (k : Nat) (x y z : UInt8) (hx : a[k]? = some x) (hy : b[k]? = some y) (hz : c[k]? = some z) : zip3 a b c (k + 1) = zip3 a b c k ++ [x ^^^ y ^^^ z] := by
  have ha := (List.getElem?_eq_some_iff.1 hx).1
  have hb := (List.getElem?_eq_some_iff.1 hy).1
  have hc := (List.getElem?_eq_some_iff.1 hz).1
  unfold zip3
  rw [List.take_add_one, List.take_add_one, List.take_add_one, hx, hy, hz]
  simp only [Option.toList_some]
  rw [List.zipWith_append (by simp only [List.length_take]; omega), List.zipWith_append (by simp only [List.length_zipWith, List.length_take]; omega)]
  rfl
theorem crc_zip3 (a b c : List UInt8) (k : Nat) (ha : k ≤ a.length) (hb : k ≤ b.length) (hc : k ≤ c.length) : crc (zip3 a b c k) = crc (a.take k) ^^^ crc (b.take k) ^^^ crc (c.take k) :=
  crc_xor3 _ _ _ (by simp only [List.length_take]; omega) (by simp only [List.length_take]; omega)
theorem byteAt (s : ByteArray) (k : Nat) (h : k < s.size) : ∃ x, s.data.toList[k]? = some x ∧ bt s k = (x.toNat : Int) := by
  have hl : k < s.data.toList.length := by rw [← Lib.size_eq]; exact h
  exact ⟨s.data.toList[k], List.getElem?_eq_getElem hl, by rw [bt_list, List.getD, List.getElem?_eq_getElem hl]; rfl⟩
theorem info_u8 : (Tryz.prog.info? 5).map (fun i => (i.zero, i.size, i.bytes)) = some (some (.int .u8 0), 1, 1) := by kernel_rfl

end Go.Proofs.YtapdpdhibpblgaaGreatDoor.Cr
end

-- joined
section
namespace Go.Proofs.YtapdpdhibpblgaaGreatDoor.Cr
open Go.ChangeShapes Go.WideShapes Go.ChangeAt Go.RowKit Go.PlainAid Aid
set_option linter.unusedVariables false
set_option linter.unusedSimpArgs false

theorem bodyL (s : ByteArray) : (bodyS s).data.toList = s.data.toList.take (s.size - 4) := by unfold bodyS; rw [Lib.extract_data, List.drop_zero, Nat.sub_zero]
theorem endL (s : ByteArray) (h : 4 ≤ s.size) : (endS s).data.toList = s.data.toList.drop (s.size - 4) := by
  unfold endS; rw [Lib.extract_data, List.take_of_length_le]
  rw [List.length_drop, ← Lib.size_eq]; omega
theorem sealL (s : ByteArray) : (sealS s).data.toList = s.data.toList ++ tailL (crc s.data.toList) := by
  unfold sealS; rw [ByteArray.data_append, Array.toList_append]; rfl
theorem body_seal (s : ByteArray) : bodyS (sealS s) = s := by
  apply list_inj
  rw [bodyL, sealS_size, sealL, Nat.add_sub_cancel, List.take_append_of_le_length (by rw [← Lib.size_eq]; exact Nat.le_refl _), List.take_of_length_le (by rw [← Lib.size_eq]; exact Nat.le_refl _)]
theorem end_seal (s : ByteArray) : endS (sealS s) = tailS (crc s.data.toList) := by
  apply list_inj
  rw [endL _ (by rw [sealS_size]; omega), sealS_size, sealL, Nat.add_sub_cancel, List.drop_append_of_le_length (by rw [← Lib.size_eq]; exact Nat.le_refl _), List.drop_of_length_le (by rw [← Lib.size_eq]; exact Nat.le_refl _)]
  rfl
theorem open_seal (s : ByteArray) : openV (sealS s) = .tuple #[.string s, .bool true] := by
  unfold openV isSealed
  rw [body_seal, end_seal, decide_eq_true rfl, sealS_size, decide_eq_true (by omega)]
  rfl
/-- Where bytes are opened, their state is the one of all sealed bytes. -/
theorem sealed_st (t : ByteArray) (h : isSealed t = true) : st ones t.data.toList = advs 32 ones := by
  unfold isSealed at h
  rw [Bool.and_eq_true, decide_eq_true_eq, decide_eq_true_eq] at h
  have hb := bodyL t
  have he := endL t h.1
  rw [h.2] at he
  have : t.data.toList = (bodyS t).data.toList ++ tailL (crc (bodyS t).data.toList) := by
    rw [show tailL (crc (bodyS t).data.toList) = (tailS (crc (bodyS t).data.toList)).data.toList from rfl, he, hb, List.take_append_drop]
  rw [this, st_seal]

/-- Bytes of which the bits of a mask are turned, one after another. -/
def turnL (l : List UInt8) (K : Nat) (m : BitVec 32) : Nat → List UInt8
  | 0 => l
  | j + 1 => (turnL l K m j).set (K + j) ((turnL l K m j).getD (K + j) 0 ^^^ byteOf m j)
theorem turnL_length (l : List UInt8) (K : Nat) (m : BitVec 32) (j : Nat) : (turnL l K m j).length = l.length := by
  induction j with
  | zero => rfl
  | succ j ih => rw [turnL, List.length_set, ih]
theorem turnL_four (p q : List UInt8) (a0 a1 a2 a3 : UInt8) (m : BitVec 32) : turnL (p ++ [a0, a1, a2, a3] ++ q) p.length m 4 = p ++ List.zipWith (· ^^^ ·) [a0, a1, a2, a3] (tailL m) ++ q := by
  have g : ∀ (x : List UInt8) (j : Nat), (p ++ x).getD (p.length + j) 0 = x.getD j 0 := fun x j => by
    simp only [List.getD]; rw [List.getElem?_append_right (by omega)]; congr 2; omega
  have s : ∀ (x : List UInt8) (j : Nat) (u : UInt8), (p ++ x).set (p.length + j) u = p ++ x.set j u := fun x j u => by
    rw [List.set_append_right _ _ (by omega)]; congr 2; omega
  rw [List.append_assoc, List.append_assoc]
  simp only [turnL, g, s]
  rfl
theorem four (l : List UInt8) (K : Nat) (h : K + 4 ≤ l.length) : ∃ p q a0 a1 a2 a3, l = p ++ [a0, a1, a2, a3] ++ q ∧ p.length = K := by
  have hd : (l.drop K).length ≥ 4 := by rw [List.length_drop]; omega
  match hm : l.drop K, hd with
  | a0 :: a1 :: a2 :: a3 :: q, _ =>
    refine ⟨l.take K, q, a0, a1, a2, a3, ?_, by rw [List.length_take]; omega⟩
    conv => lhs; rw [← List.take_append_drop K l, hm]
    simp
/-- WHAT WAS TURNED ISN'T OPENED. -/
theorem told (s : ByteArray) (K : Nat) (m : BitVec 32) (hK : K ≤ s.size) (hm : m ≠ 0#32) : isSealed (ofL (turnL (sealS s).data.toList K m 4)) = false := by
  cases hq : isSealed (ofL (turnL (sealS s).data.toList K m 4)) with
  | false => rfl
  | true =>
    have h1 := sealed_st _ hq
    have h2 := st_seal s.data.toList
    rw [← sealL] at h2
    obtain ⟨p, q, a0, a1, a2, a3, hl, hp⟩ := four (sealS s).data.toList K (by rw [← Lib.size_eq, sealS_size]; omega)
    rw [ofL_list, hl, ← hp, turnL_four] at h1
    rw [hl] at h2
    exact absurd (turned_told p q [a0, a1, a2, a3] [] m _ (zip_turn _ _ _ m rfl rfl) (h1.trans h2.symm)) hm
theorem turn_none (l : List UInt8) (K : Nat) (h : K + 4 ≤ l.length) : turnL l K 0#32 4 = l := by
  obtain ⟨p, q, a0, a1, a2, a3, rfl, rfl⟩ := four l K h
  rw [turnL_four]
  have : tailL 0#32 = [0, 0, 0, 0] := by decide
  rw [this]
  simp

end Go.Proofs.YtapdpdhibpblgaaGreatDoor.Cr
end

-- joined
section
namespace Go.Proofs.YtapdpdhibpblgaaGreatDoor.Nt
open Go.ChangeShapes Go.WideShapes Go.ChangeAt Go.RowKit Go.PlainAid Aid Cr
set_option linter.unusedVariables false
set_option linter.unusedSimpArgs false
theorem Row2.of_vec {α : Type} (f : α → Value × Value) {w : World} {e : TypeId} {v : Value} {l : List α} (h : Vec w e 2 v l.length (cells2 f l)) : Row2 f w v l := by
  rcases h.forms with ⟨rfl, h0⟩ | ⟨g, cap, rfl, hg, hn, hc⟩
  · have : l = [] := List.eq_nil_of_length_eq_zero h0
    subst this
    exact Row2.nil f w
  · refine ⟨_, _, rfl, by omega, Or.inr ⟨g, 0, rfl, hg, fun k x hx => ?_⟩⟩
    have key : ∀ (l : List α) (k : Nat) (x : α), l[k]? = some x → (cells2 f l)[k * 2]? = some (f x).1 ∧ (cells2 f l)[k * 2 + 1]? = some (f x).2 := by
      intro l
      induction l with
      | nil => intro k x hx; cases hx
      | cons a l ih =>
        intro k x hx
        cases k with
        | zero => simp at hx; subst hx; simp [cells2]
        | succ k =>
          simp only [List.getElem?_cons_succ] at hx
          have := ih k x hx
          have e : cells2 f (a :: l) = (f a).1 :: (f a).2 :: cells2 f l := by simp [cells2]
          rw [e, show (k + 1) * 2 = k * 2 + 1 + 1 by omega]
          simpa using this
    obtain ⟨h1, h2⟩ := key l k x hx
    rw [Nat.zero_add]
    exact ⟨h.cell h1, h.cell h2⟩
/-- The three lists of a record, owned. -/
def aLists (r : Rec) (q : Value × Value × Value) : Asn := Asn.vec 181 2 q.1 r.pages.length (cells2 fImg r.pages) * (Asn.vec 185 2 q.2.1 r.opn.length (cells2 fNum r.opn) * Asn.vec 72 2 q.2.2 r.dty.length (cells2 fNum r.dty))
theorem lists_at {w0 w : World} {O0 : Nat → Prop} {r : Rec} {q : Value × Value × Value} (h : Own w0 O0 w (aLists r q)) : RecAt w (.agg (recCells r q.1 q.2.1 q.2.2)) r :=
  ⟨_, _, _, rfl, Row2.of_vec fImg h.vec, Row2.of_vec fNum h.right.vec, Row2.of_vec fNum h.right.vecR⟩
def zeroCells : Array Value := #[.int .i64 0, .int .i64 0, .int .i64 0, .int .i64 0, .slice none 0 0, .int .i64 0, .int .i64 0, .string ⟨#[]⟩, .string ⟨#[]⟩, .slice none 0 0, .slice none 0 0]
theorem eleven {w : World} {g : Nat} {T : TypeId} {a0 a1 a2 a3 a4 a5 a6 a7 a8 a9 a10 : Value} (h : Blk w g T #[a0, a1, a2, a3, a4, a5, a6, a7, a8, a9, a10]) :
    (w.cell? ⟨g, 0, none⟩ = some a0 ∧ w.cell? ⟨g, 1, none⟩ = some a1 ∧ w.cell? ⟨g, 2, none⟩ = some a2 ∧ w.cell? ⟨g, 3, none⟩ = some a3 ∧ w.cell? ⟨g, 4, none⟩ = some a4 ∧ w.cell? ⟨g, 5, none⟩ = some a5 ∧ w.cell? ⟨g, 6, none⟩ = some a6 ∧ w.cell? ⟨g, 7, none⟩ = some a7 ∧ w.cell? ⟨g, 8, none⟩ = some a8 ∧ w.cell? ⟨g, 9, none⟩ = some a9 ∧ w.cell? ⟨g, 10, none⟩ = some a10) ∧
    (w.frozen? ⟨g, 0, none⟩ = false ∧ w.frozen? ⟨g, 1, none⟩ = false ∧ w.frozen? ⟨g, 2, none⟩ = false ∧ w.frozen? ⟨g, 3, none⟩ = false ∧ w.frozen? ⟨g, 4, none⟩ = false ∧ w.frozen? ⟨g, 5, none⟩ = false ∧ w.frozen? ⟨g, 6, none⟩ = false ∧ w.frozen? ⟨g, 7, none⟩ = false ∧ w.frozen? ⟨g, 8, none⟩ = false ∧ w.frozen? ⟨g, 9, none⟩ = false ∧ w.frozen? ⟨g, 10, none⟩ = false) :=
  ⟨⟨h.cell 0, h.cell 1, h.cell 2, h.cell 3, h.cell 4, h.cell 5, h.cell 6, h.cell 7, h.cell 8, h.cell 9, h.cell 10⟩, ⟨h.free 0, h.free 1, h.free 2, h.free 3, h.free 4, h.free 5, h.free 6, h.free 7, h.free 8, h.free 9, h.free 10⟩⟩
section
variable {w0 w : World} {O0 : Nat → Prop} {A : Asn} {g : Nat} {T : TypeId} {a0 a1 a2 a3 a4 a5 a6 a7 a8 a9 a10 : Value}
theorem set_l {cs : Array Value} (h : Own w0 O0 w (Asn.blk g T cs * A)) (i : Nat) (u : Value) (cs' : Array Value) (e : cs.setIfInBounds i u = cs') : Own w0 O0 (w.setCell ⟨g, i, none⟩ u) (Asn.blk g T cs' * A) := e ▸ h.set (Sets.l (sets_blk _ _ _ i u))
/-- A block of eleven cells is written, cell for cell. -/
theorem own_eleven (h : Own w0 O0 w (Asn.blk g T #[a0, a1, a2, a3, a4, a5, a6, a7, a8, a9, a10] * A)) (b0 b1 b2 b3 b4 b5 b6 b7 b8 b9 b10 : Value) :
    Own w0 O0 (((((((((((w.setCell ⟨g, 0, none⟩ b0).setCell ⟨g, 1, none⟩ b1).setCell ⟨g, 2, none⟩ b2).setCell ⟨g, 3, none⟩ b3).setCell ⟨g, 4, none⟩ b4).setCell ⟨g, 5, none⟩ b5).setCell ⟨g, 6, none⟩ b6).setCell ⟨g, 7, none⟩ b7).setCell ⟨g, 8, none⟩ b8).setCell ⟨g, 9, none⟩ b9).setCell ⟨g, 10, none⟩ b10)
      (Asn.blk g T #[b0, b1, b2, b3, b4, b5, b6, b7, b8, b9, b10] * A) := by
  have h0 := set_l h 0 b0 #[b0, a1, a2, a3, a4, a5, a6, a7, a8, a9, a10] rfl
  have h1 := set_l h0 1 b1 #[b0, b1, a2, a3, a4, a5, a6, a7, a8, a9, a10] rfl
  have h2 := set_l h1 2 b2 #[b0, b1, b2, a3, a4, a5, a6, a7, a8, a9, a10] rfl
  have h3 := set_l h2 3 b3 #[b0, b1, b2, b3, a4, a5, a6, a7, a8, a9, a10] rfl
  have h4 := set_l h3 4 b4 #[b0, b1, b2, b3, b4, a5, a6, a7, a8, a9, a10] rfl
  have h5 := set_l h4 5 b5 #[b0, b1, b2, b3, b4, b5, a6, a7, a8, a9, a10] rfl
  have h6 := set_l h5 6 b6 #[b0, b1, b2, b3, b4, b5, b6, a7, a8, a9, a10] rfl
  have h7 := set_l h6 7 b7 #[b0, b1, b2, b3, b4, b5, b6, b7, a8, a9, a10] rfl
  have h8 := set_l h7 8 b8 #[b0, b1, b2, b3, b4, b5, b6, b7, b8, a9, a10] rfl
  have h9 := set_l h8 9 b9 #[b0, b1, b2, b3, b4, b5, b6, b7, b8, b9, a10] rfl
  have h10 := set_l h9 10 b10 #[b0, b1, b2, b3, b4, b5, b6, b7, b8, b9, b10] rfl
  exact h10
end
theorem lists_order {w0 w : World} {O0 : Nat → Prop} {A B C D : Asn} (h : Own w0 O0 w (A * (B * (C * D)))) : Own w0 O0 w ((A * (B * C)) * D) := by
  have h1 := h.assoc'.assoc'
  exact h1.imp (Imp.l (fun _ _ => sep_assoc))
set_option maxRecDepth 100000 in
set_option maxHeartbeats 4000000 in
theorem tRec (g : Nat) (s : St) :
    TrE Tryz.prog 129 #[bPtr g] (aR g s) (fun q : Value × Value × Value => .agg (recCells (pRec s).1 q.1 q.2.1 q.2.2)) (fun q => aLists (pRec s).1 q * aR g (pRec s).2) := by
  intro w O hA
  have S := Lib.hid ((Own.start hA).alloc zeroCells 50)
  obtain ⟨a, ea⟩ : ∃ a, a = pnum 1 s := ⟨_, rfl⟩
  obtain ⟨b, eb⟩ : ∃ b, b = pnum 4 a.2 := ⟨_, rfl⟩
  obtain ⟨c, ec⟩ : ∃ c, c = pnum 4 b.2 := ⟨_, rfl⟩
  obtain ⟨d, ed⟩ : ∃ d, d = pnum 4 c.2 := ⟨_, rfl⟩
  obtain ⟨e, ee⟩ : ∃ e, e = pnum 1 d.2 := ⟨_, rfl⟩
  obtain ⟨f, ef⟩ : ∃ f, f = pnum 1 e.2 := ⟨_, rfl⟩
  obtain ⟨k, ek⟩ : ∃ k, k = pText f.2 := ⟨_, rfl⟩
  obtain ⟨h, eh⟩ : ∃ h, h = pText k.2 := ⟨_, rfl⟩
  obtain ⟨i, ei⟩ : ∃ i, i = pList pImg 1 h.2 := ⟨_, rfl⟩
  obtain ⟨j, ej⟩ : ∃ j, j = pList pOpn 1 i.2 := ⟨_, rfl⟩
  obtain ⟨l, el⟩ : ∃ l, l = pList pDty 2 j.2 := ⟨_, rfl⟩
  have T1 := Lib.hid (tPnum g 1 s (by omega))
  have T2 := Lib.hid (tPnum g 4 a.2 (by omega))
  have T3 := Lib.hid (tPnum g 4 b.2 (by omega))
  have T4 := Lib.hid (tPnum g 4 c.2 (by omega))
  have T5 := Lib.hid (tPnum g 1 d.2 (by omega))
  have T6 := Lib.hid (tPnum g 1 e.2 (by omega))
  have T7 := Lib.hid (tPtext g f.2)
  have T8 := Lib.hid (tPtext g k.2)
  have T9 := Lib.hid (tListImage g 1 h.2 (by omega))
  have T10 := Lib.hid (tListOpen g 1 i.2 (by omega))
  have T11 := Lib.hid (tListDirty g 2 j.2 (by omega))
  have hr : pRec s = (⟨a.1, b.1, c.1, d.1, i.1, ⟨e.1, f.1, k.1, h.1⟩, j.1, l.1⟩, l.2) := by rw [el, ej, ei, eh, ek, ef, ee, ed, ec, eb, ea]; rfl
  rw [hr]
  unfold aLists recCells
  dsimp only
  rw [← ea] at T1; rw [← eb] at T2; rw [← ec] at T3; rw [← ed] at T4; rw [← ee] at T5; rw [← ef] at T6; rw [← ek] at T7; rw [← eh] at T8; rw [← ei] at T9; rw [← ej] at T10; rw [← el] at T11
  clear hA ea eb ec ed ee ef ek eh ei ej el hr
  have hmf : ∀ (fn : Fn) (first cap : Array Value) (w : World), (Instr.makeFunc fn first cap).run Tryz.prog w = .ok (.func fn first cap) w := fun _ _ _ _ => rfl
  unfold bPtr zeroCells at *
  go_enter Tryz.func129, Tryz.ntmps129
  go_wp2_with fail
  obtain ⟨gx, hgz⟩ : ∃ g, g = w.heap.size := ⟨_, rfl⟩
  rw [← hgz] at S ⊢
  clear hgz
  generalize w.alloc _ = w1 at *
  refine (S.out.call T1.out.r).mono ?_
  rintro e w2 ⟨rfl, hX⟩
  have S1 := Lib.hid hX
  clear hX S T1
  go_wp2_with fail
  refine (S1.out.call (T2.out.r)).mono ?_
  rintro e w3 ⟨rfl, hX⟩
  have S2 := Lib.hid hX
  clear hX S1 T2
  go_wp2_with fail
  refine (S2.out.call (T3.out.r)).mono ?_
  rintro e w4 ⟨rfl, hX⟩
  have S3 := Lib.hid hX
  clear hX S2 T3
  go_wp2_with fail
  refine (S3.out.call (T4.out.r)).mono ?_
  rintro e w5 ⟨rfl, hX⟩
  have S4 := Lib.hid hX
  clear hX S3 T4
  go_wp2_with fail
  refine (S4.out.call (T5.out.r)).mono ?_
  rintro e w6 ⟨rfl, hX⟩
  have S5 := Lib.hid hX
  clear hX S4 T5
  go_wp2_with fail
  refine (S5.out.call (T6.out.r)).mono ?_
  rintro e w7 ⟨rfl, hX⟩
  have S6 := Lib.hid hX
  clear hX S5 T6
  go_wp2_with fail
  refine (S6.out.call (T7.out.r)).mono ?_
  rintro e w8 ⟨rfl, hX⟩
  have S7 := Lib.hid hX
  clear hX S6 T7
  go_wp2_with fail
  refine (S7.out.call (T8.out.r)).mono ?_
  rintro e w9 ⟨rfl, hX⟩
  have S8 := Lib.hid hX
  clear hX S7 T8
  go_wp2_with fail
  refine (S8.out.callE T9.out.r).mono ?_
  rintro e w10 ⟨q1, rfl, hX⟩
  have S9 := Lib.hid hX
  clear hX S8 T9
  go_wp2_with fail
  refine (S9.out.callE T10.out.r.r).mono ?_
  rintro e w11 ⟨q2, rfl, hX⟩
  have S10 := Lib.hid hX
  clear hX S9 T10
  go_wp2_with fail
  refine (S10.out.callE T11.out.r.r.r).mono ?_
  rintro e w12 ⟨q3, rfl, hX⟩
  have S11 := Lib.hid hX
  clear hX S10 T11
  obtain ⟨A1, m1, rfl⟩ := S11.out.right.vec.slice
  obtain ⟨A2, m2, rfl⟩ := S11.out.right.right.vec.slice
  obtain ⟨A3, m3, rfl⟩ := S11.out.right.right.right.vec.slice
  obtain ⟨⟨c0, c1, c2, c3, c4, c5, c6, c7, c8, c9, c10⟩, f0, f1, f2, f3, f4, f5, f6, f7, f8, f9, f10⟩ := eleven (S11.out.has (Has.l (has_blk _ _ _)))
  go_wp2_with fail
  have S12 := Lib.hid (own_eleven S11.out (.int .i64 (a.1 : Nat)) (.int .i64 (b.1 : Nat)) (.int .i64 (c.1 : Nat)) (.int .i64 (d.1 : Nat)) (.slice A1 i.1.length m1) (.int .i64 (e.1 : Nat)) (.int .i64 (f.1 : Nat)) (.string (ofL k.1)) (.string (ofL h.1)) (.slice A2 j.1.length m2) (.slice A3 l.1.length m3))
  clear S11 c0 c1 c2 c3 c4 c5 c6 c7 c8 c9 c10 f0 f1 f2 f3 f4 f5 f6 f7 f8 f9 f10
  generalize World.setCell (World.setCell (World.setCell (World.setCell (World.setCell (World.setCell (World.setCell (World.setCell (World.setCell (World.setCell (World.setCell w12 _ _) _ _) _ _) _ _) _ _) _ _) _ _) _ _) _ _) _ _) _ _ = w13 at *
  obtain ⟨⟨c0, c1, c2, c3, c4, c5, c6, c7, c8, c9, c10⟩, -⟩ := eleven (S12.out.has (Has.l (has_blk _ _ _)))
  refine bodyPost_ret (v := .agg #[.int .i64 (a.1 : Nat), .int .i64 (b.1 : Nat), .int .i64 (c.1 : Nat), .int .i64 (d.1 : Nat), .slice A1 i.1.length m1, .int .i64 (e.1 : Nat), .int .i64 (f.1 : Nat), .string (ofL k.1), .string (ofL h.1), .slice A2 j.1.length m2, .slice A3 l.1.length m3]) (by simp [results, Tryz.results129, go_sem, c0, c1, c2, c3, c4, c5, c6, c7, c8, c9, c10]) rfl ⟨(.slice A1 i.1.length m1, .slice A2 j.1.length m2, .slice A3 l.1.length m3), rfl, ?_⟩
  have q := S12.out.right
  -- image * (open * (dirty * reader)), in another order
  exact lists_order q
end Go.Proofs.YtapdpdhibpblgaaGreatDoor.Nt
end

-- joined
section
namespace Go.Proofs.YtapdpdhibpblgaaGreatDoor.Nt
open Go.ChangeShapes Go.WideShapes Go.ChangeAt Go.RowKit Go.PlainAid Aid Cr
set_option linter.unusedVariables false
set_option linter.unusedSimpArgs false
theorem body_ofL (l : By) : bodyS (ofL l) = ofL (l.take (l.length - 4)) := by unfold bodyS; rw [ofL_sz, ofL_take]
theorem sealed_ofL (l : By) : isSealed (ofL l) = sealedL l := by
  unfold isSealed sealedL endS
  rw [body_ofL]
  by_cases h : 4 ≤ l.length
  · have e : (ofL l).extract ((ofL l).size - 4) (ofL l).size = ofL (l.drop (l.length - 4)) := by rw [← ofL_drop]; rfl
    rw [e, ofL_sz, decide_eq_true h, Bool.true_and, Bool.true_and]
    congr 1
    apply propext
    constructor
    · intro h; exact ofL_inj h
    · intro h; rw [h]; rfl
  · rw [ofL_sz, decide_eq_false h]; rfl
theorem pnum_few (s : By) (h : s.length < 4) : pnum 4 ⟨s, false⟩ = (0, ⟨s, true⟩) := by unfold pnum tk; rw [if_pos h]; rfl
theorem pnum_hd (s : By) (h : ¬ s.length < 4) : pnum 4 ⟨s, false⟩ = (hd s, ⟨s.drop 4, false⟩) := by unfold hd pnum tk; rw [if_neg h]
theorem Tab.own {w0 w : World} {A : Asn} (ht : Tab w0) (h : Own w0 No w A) : Tab w := by
  obtain ⟨h1, h2⟩ := ht
  have hb := h.bel
  exact ⟨by have := hb.size; omega, fun i hi => by rw [(bcell hb).1 _ _ h1]; exact h2 i hi⟩
def openN (s : By) : Value := if few s = true then .tuple #[.string ⟨#[]⟩, .bool false] else if sealedL (s.take (hd s + 8)) = false then .tuple #[.string ⟨#[]⟩, .bool false] else .tuple #[.string (ofL (inner s)), .bool true]
set_option maxRecDepth 100000 in
set_option maxHeartbeats 2000000 in
theorem open_any (s : By) (w : World) (hs : s.length ≤ 140737488355328) (ht : Tab w) :
    Calls Tryz.prog 128 #[.string (ofL s)] w fun e w' => e = .returned (openN s) ∧ Below w.heap.size w w' := by
  have HT := Lib.hid ht
  have HN := Lib.hid (fun g => tPnum g 4 ⟨s, false⟩ (by omega))
  have S := Lib.hid ((Own.none w).alloc #[.string (ofL s), .bool false] 210).left
  unfold openN
  have hz : (ofL s).size = s.length := rfl
  by_cases h4 : s.length < 4
  · rw [pnum_few s h4] at HN
    rw [if_pos (by unfold few; rw [decide_eq_true h4]; rfl)]
    unfold aR aSt at HN
    dsimp only at HN
    clear ht h4 hz hs
    generalize ofL s = x at *
    unfold bPtr at *
    go_enter Tryz.func128, Tryz.ntmps128
    go_wp2_with fail
    obtain ⟨g, hgz⟩ : ∃ g, g = w.heap.size := ⟨_, rfl⟩
    rw [← hgz] at S ⊢
    clear hgz
    generalize w.alloc _ = w1 at *
    refine (S.out.call (HN.out g)).mono ?_
    rintro e w2 ⟨rfl, hX⟩
    have S1 := Lib.hid hX
    clear hX S HN
    obtain ⟨c0, c1, -, -⟩ := st_cells (S1.out.has (has_blk _ _ _))
    go_wp2_with fail
    go_returns
    exact ⟨rfl, S1.out.bel⟩
  rw [pnum_hd s h4] at HN
  have hd4 : (ofL (s.drop 4)).size = s.length - 4 := by rw [ofL_sz, List.length_drop]
  have hhd : hd s < 4294967296 := pnum_le 4 ⟨s, false⟩
  by_cases h8 : s.length < hd s + 8
  · rw [if_pos (by unfold few; rw [decide_eq_true h8, Bool.or_true])]
    unfold aR aSt at HN
    dsimp only at HN
    have hlt : ((ofL (s.drop 4)).size : Int) - 4 < (hd s : Int) := by omega
    clear ht h4 hz h8 hd4
    generalize ofL (s.drop 4) = y at *
    generalize ofL s = x at *
    generalize hd s = n at *
    unfold bPtr at *
    go_enter Tryz.func128, Tryz.ntmps128
    go_wp2_with fail
    obtain ⟨g, hgz⟩ : ∃ g, g = w.heap.size := ⟨_, rfl⟩
    rw [← hgz] at S ⊢
    clear hgz
    generalize w.alloc _ = w1 at *
    refine (S.out.call (HN.out g)).mono ?_
    rintro e w2 ⟨rfl, hX⟩
    have S1 := Lib.hid hX
    clear hX S HN
    obtain ⟨c0, c1, -, -⟩ := st_cells (S1.out.has (has_blk _ _ _))
    go_wp2_with fail
    go_returns
    exact ⟨rfl, S1.out.bel⟩
  rw [if_neg (by simp only [few, Bool.or_eq_true, decide_eq_true_eq]; omega)]
  have hlt : ¬ ((ofL (s.drop 4)).size : Int) - 4 < (hd s : Int) := by omega
  have hyb : (ofL (s.drop 4)).size ≤ 140737488355328 := by omega
  have hl8 : (s.take (hd s + 8)).length = hd s + 8 := by rw [List.length_take]; omega
  have hs1 := slice_to (P := Tryz.prog) Tryz.underlying9 (ofL s) (hd s + 8) (4 + (hd s : Int) + 4) (by omega) (by omega)
  rw [ofL_take] at hs1
  have HO := Lib.hid (fun w' ht => Open_any (ofL (s.take (hd s + 8))) w' (by rw [ofL_sz, hl8]; omega) ht)
  have hop : openV (ofL (s.take (hd s + 8))) = if sealedL (s.take (hd s + 8)) then .tuple #[.string (ofL (s.take (hd s + 4))), .bool true] else .tuple #[.string ⟨#[]⟩, .bool false] := by
    unfold openV; rw [sealed_ofL, body_ofL, hl8, List.take_take, Nat.min_eq_left (by omega), show hd s + 8 - 4 = hd s + 4 by omega]
  rw [hop] at HO
  have hw : IntKind.i64.wrap (4 + (hd s : Int)) = 4 + (hd s : Int) := by rw [IntKind.wrap_i64]; omega
  have hw2 : IntKind.i64.wrap (4 + (hd s : Int) + 4) = 4 + (hd s : Int) + 4 := by rw [IntKind.wrap_i64]; omega
  have hl4 : (s.take (hd s + 4)).length = hd s + 4 := by rw [List.length_take]; omega
  have hs2 := slice_from (P := Tryz.prog) Tryz.underlying9 (ofL (s.take (hd s + 4))) 4 4 rfl (by rw [ofL_sz, hl4]; omega)
  rw [ofL_drop, show (s.take (hd s + 4)).drop 4 = inner s from rfl] at hs2
  unfold aR aSt at HN
  dsimp only at HN
  cases hq : sealedL (s.take (hd s + 8)) with
  | false =>
    rw [if_pos rfl]
    rw [hq, if_neg (by decide)] at HO
    clear ht h4 hz h8 hd4 hop hl8 hq hs2 hl4
    generalize ofL (s.take (hd s + 8)) = z at *
    generalize ofL (s.drop 4) = y at *
    generalize ofL s = x at *
    generalize hd s = n at *
    unfold bPtr at *
    go_enter Tryz.func128, Tryz.ntmps128
    go_wp2_with fail
    obtain ⟨g, hgz⟩ : ∃ g, g = w.heap.size := ⟨_, rfl⟩
    rw [← hgz] at S ⊢
    clear hgz
    generalize w.alloc _ = w1 at *
    refine (S.out.call (HN.out g)).mono ?_
    rintro e w2 ⟨rfl, hX⟩
    have S1 := Lib.hid hX
    clear hX S HN
    obtain ⟨c0, c1, -, -⟩ := st_cells (S1.out.has (has_blk _ _ _))
    go_wp2_with fail
    refine (HO.out _ (Tab.own HT.out S1.out)).mono ?_
    rintro e w3 ⟨rfl, hX⟩
    have S2 := Lib.hid (S1.out.below hX)
    clear hX S1 c0 c1
    go_wp2_with fail
    go_returns
    exact ⟨rfl, S2.out.bel⟩
  | true =>
    rw [if_neg (by decide)]
    rw [hq, if_pos rfl] at HO
    clear ht h4 hz h8 hd4 hop hl8 hq hl4
    generalize ofL (s.take (hd s + 8)) = z at *
    generalize ofL (s.take (hd s + 4)) = z4 at *
    generalize ofL (inner s) = u at *
    generalize ofL (s.drop 4) = y at *
    generalize ofL s = x at *
    generalize hd s = n at *
    unfold bPtr at *
    go_enter Tryz.func128, Tryz.ntmps128
    go_wp2_with fail
    obtain ⟨g, hgz⟩ : ∃ g, g = w.heap.size := ⟨_, rfl⟩
    rw [← hgz] at S ⊢
    clear hgz
    generalize w.alloc _ = w1 at *
    refine (S.out.call (HN.out g)).mono ?_
    rintro e w2 ⟨rfl, hX⟩
    have S1 := Lib.hid hX
    clear hX S HN
    obtain ⟨c0, c1, -, -⟩ := st_cells (S1.out.has (has_blk _ _ _))
    go_wp2_with fail
    refine (HO.out _ (Tab.own HT.out S1.out)).mono ?_
    rintro e w3 ⟨rfl, hX⟩
    have S2 := Lib.hid (S1.out.below hX)
    clear hX S1 c0 c1
    go_wp2_with fail
    go_returns
    exact ⟨rfl, S2.out.bel⟩
end Go.Proofs.YtapdpdhibpblgaaGreatDoor.Nt
end
