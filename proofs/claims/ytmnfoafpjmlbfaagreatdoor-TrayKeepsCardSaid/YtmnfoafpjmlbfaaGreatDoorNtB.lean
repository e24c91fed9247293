/- Texts of ours, joined. -/
import Derived.Test.YtmnfoafpjmlbfaaGreatDoorNtA
import Derived.Test.YtmnfoafpjmlbfaaGreatDoorShelf
import Derived.Laws.Cover1

-- joined
section
namespace Go.Proofs.YtmnfoafpjmlbfaaGreatDoor.Nt
open Go.ChangeShapes Go.WideShapes Go.ChangeAt Go.RowKit Go.PlainAid Aid Cr
set_option linter.unusedVariables false
set_option linter.unusedSimpArgs false

/-- A record that a call holds for itself. -/
def aRec (g : Nat) (r : Rec) (p o d : Value) : Asn := Asn.blk g 50 (recCells r p o d)
theorem rec_cells {w : World} {g : Nat} {r : Rec} {p o d : Value} (h : Blk w g 50 (recCells r p o d)) :
    w.cell? ⟨g, 0, none⟩ = some (.int .i64 r.kind) ∧ w.cell? ⟨g, 1, none⟩ = some (.int .i64 r.deal) ∧ w.cell? ⟨g, 2, none⟩ = some (.int .i64 r.prev) ∧ w.cell? ⟨g, 3, none⟩ = some (.int .i64 r.next) ∧ w.cell? ⟨g, 4, none⟩ = some p ∧
    w.cell? ⟨g, 5, none⟩ = some (.int .i64 r.und.kind) ∧ w.cell? ⟨g, 6, none⟩ = some (.int .i64 r.und.tree) ∧ w.cell? ⟨g, 7, none⟩ = some (.string (ofL r.und.key)) ∧ w.cell? ⟨g, 8, none⟩ = some (.string (ofL r.und.val)) ∧ w.cell? ⟨g, 9, none⟩ = some o ∧ w.cell? ⟨g, 10, none⟩ = some d :=
  ⟨h.cell 0, h.cell 1, h.cell 2, h.cell 3, h.cell 4, h.cell 5, h.cell 6, h.cell 7, h.cell 8, h.cell 9, h.cell 10⟩
theorem ofL_sz (l : By) : (ofL l).size = l.length := rfl

set_option maxHeartbeats 2000000 in
theorem Good_any (r : Rec) (v : Value) (w : World) (hv : RecAt w v r) :
    Calls Tryz.prog 69 #[v] w fun e w' => e = .returned (.bool (goodB r)) ∧ Below w.heap.size w w' := by
  obtain ⟨p, o, d, rfl, hp, ho, hd⟩ := hv
  obtain ⟨A1, m1, rfl⟩ := hp.slice
  obtain ⟨A2, m2, rfl⟩ := ho.slice
  obtain ⟨A3, m3, rfl⟩ := hd.slice
  have S := Lib.hid ((Own.none w).alloc (recCells r (.slice A1 r.pages.length m1) (.slice A2 r.opn.length m2) (.slice A3 r.dty.length m3)) 50).left
  obtain ⟨c0, c1, c2, c3, -, c5, c6, c7, c8, -, -⟩ := rec_cells (S.out.has (has_blk _ _ _))
  have e0 := fun w => within_any r.kind 1 6 w
  have e1 := fun w => isNumber_any r.deal w
  have e2 := fun w => isNumber_any r.prev w
  have e3 := fun w => isNumber_any r.next w
  have e4 := fun w => goodUndo_any r.und w
  have E5 : Hid (∀ w', Below w.heap.size w w' → _) := Lib.hid (fun w' (hb : Below w.heap.size w w') => goodListImage_any A1 _ m1 8 r.pages w' (hp.keep hb))
  have E6 : Hid (∀ w', Below w.heap.size w w' → _) := Lib.hid (fun w' (hb : Below w.heap.size w w') => goodListOpen_any A2 _ m2 16 r.opn w' (ho.keep hb))
  have E7 : Hid (∀ w', Below w.heap.size w w' → _) := Lib.hid (fun w' (hb : Below w.heap.size w w') => goodListDirty_any A3 _ m3 256 r.dty w' (hd.keep hb))
  have hg : goodB r = ((decide (1 ≤ r.kind) && decide (r.kind ≤ 6)) && inN r.deal 2147483647 && inN r.prev 2147483647 && inN r.next 2147483647 && gUnd r.und &&
    (decide ((r.pages.length : Int) ≤ 8) && r.pages.all gImg) && (decide ((r.opn.length : Int) ≤ 16) && r.opn.all gOpn) && (decide ((r.dty.length : Int) ≤ 256) && r.dty.all gDty)) := by
    unfold goodB
    simp only [show ((r.pages.length : Int) ≤ 8) = (r.pages.length ≤ 8) by simp; omega, show ((r.opn.length : Int) ≤ 16) = (r.opn.length ≤ 16) by simp; omega, show ((r.dty.length : Int) ≤ 256) = (r.dty.length ≤ 256) by simp; omega]
  rw [hg]
  clear hp ho hd hg
  unfold undV at e4
  generalize (decide (1 ≤ r.kind) && decide (r.kind ≤ 6)) = b0 at *
  generalize inN r.deal 2147483647 = b1 at *
  generalize inN r.prev 2147483647 = b2 at *
  generalize inN r.next 2147483647 = b3 at *
  generalize gUnd r.und = b4 at *
  generalize (decide ((r.pages.length : Int) ≤ 8) && r.pages.all gImg) = b5 at *
  generalize (decide ((r.opn.length : Int) ≤ 16) && r.opn.all gOpn) = b6 at *
  generalize (decide ((r.dty.length : Int) ≤ 256) && r.dty.all gDty) = b7 at *
  unfold goodImageF goodOpenF goodDirtyF at *
  unfold recCells at *
  go_enter Tryz.func69, Tryz.ntmps69
  go_wp2_with fail
  obtain ⟨g, hgz⟩ : ∃ g, g = w.heap.size := ⟨_, rfl⟩
  rw [← hgz] at S ⊢ c0 c1 c2 c3 c5 c6 c7 c8
  clear hgz
  generalize w.alloc _ = w1 at *
  refine (e0 _).mono ?_
  rintro e w' ⟨rfl, rfl⟩
  cases b0
  · go_wp2_with fail
    go_returns
    exact ⟨rfl, S.out.bel⟩
  go_wp2_with fail
  refine (e1 _).mono ?_
  rintro e w' ⟨rfl, rfl⟩
  cases b1
  · go_wp2_with fail
    go_returns
    exact ⟨rfl, S.out.bel⟩
  go_wp2_with fail
  refine (e2 _).mono ?_
  rintro e w' ⟨rfl, rfl⟩
  cases b2
  · go_wp2_with fail
    go_returns
    exact ⟨rfl, S.out.bel⟩
  go_wp2_with fail
  refine (e3 _).mono ?_
  rintro e w' ⟨rfl, rfl⟩
  cases b3
  · go_wp2_with fail
    go_returns
    exact ⟨rfl, S.out.bel⟩
  go_wp2_with fail
  refine (e4 _).mono ?_
  rintro e w2 ⟨rfl, hX⟩
  have S2 := Lib.hid (S.out.below hX)
  clear hX S c0 c1 c2 c3 c5 c6 c7 c8
  cases b4
  · go_wp2_with fail
    go_returns
    exact ⟨rfl, S2.out.bel⟩
  obtain ⟨-, -, -, -, c4, -, -, -, -, -, -⟩ := rec_cells (S2.out.has (has_blk _ _ _))
  go_wp2_with fail
  refine (E5.out _ S2.out.bel).mono ?_
  rintro e w3 ⟨rfl, hX⟩
  have S3 := Lib.hid (S2.out.below hX)
  clear hX S2 c4
  cases b5
  · go_wp2_with fail
    go_returns
    exact ⟨rfl, S3.out.bel⟩
  obtain ⟨-, -, -, -, -, -, -, -, -, c9, -⟩ := rec_cells (S3.out.has (has_blk _ _ _))
  go_wp2_with fail
  refine (E6.out _ S3.out.bel).mono ?_
  rintro e w4 ⟨rfl, hX⟩
  have S4 := Lib.hid (S3.out.below hX)
  clear hX S3 c9
  cases b6
  · go_wp2_with fail
    go_returns
    exact ⟨rfl, S4.out.bel⟩
  obtain ⟨-, -, -, -, -, -, -, -, -, -, c10⟩ := rec_cells (S4.out.has (has_blk _ _ _))
  go_wp2_with fail
  refine (E7.out _ S4.out.bel).mono ?_
  rintro e w5 ⟨rfl, hX⟩
  have S5 := Lib.hid (S4.out.below hX)
  clear hX S4 c10
  go_wp2_with fail
  go_returns
  exact ⟨ret_bool (by cases b7 <;> rfl), S5.out.bel⟩

set_option maxHeartbeats 2000000 in
theorem sizeOf_any (r : Rec) (hr : Goods r) (v : Value) (w : World) (hv : RecAt w v r) :
    Calls Tryz.prog 71 #[v] w fun e w' => e = .returned (.int .i64 (sizeR r)) ∧ Below w.heap.size w w' := by
  obtain ⟨p, o, d, rfl, hp, ho, hd⟩ := hv
  obtain ⟨A1, m1, rfl⟩ := hp.slice
  obtain ⟨A2, m2, rfl⟩ := ho.slice
  obtain ⟨A3, m3, rfl⟩ := hd.slice
  have B0 : Hid (Below w.heap.size w (w.alloc (.cells (recCells r (.slice A1 r.pages.length m1) (.slice A2 r.opn.length m2) (.slice A3 r.dty.length m3)) 50))) := Lib.hid (blA (Below.refl _ _) _)
  have he : (sizeR r : Int) = 29 + (ofL r.und.key).size + (ofL r.und.val).size + 258 * (r.pages.length : Int) + 8 * (r.opn.length : Int) + 6 * (r.dty.length : Int) := by
    rw [ofL_sz, ofL_sz]; unfold sizeR; omega
  rw [he]
  have h1 := hr.key
  have h2 := hr.val
  rw [← ofL_sz] at h1 h2
  have h3 := hr.pl
  have h4 := hr.ol
  have h5 := hr.dl
  clear hp ho hd he
  unfold recCells at *
  generalize ofL r.und.key = a at *
  generalize ofL r.und.val = b at *
  generalize r.pages.length = n1 at *
  generalize r.opn.length = n2 at *
  generalize r.dty.length = n3 at *
  go_enter Tryz.func71, Tryz.ntmps71
  go_wp2_with fail
  go_returns
  exact ⟨ret_int (by omega), B0.out⟩
end Go.Proofs.YtmnfoafpjmlbfaaGreatDoor.Nt
end

-- joined
section
namespace Go.Proofs.YtmnfoafpjmlbfaaGreatDoor.Cr
open Go.ChangeShapes Go.WideShapes Go.ChangeAt Go.RowKit Go.PlainAid Aid
set_option linter.unusedVariables false
set_option linter.unusedSimpArgs false

theorem crc_nine : crc (⟨#[49, 50, 51, 52, 53, 54, 55, 56, 57]⟩ : ByteArray).data.toList = 3421780262#32 := by decide +kernel
theorem crc_none : crc (⟨#[]⟩ : ByteArray).data.toList = 0#32 := by decide +kernel
theorem tail_1234 : tailS 67305985#32 = ⟨#[1, 2, 3, 4]⟩ := by decide +kernel

end Go.Proofs.YtmnfoafpjmlbfaaGreatDoor.Cr
end

-- joined
section
namespace Go.Proofs.YtmnfoafpjmlbfaaGreatDoor.Cr
open Go.ChangeShapes Go.WideShapes Go.ChangeAt Go.RowKit Go.PlainAid Aid
set_option linter.unusedVariables false
set_option linter.unusedSimpArgs false

theorem bx8 (x y : UInt8) : bits BinOp.xor IntKind.u8 (x.toNat : Int) (y.toNat : Int) = ((x ^^^ y).toNat : Int) := by
  show IntKind.u8.wrap (((BitVec.ofInt 8 (x.toNat : Int)) ^^^ (BitVec.ofInt 8 (y.toNat : Int))).toNat : Int) = _
  rw [BitVec.ofInt_natCast, BitVec.ofInt_natCast, IntKind.wrap_u8, UInt8.toNat_xor, BitVec.toNat_xor, BitVec.toNat_ofNat, BitVec.toNat_ofNat]
  have h1 := x.toNat_lt; have h2 := y.toNat_lt
  rw [Nat.mod_eq_of_lt h1, Nat.mod_eq_of_lt h2]
  have := Nat.xor_lt_two_pow (n := 8) (x := x.toNat) (y := y.toNat) (by omega) (by omega)
  omega
def zip3 (a b c : List UInt8) (k : Nat) : List UInt8 := List.zipWith (· ^^^ ·) (List.zipWith (· ^^^ ·) (a.take k) (b.take k)) (c.take k)
theorem zip3_length (a b c : List UInt8) (k : Nat) (ha : k ≤ a.length) (hb : k ≤ b.length) (hc : k ≤ c.length) : (zip3 a b c k).length = k := by
  unfold zip3; simp only [List.length_zipWith, List.length_take]; omega
theorem zip3_snoc (a b c : List UInt8) (k : Nat) (x y z : UInt8) (hx : a[k]? = some x) (hy : b[k]? = some y) (hz : c[k]? = some z) : zip3 a b c (k + 1) = zip3 a b c k ++ [x ^^^ y ^^^ z] := by
  have ha := (List.getElem?_eq_some_iff.1 hx).1
  have hb := (List.getElem?_eq_some_iff.1 hy).1
  have hc := (List.getElem?_eq_some_iff.1 hz).1
  unfold zip3
  rw [List.take_add_one, List.take_add_one, List.take_add_one, hx, hy, hz]
  simp only [Option.toList_some]
  rw [List.zipWith_append (by simp only [List.length_take]; omega), List.zipWith_append (by simp only [List.length_zipWith, List.length_take]; omega)]
  rfl
theorem crc_zip3 (a b c : List UInt8) (k : Nat) (ha : k ≤ a.length) (hb : k ≤ b.length) (hc : k ≤ c.length) : crc (zip3 a b c k) = crc (a.take k) ^^^ crc (b.take k) ^^^ crc (c.take k) :=
  crc_xor3 _ _ _ (by simp only [List.length_take]; omega) (by simp only [List.length_take]; omega)
theorem byteAt (s : ByteArray) (k : Nat) (h : k < s.size) : ∃ x, s.data.toList[k]? = some x ∧ bt s k = (x.toNat : Int) := by
  have hl : k < s.data.toList.length := by rw [← Lib.size_eq]; exact h
  exact ⟨s.data.toList[k], List.getElem?_eq_getElem hl, by rw [bt_list, List.getD, List.getElem?_eq_getElem hl]; rfl⟩
theorem info_u8 : (Tryz.prog.info? 5).map (fun i => (i.zero, i.size, i.bytes)) = some (some (.int .u8 0), 1, 1) := by kernel_rfl

end Go.Proofs.YtmnfoafpjmlbfaaGreatDoor.Cr
end

-- joined
section
namespace Go.Proofs.YtmnfoafpjmlbfaaGreatDoor.Cr
open Go.ChangeShapes Go.WideShapes Go.ChangeAt Go.RowKit Go.PlainAid Aid
set_option linter.unusedVariables false
set_option linter.unusedSimpArgs false

theorem bodyL (s : ByteArray) : (bodyS s).data.toList = s.data.toList.take (s.size - 4) := by unfold bodyS; rw [Lib.extract_data, List.drop_zero, Nat.sub_zero]
theorem endL (s : ByteArray) (h : 4 ≤ s.size) : (endS s).data.toList = s.data.toList.drop (s.size - 4) := by
  unfold endS; rw [Lib.extract_data, List.take_of_length_le]
  rw [List.length_drop, ← Lib.size_eq]; omega
theorem sealL (s : ByteArray) : (sealS s).data.toList = s.data.toList ++ tailL (crc s.data.toList) := by
  unfold sealS; rw [ByteArray.data_append, Array.toList_append]; rfl
theorem body_seal (s : ByteArray) : bodyS (sealS s) = s := by
  apply list_inj
  rw [bodyL, sealS_size, sealL, Nat.add_sub_cancel, List.take_append_of_le_length (by rw [← Lib.size_eq]; exact Nat.le_refl _), List.take_of_length_le (by rw [← Lib.size_eq]; exact Nat.le_refl _)]
theorem end_seal (s : ByteArray) : endS (sealS s) = tailS (crc s.data.toList) := by
  apply list_inj
  rw [endL _ (by rw [sealS_size]; omega), sealS_size, sealL, Nat.add_sub_cancel, List.drop_append_of_le_length (by rw [← Lib.size_eq]; exact Nat.le_refl _), List.drop_of_length_le (by rw [← Lib.size_eq]; exact Nat.le_refl _)]
  rfl
theorem open_seal (s : ByteArray) : openV (sealS s) = .tuple #[.string s, .bool true] := by
  unfold openV isSealed
  rw [body_seal, end_seal, decide_eq_true rfl, sealS_size, decide_eq_true (by omega)]
  rfl
/-- Where bytes are opened, their state is the one of all sealed bytes. -/
theorem sealed_st (t : ByteArray) (h : isSealed t = true) : st ones t.data.toList = advs 32 ones := by
  unfold isSealed at h
  rw [Bool.and_eq_true, decide_eq_true_eq, decide_eq_true_eq] at h
  have hb := bodyL t
  have he := endL t h.1
  rw [h.2] at he
  have : t.data.toList = (bodyS t).data.toList ++ tailL (crc (bodyS t).data.toList) := by
    rw [show tailL (crc (bodyS t).data.toList) = (tailS (crc (bodyS t).data.toList)).data.toList from rfl, he, hb, List.take_append_drop]
  rw [this, st_seal]

/-- Bytes of which the bits of a mask are turned, one after another. -/
def turnL (l : List UInt8) (K : Nat) (m : BitVec 32) : Nat → List UInt8
  | 0 => l
  | j + 1 => (turnL l K m j).set (K + j) ((turnL l K m j).getD (K + j) 0 ^^^ byteOf m j)
theorem turnL_length (l : List UInt8) (K : Nat) (m : BitVec 32) (j : Nat) : (turnL l K m j).length = l.length := by
  induction j with
  | zero => rfl
  | succ j ih => rw [turnL, List.length_set, ih]
theorem turnL_four (p q : List UInt8) (a0 a1 a2 a3 : UInt8) (m : BitVec 32) : turnL (p ++ [a0, a1, a2, a3] ++ q) p.length m 4 = p ++ List.zipWith (· ^^^ ·) [a0, a1, a2, a3] (tailL m) ++ q := by
  have g : ∀ (x : List UInt8) (j : Nat), (p ++ x).getD (p.length + j) 0 = x.getD j 0 := fun x j => by
    simp only [List.getD]; rw [List.getElem?_append_right (by omega)]; congr 2; omega
  have s : ∀ (x : List UInt8) (j : Nat) (u : UInt8), (p ++ x).set (p.length + j) u = p ++ x.set j u := fun x j u => by
    rw [List.set_append_right _ _ (by omega)]; congr 2; omega
  rw [List.append_assoc, List.append_assoc]
  simp only [turnL, g, s]
  rfl
theorem four (l : List UInt8) (K : Nat) (h : K + 4 ≤ l.length) : ∃ p q a0 a1 a2 a3, l = p ++ [a0, a1, a2, a3] ++ q ∧ p.length = K := by
  have hd : (l.drop K).length ≥ 4 := by rw [List.length_drop]; omega
  match hm : l.drop K, hd with
  | a0 :: a1 :: a2 :: a3 :: q, _ =>
    refine ⟨l.take K, q, a0, a1, a2, a3, ?_, by rw [List.length_take]; omega⟩
    conv => lhs; rw [← List.take_append_drop K l, hm]
    simp
/-- WHAT WAS TURNED ISN'T OPENED. -/
theorem told (s : ByteArray) (K : Nat) (m : BitVec 32) (hK : K ≤ s.size) (hm : m ≠ 0#32) : isSealed (ofL (turnL (sealS s).data.toList K m 4)) = false := by
  cases hq : isSealed (ofL (turnL (sealS s).data.toList K m 4)) with
  | false => rfl
  | true =>
    have h1 := sealed_st _ hq
    have h2 := st_seal s.data.toList
    rw [← sealL] at h2
    obtain ⟨p, q, a0, a1, a2, a3, hl, hp⟩ := four (sealS s).data.toList K (by rw [← Lib.size_eq, sealS_size]; omega)
    rw [ofL_list, hl, ← hp, turnL_four] at h1
    rw [hl] at h2
    exact absurd (turned_told p q [a0, a1, a2, a3] [] m _ (zip_turn _ _ _ m rfl rfl) (h1.trans h2.symm)) hm
theorem turn_none (l : List UInt8) (K : Nat) (h : K + 4 ≤ l.length) : turnL l K 0#32 4 = l := by
  obtain ⟨p, q, a0, a1, a2, a3, rfl, rfl⟩ := four l K h
  rw [turnL_four]
  have : tailL 0#32 = [0, 0, 0, 0] := by decide
  rw [this]
  simp

end Go.Proofs.YtmnfoafpjmlbfaaGreatDoor.Cr
end
