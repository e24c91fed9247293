/- Texts of ours, joined. -/
import Derived.Test.YtaacinhmgmmcaaaDoorCrC
import Derived.Laws.Cover1

-- joined
section
namespace Go.Proofs.YtaacinhmgmmcaaaDoor.Cr
open Go.ChangeShapes Go.WideShapes Go.ChangeAt Go.RowKit Go.PlainAid Aid
set_option linter.unusedVariables false
set_option linter.unusedSimpArgs false

theorem crc_nine : crc (⟨#[49, 50, 51, 52, 53, 54, 55, 56, 57]⟩ : ByteArray).data.toList = 3421780262#32 := by decide +kernel
theorem crc_none : crc (⟨#[]⟩ : ByteArray).data.toList = 0#32 := by decide +kernel
theorem tail_1234 : tailS 67305985#32 = ⟨#[1, 2, 3, 4]⟩ := by decide +kernel

end Go.Proofs.YtaacinhmgmmcaaaDoor.Cr
end

-- joined
section
namespace Go.Proofs.YtaacinhmgmmcaaaDoor.Cr
open Go.ChangeShapes Go.WideShapes Go.ChangeAt Go.RowKit Go.PlainAid Aid
set_option linter.unusedVariables false
set_option linter.unusedSimpArgs false

theorem bx8 (x y : UInt8) : bits BinOp.xor IntKind.u8 (x.toNat : Int) (y.toNat : Int) = ((x ^^^ y).toNat : Int) := by
  show IntKind.u8.wrap (((BitVec.ofInt 8 (x.toNat : Int)) ^^^ (BitVec.ofInt 8 (y.toNat : Int))).toNat : Int) = _
  rw [BitVec.ofInt_natCast, BitVec.ofInt_natCast, IntKind.wrap_u8, UInt8.toNat_xor, BitVec.toNat_xor, BitVec.toNat_ofNat, BitVec.toNat_ofNat]
  have h1 := x.toNat_lt; have h2 := y.toNat_lt
  rw [Nat.mod_eq_of_lt h1, Nat.mod_eq_of_lt h2]
  have := Nat.xor_lt_two_pow (n := 8) (x := x.toNat) (y := y.toNat) (by omega) (by omega)
  omega
def zip3 (a b c : List UInt8) (k : Nat) : List UInt8 := List.zipWith (· ^^^ ·) (List.zipWith (· ^^^ ·) (a.take k) (b.take k)) (c.take k)
theorem zip3_length (a b c : List UInt8) (k : Nat) (ha : k ≤ a.length) (hb : k ≤ b.length) (hc : k ≤ c.length) : (zip3 a b c k).length = k := by
  unfold zip3; simp only [List.length_zipWith, List.length_take]; omega
theorem zip3_snoc (a b c : List UInt8) (k : Nat) (x y z : UInt8) (hx : a[k]? = some x) (hy : b[k]? = some y) (hz : c[k]? = some z) : zip3 a b c (k + 1) = zip3 a b c k ++ [x ^^^ y ^^^ z] := by
  have ha := (List.getElem?_eq_some_iff.1 hx).1
  have hb := (List.getElem?_eq_some_iff.1 hy).1
  have hc := (List.getElem?_eq_some_iff.1 hz).1
  unfold zip3
  rw [List.take_add_one, List.take_add_one, List.take_add_one, hx, hy, hz]
  simp only [Option.toList_some]
  rw [List.zipWith_append (by simp only [List.length_take]; omega), List.zipWith_append (by simp only [List.length_zipWith, List.length_take]; omega)]
  rfl
theorem crc_zip3 (a b c : List UInt8) (k : Nat) (ha : k ≤ a.length) (hb : k ≤ b.length) (hc : k ≤ c.length) : crc (zip3 a b c k) = crc (a.take k) ^^^ crc (b.take k) ^^^ crc (c.take k) :=
  crc_xor3 _ _ _ (by simp only [List.length_take]; omega) (by simp only [List.length_take]; omega)
theorem byteAt (s : ByteArray) (k : Nat) (h : k < s.size) : ∃ x, s.data.toList[k]? = some x ∧ bt s k = (x.toNat : Int) := by
  have hl : k < s.data.toList.length := by rw [← Lib.size_eq]; exact h
  exact ⟨s.data.toList[k], List.getElem?_eq_getElem hl, by rw [bt_list, List.getD, List.getElem?_eq_getElem hl]; rfl⟩
theorem info_u8 : (Tryd.prog.info? 5).map (fun i => (i.zero, i.size, i.bytes)) = some (some (.int .u8 0), 1, 1) := by kernel_rfl

end Go.Proofs.YtaacinhmgmmcaaaDoor.Cr
end

-- joined
section
namespace Go.Proofs.YtaacinhmgmmcaaaDoor.Cr
open Go.ChangeShapes Go.WideShapes Go.ChangeAt Go.RowKit Go.PlainAid Aid
set_option linter.unusedVariables false
set_option linter.unusedSimpArgs false

theorem bodyL (s : ByteArray) : (bodyS s).data.toList = s.data.toList.take (s.size - 4) := by unfold bodyS; rw [Lib.extract_data, List.drop_zero, Nat.sub_zero]
theorem endL (s : ByteArray) (h : 4 ≤ s.size) : (endS s).data.toList = s.data.toList.drop (s.size - 4) := by
  unfold endS; rw [Lib.extract_data, List.take_of_length_le]
  rw [List.length_drop, ← Lib.size_eq]; omega
theorem sealL (s : ByteArray) : (sealS s).data.toList = s.data.toList ++ tailL (crc s.data.toList) := by
  unfold sealS; rw [ByteArray.data_append, Array.toList_append]; rfl
theorem body_seal (s : ByteArray) : bodyS (sealS s) = s := by
  apply list_inj
  rw [bodyL, sealS_size, sealL, Nat.add_sub_cancel, List.take_append_of_le_length (by rw [← Lib.size_eq]; exact Nat.le_refl _), List.take_of_length_le (by rw [← Lib.size_eq]; exact Nat.le_refl _)]
theorem end_seal (s : ByteArray) : endS (sealS s) = tailS (crc s.data.toList) := by
  apply list_inj
  rw [endL _ (by rw [sealS_size]; omega), sealS_size, sealL, Nat.add_sub_cancel, List.drop_append_of_le_length (by rw [← Lib.size_eq]; exact Nat.le_refl _), List.drop_of_length_le (by rw [← Lib.size_eq]; exact Nat.le_refl _)]
  rfl
theorem open_seal (s : ByteArray) : openV (sealS s) = .tuple #[.string s, .bool true] := by
  unfold openV isSealed
  rw [body_seal, end_seal, decide_eq_true rfl, sealS_size, decide_eq_true (by omega)]
  rfl
/-- Where bytes are opened, their state is the one of all sealed bytes. -/
theorem sealed_st (t : ByteArray) (h : isSealed t = true) : st ones t.data.toList = advs 32 ones := by
  unfold isSealed at h
  rw [Bool.and_eq_true, decide_eq_true_eq, decide_eq_true_eq] at h
  have hb := bodyL t
  have he := endL t h.1
  rw [h.2] at he
  have : t.data.toList = (bodyS t).data.toList ++ tailL (crc (bodyS t).data.toList) := by
    rw [show tailL (crc (bodyS t).data.toList) = (tailS (crc (bodyS t).data.toList)).data.toList from rfl, he, hb, List.take_append_drop]
  rw [this, st_seal]

/-- Bytes of which the bits of a mask are turned, one after another. -/
def turnL (l : List UInt8) (K : Nat) (m : BitVec 32) : Nat → List UInt8
  | 0 => l
  | j + 1 => (turnL l K m j).set (K + j) ((turnL l K m j).getD (K + j) 0 ^^^ byteOf m j)
theorem turnL_length (l : List UInt8) (K : Nat) (m : BitVec 32) (j : Nat) : (turnL l K m j).length = l.length := by
  induction j with
  | zero => rfl
  | succ j ih => rw [turnL, List.length_set, ih]
theorem turnL_four (p q : List UInt8) (a0 a1 a2 a3 : UInt8) (m : BitVec 32) : turnL (p ++ [a0, a1, a2, a3] ++ q) p.length m 4 = p ++ List.zipWith (· ^^^ ·) [a0, a1, a2, a3] (tailL m) ++ q := by
  have g : ∀ (x : List UInt8) (j : Nat), (p ++ x).getD (p.length + j) 0 = x.getD j 0 := fun x j => by
    simp only [List.getD]; rw [List.getElem?_append_right (by omega)]; congr 2; omega
  have s : ∀ (x : List UInt8) (j : Nat) (u : UInt8), (p ++ x).set (p.length + j) u = p ++ x.set j u := fun x j u => by
    rw [List.set_append_right _ _ (by omega)]; congr 2; omega
  rw [List.append_assoc, List.append_assoc]
  simp only [turnL, g, s]
  rfl
theorem four (l : List UInt8) (K : Nat) (h : K + 4 ≤ l.length) : ∃ p q a0 a1 a2 a3, l = p ++ [a0, a1, a2, a3] ++ q ∧ p.length = K := by
  have hd : (l.drop K).length ≥ 4 := by rw [List.length_drop]; omega
  match hm : l.drop K, hd with
  | a0 :: a1 :: a2 :: a3 :: q, _ =>
    refine ⟨l.take K, q, a0, a1, a2, a3, ?_, by rw [List.length_take]; omega⟩
    conv => lhs; rw [← List.take_append_drop K l, hm]
    simp
/-- WHAT WAS TURNED ISN'T OPENED. -/
theorem told (s : ByteArray) (K : Nat) (m : BitVec 32) (hK : K ≤ s.size) (hm : m ≠ 0#32) : isSealed (ofL (turnL (sealS s).data.toList K m 4)) = false := by
  cases hq : isSealed (ofL (turnL (sealS s).data.toList K m 4)) with
  | false => rfl
  | true =>
    have h1 := sealed_st _ hq
    have h2 := st_seal s.data.toList
    rw [← sealL] at h2
    obtain ⟨p, q, a0, a1, a2, a3, hl, hp⟩ := four (sealS s).data.toList K (by rw [← Lib.size_eq, sealS_size]; omega)
    rw [ofL_list, hl, ← hp, turnL_four] at h1
    rw [hl] at h2
    exact absurd (turned_told p q [a0, a1, a2, a3] [] m _ (zip_turn _ _ _ m rfl rfl) (h1.trans h2.symm)) hm
theorem turn_none (l : List UInt8) (K : Nat) (h : K + 4 ≤ l.length) : turnL l K 0#32 4 = l := by
  obtain ⟨p, q, a0, a1, a2, a3, rfl, rfl⟩ := four l K h
  rw [turnL_four]
  have : tailL 0#32 = [0, 0, 0, 0] := by decide
  rw [this]
  simp

end Go.Proofs.YtaacinhmgmmcaaaDoor.Cr
end
