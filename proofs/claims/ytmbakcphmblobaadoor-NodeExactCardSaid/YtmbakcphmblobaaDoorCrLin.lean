import Derived.Test.YtmbakcphmblobaaDoorCrG
import Derived.Laws.Cover1
namespace Go.Proofs.YtmbakcphmblobaaDoor.Cr
open Go.ChangeShapes Go.WideShapes Go.ChangeAt Go.RowKit Go.PlainAid Aid
set_option linter.unusedVariables false
set_option linter.unusedSimpArgs false

theorem bx8 (x y : UInt8) : bits BinOp.xor IntKind.u8 (x.toNat : Int) (y.toNat : Int) = ((x ^^^ y).toNat : Int) := by
  show IntKind.u8.wrap (((BitVec.ofInt 8 (x.toNat : Int)) ^^^ (BitVec.ofInt 8 (y.toNat : Int))).toNat : Int) = _
  rw [BitVec.ofInt_natCast, BitVec.ofInt_natCast, IntKind.wrap_u8, UInt8.toNat_xor, BitVec.toNat_xor, BitVec.toNat_ofNat, BitVec.toNat_ofNat]
  have h1 := x.toNat_lt; have h2 := y.toNat_lt
  rw [Nat.mod_eq_of_lt h1, Nat.mod_eq_of_lt h2]
  have := Nat.xor_lt_two_pow (n := 8) (x := x.toNat) (y := y.toNat) (by omega) (by omega)
  omega
def zip3 (a b c : List UInt8) (k : Nat) : List UInt8 := List.zipWith (· ^^^ ·) (List.zipWith (· ^^^ ·) (a.take k) (b.take k)) (c.take k)
theorem zip3_length (a b c : List UInt8) (k : Nat) (ha : k ≤ a.length) (hb : k ≤ b.length) (hc : k ≤ c.length) : (zip3 a b c k).length = k := by
  unfold zip3; simp only [List.length_zipWith, List.length_take]; omega
theorem zip3_snoc (a b c : List UInt8) (k : Nat) (x y z : UInt8) (hx : a[k]? = some x) (hy : b[k]? = some y) (hz : c[k]? = some z) : zip3 a b c (k + 1) = zip3 a b c k ++ [x ^^^ y ^^^ z] := by
  have ha := (List.getElem?_eq_some_iff.1 hx).1
  have hb := (List.getElem?_eq_some_iff.1 hy).1
  have hc := (List.getElem?_eq_some_iff.1 hz).1
  unfold zip3
  rw [List.take_add_one, List.take_add_one, List.take_add_one, hx, hy, hz]
  simp only [Option.toList_some]
  rw [List.zipWith_append (by simp only [List.length_take]; omega), List.zipWith_append (by simp only [List.length_zipWith, List.length_take]; omega)]
  rfl
theorem crc_zip3 (a b c : List UInt8) (k : Nat) (ha : k ≤ a.length) (hb : k ≤ b.length) (hc : k ≤ c.length) : crc (zip3 a b c k) = crc (a.take k) ^^^ crc (b.take k) ^^^ crc (c.take k) :=
  crc_xor3 _ _ _ (by simp only [List.length_take]; omega) (by simp only [List.length_take]; omega)
theorem byteAt (s : ByteArray) (k : Nat) (h : k < s.size) : ∃ x, s.data.toList[k]? = some x ∧ bt s k = (x.toNat : Int) := by
  have hl : k < s.data.toList.length := by rw [← Lib.size_eq]; exact h
  exact ⟨s.data.toList[k], List.getElem?_eq_getElem hl, by rw [bt_list, List.getD, List.getElem?_eq_getElem hl]; rfl⟩
theorem info_u8 : (Tryd.prog.info? 5).map (fun i => (i.zero, i.size, i.bytes)) = some (some (.int .u8 0), 1, 1) := by kernel_rfl

end Go.Proofs.YtmbakcphmblobaaDoor.Cr
