/- Texts of ours, joined. -/
import Derived.Shelf.LaysM
import Derived.Shelf.Strconv.Clone
import Derived.Test.YtmnfoafpjmlbfaaGreatDoorProg
import Derived.Test.YtmnfoafpjmlbfaaGreatDoorRow
import Derived.Test.YtmnfoafpjmlbfaaGreatDoorRows

-- joined
section
namespace Go.Proofs
open Go.Shelf
def Tryz.laysM316_ren : Go.Shelf.Ren := ⟨fun | 316 => 154 | n => n, fun | 9 => 9 | 3 => 3 | 4 => 4 | 37 => 143 | 0 => 0 | 127 => 202 | 5 => 5 | n => n, fun | n => n⟩
theorem Tryz.laysM316 : Go.Proofs.LaysM.n316 Tryz.prog Tryz.laysM316_ren := {
  mixed := by kernel_rfl
  f316 := Tryz.func154.trans (congrArg some (by kernel_rfl))
  t0 := Tryz.underlying0
  a0 := Tryz.isAgg0
  z0 := Tryz.sizeOf0
  v0 := Tryz.zeroValue0
  t3 := Tryz.underlying3
  a3 := Tryz.isAgg3
  z3 := Tryz.sizeOf3
  v3 := Tryz.zeroValue3
  t4 := Tryz.underlying4
  a4 := Tryz.isAgg4
  z4 := Tryz.sizeOf4
  v4 := Tryz.zeroValue4
  t9 := Tryz.underlying9
  a9 := Tryz.isAgg9
  z9 := Tryz.sizeOf9
  v9 := Tryz.zeroValue9
  t37 := Tryz.underlying143
  a37 := Tryz.isAgg143
  z37 := Tryz.sizeOf143
  v37 := Tryz.zeroValue143
  t127 := Tryz.underlying202
  a127 := Tryz.isAgg202
  z127 := Tryz.sizeOf202
  v127 := Tryz.zeroValue202
  t5 := Tryz.underlying5
  a5 := Tryz.isAgg5
  z5 := Tryz.sizeOf5
  v5 := Tryz.zeroValue5
  i0 := by kernel_rfl
  i3 := by kernel_rfl
  i4 := by kernel_rfl
  i5 := by kernel_rfl
  i9 := by kernel_rfl
  i37 := by kernel_rfl
  i127 := by kernel_rfl }
open Go.RowKit in
theorem Tryz.stringslite_Clone (s : ByteArray) (w : World) (hlim : s.size ≤ 281474976710656) :
    Calls Tryz.prog 154 #[.string s] w fun e w' => e = .returned (.string s) ∧ Below w.heap.size w w' := Any.stringslite_Clone Tryz.laysM316 s w hlim
end Go.Proofs
end

-- joined
section
namespace Go.Proofs.YtmnfoafpjmlbfaaGreatDoor.Cr
open Go.ChangeShapes Go.WideShapes Go.ChangeAt Go.RowKit Go.PlainAid Aid
set_option linter.unusedVariables false
set_option linter.unusedSimpArgs false

theorem nx (a b : BitVec 32) : bits BinOp.xor IntKind.u32 (a.toNat : Int) (b.toNat : Int) = ((a ^^^ b).toNat : Int) := by
  show IntKind.u32.wrap (((BitVec.ofInt 32 (a.toNat : Int)) ^^^ (BitVec.ofInt 32 (b.toNat : Int))).toNat : Int) = _
  rw [BitVec.ofInt_natCast, BitVec.ofInt_natCast, BitVec.ofNat_toNat, BitVec.ofNat_toNat, BitVec.setWidth_eq, BitVec.setWidth_eq, IntKind.wrap_u32]
  have := (a ^^^ b).isLt
  omega
theorem na (a b : BitVec 32) : bits BinOp.and IntKind.u32 (a.toNat : Int) (b.toNat : Int) = ((a &&& b).toNat : Int) := by
  show IntKind.u32.wrap (((BitVec.ofInt 32 (a.toNat : Int)) &&& (BitVec.ofInt 32 (b.toNat : Int))).toNat : Int) = _
  rw [BitVec.ofInt_natCast, BitVec.ofInt_natCast, BitVec.ofNat_toNat, BitVec.ofNat_toNat, BitVec.setWidth_eq, BitVec.setWidth_eq, IntKind.wrap_u32]
  have := (a &&& b).isLt
  omega
theorem ns (a : BitVec 32) (k : Nat) : (a.toNat : Int) / 2 ^ k = ((a >>> k).toNat : Int) := by
  rw [BitVec.toNat_ushiftRight, Nat.shiftRight_eq_div_pow]
  simp
theorem nn (a : BitVec 32) : bits BinOp.xor IntKind.u32 IntKind.u32.max (a.toNat : Int) = ((~~~ a).toNat : Int) := by
  have := nx (BitVec.allOnes 32) a
  rw [BitVec.allOnes_xor] at this
  exact this
/-- A byte, as a number of 32 bits. -/
def by32 (s : ByteArray) (k : Nat) : BitVec 32 := BitVec.ofNat 32 (s.data.toList.getD k 0).toNat
theorem by32_num (s : ByteArray) (k : Nat) : IntKind.u32.wrap (bt s k) = ((by32 s k).toNat : Int) := by
  rw [bt_list, by32, BitVec.toNat_ofNat, IntKind.wrap_u32]
  have := (s.data.toList.getD k 0).toNat_lt
  omega
theorem st_take (s : ByteArray) (k : Nat) (h : k < s.size) : st ones (s.data.toList.take (k + 1)) = upd (st ones (s.data.toList.take k)) (by32 s k) := by
  have hl : k < s.data.toList.length := by rw [← Lib.size_eq]; exact h
  rw [List.take_add_one, List.getElem?_eq_getElem hl, Option.toList_some, st_snoc, by32, List.getD, List.getElem?_eq_getElem hl]
  rfl

/-- The table of the code. -/
def tabI (i : Nat) : Int := ((advs 4 (BitVec.ofNat 32 i)).toNat : Int)
def tabZ : List Int := [0, 498536548, 997073096, 651767980, 1994146192, 1802195444, 1303535960, 1342533948, 3988292384, 4027552580, 3604390888, 3412177804, 2607071920, 2262029012, 2685067896, 3183342108]
theorem tab_is (i : Nat) (h : i < 16) : tabZ.getD i 0 = tabI i := by
  have : ∀ i : Fin 16, tabZ.getD i.val 0 = tabI i.val := by decide +kernel
  exact this ⟨i, h⟩
def Tab (w : World) : Prop := 0 < w.heap.size ∧ ∀ i, i < 16 → w.cell? ⟨0, i, none⟩ = some (.int .u32 (tabI i))
theorem Tab.keep {w w' : World} (h : Tab w) (hb : Below w.heap.size w w') : Tab w' :=
  ⟨by have := hb.size; have := h.1; omega, fun i hi => by rw [(bcell hb).1 _ _ h.1]; exact h.2 i hi⟩
theorem Tab.alloc {w : World} (h : Tab w) (o : Obj) : Tab (w.alloc o) := h.keep (blA (Below.refl _ _) o)
theorem Tab.drewN {w : World} (h : Tab w) (n : Nat) : Tab (w.drewN n) := h.keep (blN (Below.refl _ _) n)

theorem look (w : World) (h : Tab w) (c : BitVec 32) : ∃ (j : Nat) (t : Int), j < 16 ∧ bits BinOp.and IntKind.u32 (c.toNat : Int) 15 = (j : Int) ∧ w.cell? ⟨0, j, none⟩ = some (.int .u32 t) ∧ bits BinOp.xor IntKind.u32 ((c.toNat : Int) / 16) t = ((advs 4 c).toNat : Int) := by
  have hj : (c &&& 15#32).toNat < 16 := by
    rw [BitVec.toNat_and]; have := Nat.and_le_right (n := c.toNat) (m := (15#32).toNat)
    exact Nat.lt_of_le_of_lt this (by decide)
  refine ⟨(c &&& 15#32).toNat, _, hj, na c 15#32, h.2 _ hj, ?_⟩
  unfold tabI
  rw [BitVec.ofNat_toNat, BitVec.setWidth_eq, show (16 : Int) = 2 ^ 4 from rfl, ns, nx, part4 c, BitVec.xor_comm]

set_option maxHeartbeats 1000000 in
theorem Sum_same (s : ByteArray) (w : World) (hs : s.size ≤ maxLen) (ht : Tab w) :
    Calls Tryz.prog 120 #[.string s] w fun e w' => e = .returned (.int .u32 (crc s.data.toList).toNat) ∧ w' = w := by
  unfold maxLen at hs
  have hb := get_bt s
  have HT := Lib.hid ht
  clear ht
  go_enter Tryz.func120, Tryz.ntmps120
  go_wp2
  go_loop [3, 7] (fun n i => ∃ k : Nat, k ≤ s.size ∧ i = .int .i64 k ∧ n = .int .u32 ((st ones (s.data.toList.take k)).toNat : Nat)) (fun _ i => s.size - (intOf i).toNat)
  case atStart => exact ⟨0, by omega, rfl, rfl⟩
  case round =>
    obtain ⟨k, hk, rfl, rfl⟩ := hrel
    by_cases hlt : k < s.size
    · have hstep := st_take s k hlt
      generalize st ones (s.data.toList.take k) = c at *
      have hx : bits BinOp.xor IntKind.u32 (c.toNat : Int) (bt s k % 4294967296) = ((c ^^^ by32 s k).toNat : Int) := by rw [← IntKind.wrap_u32, by32_num, nx]
      have hup : upd c (by32 s k) = advs 4 (advs 4 (c ^^^ by32 s k)) := by unfold upd; rw [← advs_add]
      generalize c ^^^ by32 s k = c1 at *
      obtain ⟨j1, t1, hj1, ha1, hc1, he1⟩ := look w HT.out c1
      obtain ⟨j2, t2, hj2, ha2, hc2, he2⟩ := look w HT.out (advs 4 c1)
      generalize advs 4 c1 = c2 at *
      have HS := Lib.hid (hstep.trans hup)
      clear hstep hup
      go_wp2
      go_round
      case rel => exact ⟨k + 1, by omega, by go_num, by rw [HS.out]⟩
      case measure => simp [intOf]; omega
    · obtain rfl : k = s.size := by omega
      have e : s.data.toList.take s.size = s.data.toList := List.take_of_length_le (by rw [← Lib.size_eq]; exact Nat.le_refl _)
      rw [e]
      have hn : bits BinOp.xor IntKind.u32 IntKind.u32.max ((st ones s.data.toList).toNat : Int) = ((crc s.data.toList).toNat : Int) := nn _
      go_wp2
      go_returns
      exact ⟨rfl, rfl⟩

theorem Sum_any (s : ByteArray) (w : World) (hs : s.size ≤ maxLen) (ht : Tab w) :
    Calls Tryz.prog 120 #[.string s] w fun e w' => e = .returned (.int .u32 (crc s.data.toList).toNat) ∧ Below w.heap.size w w' :=
  (Sum_same s w hs ht).mono (by rintro e w' ⟨rfl, rfl⟩; exact ⟨rfl, Below.refl _ _⟩)

/-! The document's answer, bit by bit. -/
theorem low_is (c : BitVec 32) : bits BinOp.and IntKind.u32 (c.toNat : Int) 1 = if c.getLsbD 0 then 1 else 0 := by
  have h := na c 1#32
  have e : (c &&& 1#32) = if c.getLsbD 0 then 1#32 else 0#32 := by
    apply BitVec.eq_of_getLsbD_eq
    intro i hi
    rw [BitVec.getLsbD_and]
    cases i with
    | zero => cases c.getLsbD 0 <;> rfl
    | succ i =>
      have : (1#32).getLsbD (i + 1) = false := by
        rw [BitVec.getLsbD_ofNat]; simp [Nat.testBit_succ]
      rw [this, Bool.and_false]
      split
      · exact this.symm
      · simp
  rw [e] at h
  rw [show ((1#32).toNat : Int) = 1 from rfl] at h
  rw [h]
  split <;> rfl
set_option maxHeartbeats 4000000 in
theorem refSum_any (s : ByteArray) (w : World) (hs : s.size ≤ maxLen) :
    Calls Tryz.prog 133 #[.string s] w fun e w' => e = .returned (.int .u32 (crc s.data.toList).toNat) ∧ Below w.heap.size w w' := by
  unfold maxLen at hs
  have hb := get_bt s
  go_enter Tryz.func133, Tryz.ntmps133
  go_wp2
  go_loop [3, 4] (fun n i => ∃ k : Nat, k ≤ s.size ∧ i = .int .i64 k ∧ n = .int .u32 ((st ones (s.data.toList.take k)).toNat : Nat)) (fun _ i => s.size - (intOf i).toNat)
  case atStart => exact ⟨0, by omega, rfl, rfl⟩
  case round =>
    obtain ⟨k, hk, rfl, rfl⟩ := hrel
    by_cases hlt : k < s.size
    · have hstep := st_take s k hlt
      generalize st ones (s.data.toList.take k) = c at *
      have hx : bits BinOp.xor IntKind.u32 (c.toNat : Int) (bt s k % 4294967296) = ((c ^^^ by32 s k).toNat : Int) := by rw [← IntKind.wrap_u32, by32_num, nx]
      have hup : upd c (by32 s k) = advs 8 (c ^^^ by32 s k) := rfl
      generalize c ^^^ by32 s k = c1 at *
      have HS := Lib.hid (hstep.trans hup)
      clear hstep hup
      go_wp2
      go_loop [3, 5] (fun n i => ∃ j : Nat, j ≤ 8 ∧ i = .int .i64 j ∧ n = .int .u32 ((advs j c1).toNat : Nat)) (fun _ i => 8 - (intOf i).toNat)
      case atStart => exact ⟨0, by omega, rfl, rfl⟩
      case round =>
        obtain ⟨j, hj, rfl, rfl⟩ := hrel
        by_cases hlj : j < 8
        · have hadv : advs (j + 1) c1 = adv (advs j c1) := advs_add j 1 c1
          generalize advs j c1 = d at *
          have hlow := low_is d
          have hsh := ns d 1
          rw [show (2 : Int) ^ 1 = 2 from rfl] at hsh
          cases hb0 : d.getLsbD 0 with
          | true =>
            rw [hb0, if_pos rfl] at hlow
            have hx1 : bits BinOp.xor IntKind.u32 ((d >>> 1).toNat : Int) 3988292384 = ((adv d).toNat : Int) := by
              unfold adv; rw [hb0, if_pos rfl]; exact nx (d >>> 1) 0xEDB88320#32
            generalize d >>> 1 = d1 at *
            have HA := Lib.hid hadv
            clear hadv
            go_wp2
            go_round
            case rel => exact ⟨j + 1, by omega, by go_num, by rw [HA.out]⟩
            case measure => simp [intOf]; omega
          | false =>
            rw [hb0, if_neg (by decide)] at hlow
            have hx1 : adv d = d >>> 1 := adv_low d hb0
            generalize d >>> 1 = d1 at *
            have HA := Lib.hid (hadv.trans hx1)
            clear hadv hx1
            go_wp2
            go_round
            case rel => exact ⟨j + 1, by omega, by go_num, by rw [HA.out]⟩
            case measure => simp [intOf]; omega
        · obtain rfl : j = 8 := by omega
          go_wp2
          go_round
          case rel => exact ⟨k + 1, by omega, by go_num, by rw [HS.out]⟩
          case measure => simp [intOf]; omega
    · obtain rfl : k = s.size := by omega
      have e : s.data.toList.take s.size = s.data.toList := List.take_of_length_le (by rw [← Lib.size_eq]; exact Nat.le_refl _)
      rw [e]
      have hn : bits BinOp.xor IntKind.u32 ((st ones s.data.toList).toNat : Int) 4294967295 = ((crc s.data.toList).toNat : Int) := by
        have := nx (st ones s.data.toList) (BitVec.allOnes 32)
        rw [BitVec.xor_allOnes] at this
        exact this
      go_wp2
      go_returns
      exact ⟨rfl, Below.refl _ _⟩
end Go.Proofs.YtmnfoafpjmlbfaaGreatDoor.Cr
end

-- joined
section
namespace Go.Proofs.YtmnfoafpjmlbfaaGreatDoor.Cr
open Go.ChangeShapes Go.WideShapes Go.ChangeAt Go.RowKit Go.PlainAid Aid
set_option linter.unusedVariables false
set_option linter.unusedSimpArgs false

def tailS (c : BitVec 32) : ByteArray := ofL (tailL c)
theorem conv4 (W : World) (t : TypeId) (c0 c1 c2 c3 : Int) :
    (convert 143 9 (.slice (some ⟨W.heap.size, 0, none⟩) 4 4)).run Tryz.prog (W.alloc (.cells #[.int .u8 c0, .int .u8 c1, .int .u8 c2, .int .u8 c3] t))
      = .ok (.string (strOfNums [c0, c1, c2, c3])) (W.alloc (.cells #[.int .u8 c0, .int .u8 c1, .int .u8 c2, .int .u8 c3] t)) := by
  refine run_convert_bytes_arg _ 143 5 Tryz.underlying143 Tryz.underlying5 W.heap.size 0 4 4 [c0, c1, c2, c3] rfl ?_ _ Tryz.underlying9
  intro i hi
  rw [Nat.zero_add]
  match i, hi with
  | 0, _ | 1, _ | 2, _ | 3, _ => go_simp
  | i + 4, h => omega
theorem tail_nums (c : BitVec 32) : strOfNums [(c.toNat : Int) % 256, (c.toNat : Int) / 256 % 256, (c.toNat : Int) / 65536 % 256, (c.toNat : Int) / 16777216 % 256] = tailS c := by
  unfold strOfNums tailS ofL tailL
  have e : ∀ (i : Nat) (x : Int), x = (c.toNat : Int) / 2 ^ (8 * i) % 256 → UInt8.ofNat x.toNat = byteOf c i := by
    intro i x hx
    rw [hx, ns]
    unfold byteOf
    congr 1
  simp only [List.map_cons, List.map_nil]
  rw [e 0 (c.toNat % 256) (by simp), e 1 (c.toNat / 256 % 256) rfl, e 2 (c.toNat / 65536 % 256) rfl, e 3 (c.toNat / 16777216 % 256) rfl]

set_option maxHeartbeats 400000 in
theorem Tail_any (c : BitVec 32) (w : World) :
    Calls Tryz.prog 119 #[.int .u32 c.toNat] w fun e w' => e = .returned (.string (tailS c)) ∧ Below w.heap.size w w' := by
  have hn := tail_nums c
  have h0 : 0 ≤ (c.toNat : Int) := by omega
  generalize (c.toNat : Int) = n at *
  generalize tailS c = r at *
  have HN := Lib.hid hn
  clear hn
  have hcv := fun (W : World) (t : TypeId) => conv4 W t (n % 256) (n / 256 % 256) (n / 65536 % 256) (n / 16777216 % 256)
  rw [HN.out] at hcv
  go_enter Tryz.func119, Tryz.ntmps119
  go_wp2_with fail
  go_returns
  exact ⟨rfl, blA (Below.refl _ _) _⟩
set_option maxHeartbeats 400000 in
theorem refTail_any (c : BitVec 32) (w : World) :
    Calls Tryz.prog 132 #[.int .u32 c.toNat] w fun e w' => e = .returned (.string (tailS c)) ∧ Below w.heap.size w w' := by
  have hn := tail_nums c
  have h0 : 0 ≤ (c.toNat : Int) := by omega
  generalize (c.toNat : Int) = n at *
  generalize tailS c = r at *
  have HN := Lib.hid hn
  clear hn
  have hcv := fun (W : World) (t : TypeId) => conv4 W t (n % 256) (n / 256 % 256) (n / 65536 % 256) (n / 16777216 % 256)
  rw [HN.out] at hcv
  go_enter Tryz.func132, Tryz.ntmps132
  go_wp2_with fail
  go_returns
  exact ⟨rfl, blA (Below.refl _ _) _⟩

/-- Bytes and the tail of their sum. -/
def sealS (s : ByteArray) : ByteArray := s ++ tailS (crc s.data.toList)
theorem tailS_size (c : BitVec 32) : (tailS c).size = 4 := rfl
theorem sealS_size (s : ByteArray) : (sealS s).size = s.size + 4 := by unfold sealS; rw [ByteArray.size_append, tailS_size]
set_option maxHeartbeats 400000 in
theorem Seal_any (s : ByteArray) (w : World) (hs : s.size ≤ 140737488355328) (ht : Tab w) :
    Calls Tryz.prog 74 #[.string s] w fun e w' => e = .returned (.string (sealS s)) ∧ Below w.heap.size w w' := by
  have HS := Lib.hid (Sum_any s w (by unfold maxLen; omega) ht)
  have HC := Lib.hid (fun w => Tail_any (crc s.data.toList) w)
  have hz := tailS_size (crc s.data.toList)
  have he : sealS s = s ++ tailS (crc s.data.toList) := rfl
  generalize tailS (crc s.data.toList) = t at *
  generalize crc s.data.toList = c at *
  have HE := Lib.hid he
  have HZ : t.size ≤ 4 := by omega
  clear he ht hz
  go_enter Tryz.func74, Tryz.ntmps74
  go_wp2_with fail
  refine HS.out.mono ?_
  rintro e w1 ⟨rfl, hb1⟩
  go_wp2_with fail
  refine (HC.out _).mono ?_
  rintro e w2 ⟨rfl, hb2⟩
  go_wp2_with fail
  go_returns
  exact ⟨ret_str HE.out.symm, bl hb1 hb2⟩
set_option maxHeartbeats 400000 in
theorem Clone_any (s : ByteArray) (w : World) (hs : s.size ≤ 281474976710656) :
    Calls Tryz.prog 129 #[.string s] w fun e w' => e = .returned (.string s) ∧ Below w.heap.size w w' := by
  go_enter Tryz.func129, Tryz.ntmps129
  go_wp2_with fail
  refine (Tryz.stringslite_Clone s _ hs).mono ?_
  rintro e w1 ⟨rfl, hb1⟩
  go_wp2_with fail
  go_returns
  exact ⟨rfl, hb1⟩

def bodyS (s : ByteArray) : ByteArray := s.extract 0 (s.size - 4)
def endS (s : ByteArray) : ByteArray := s.extract (s.size - 4) s.size
def isSealed (s : ByteArray) : Bool := decide (4 ≤ s.size) && decide (endS s = tailS (crc (bodyS s).data.toList))
def openV (s : ByteArray) : Value := if isSealed s then .tuple #[.string (bodyS s), .bool true] else .tuple #[.string ⟨#[]⟩, .bool false]

set_option maxHeartbeats 400000 in
theorem Open_short (s : ByteArray) (w : World) (h : s.size < 4) :
    Calls Tryz.prog 161 #[.string s] w fun e w' => e = .returned (.tuple #[.string ⟨#[]⟩, .bool false]) ∧ Below w.heap.size w w' := by
  go_enter Tryz.func161, Tryz.ntmps161
  go_wp2_with fail
  go_returns
  exact ⟨rfl, by go_grown⟩
set_option maxHeartbeats 400000 in
theorem Open_yes (s : ByteArray) (w : World) (h : 4 ≤ s.size) (hs : s.size ≤ 140737488355328) (ht : Tab w) (he : endS s = tailS (crc (bodyS s).data.toList)) :
    Calls Tryz.prog 161 #[.string s] w fun e w' => e = .returned (.tuple #[.string (bodyS s), .bool true]) ∧ Below w.heap.size w w' := by
  unfold endS bodyS at *
  have HS := Lib.hid (fun w (ht : Tab w) => Sum_any (s.extract 0 (s.size - 4)) w (by unfold maxLen; rw [ByteArray.size_extract]; omega) ht)
  have HC := Lib.hid (fun w => Tail_any (crc (s.extract 0 (s.size - 4)).data.toList) w)
  have HL := Lib.hid (fun w => Clone_any (s.extract 0 (s.size - 4)) w (by rw [ByteArray.size_extract]; omega))
  generalize tailS (crc (s.extract 0 (s.size - 4)).data.toList) = t at *
  generalize crc (s.extract 0 (s.size - 4)).data.toList = c at *
  have hne : ((s.extract (s.size - 4) s.size).toList == t.toList) = true := by rw [he, str_eq, decide_eq_true rfl]
  have HT := Lib.hid ht
  clear he ht
  go_enter Tryz.func161, Tryz.ntmps161
  go_wp2_with fail
  go_quiet (fail)
  go_wp2_with fail
  refine (HS.out _ (HT.out.drewN _)).mono ?_
  rintro e w1 ⟨rfl, hb1⟩
  go_wp2_with fail
  refine (HC.out _).mono ?_
  rintro e w2 ⟨rfl, hb2⟩
  go_wp2_with fail
  refine (HL.out _).mono ?_
  rintro e w3 ⟨rfl, hb3⟩
  go_wp2_with fail
  go_returns
  exact ⟨rfl, bl (bl (bl (blN (Below.refl _ _) _) hb1) hb2) hb3⟩
set_option maxHeartbeats 400000 in
theorem Open_no (s : ByteArray) (w : World) (h : 4 ≤ s.size) (hs : s.size ≤ 140737488355328) (ht : Tab w) (he : endS s ≠ tailS (crc (bodyS s).data.toList)) :
    Calls Tryz.prog 161 #[.string s] w fun e w' => e = .returned (.tuple #[.string ⟨#[]⟩, .bool false]) ∧ Below w.heap.size w w' := by
  unfold endS bodyS at *
  have HS := Lib.hid (fun w (ht : Tab w) => Sum_any (s.extract 0 (s.size - 4)) w (by unfold maxLen; rw [ByteArray.size_extract]; omega) ht)
  have HC := Lib.hid (fun w => Tail_any (crc (s.extract 0 (s.size - 4)).data.toList) w)
  generalize tailS (crc (s.extract 0 (s.size - 4)).data.toList) = t at *
  generalize crc (s.extract 0 (s.size - 4)).data.toList = c at *
  have hne : ((s.extract (s.size - 4) s.size).toList == t.toList) = false := by rw [str_eq, decide_eq_false he]
  have HT := Lib.hid ht
  clear he ht
  go_enter Tryz.func161, Tryz.ntmps161
  go_wp2_with fail
  go_quiet (fail)
  go_wp2_with fail
  refine (HS.out _ (HT.out.drewN _)).mono ?_
  rintro e w1 ⟨rfl, hb1⟩
  go_wp2_with fail
  refine (HC.out _).mono ?_
  rintro e w2 ⟨rfl, hb2⟩
  go_wp2_with fail
  go_returns
  exact ⟨rfl, bl (bl (blN (Below.refl _ _) _) hb1) hb2⟩
theorem Open_any (s : ByteArray) (w : World) (hs : s.size ≤ 140737488355328) (ht : Tab w) :
    Calls Tryz.prog 161 #[.string s] w fun e w' => e = .returned (openV s) ∧ Below w.heap.size w w' := by
  unfold openV isSealed
  by_cases h : 4 ≤ s.size
  · by_cases he : endS s = tailS (crc (bodyS s).data.toList)
    · rw [decide_eq_true h, decide_eq_true he]; exact Open_yes s w h hs ht he
    · rw [decide_eq_true h, decide_eq_false he]; exact Open_no s w h hs ht he
  · rw [decide_eq_false h]; exact Open_short s w (by omega)

/-! The document's answer. -/
set_option maxHeartbeats 400000 in
theorem refOpen_short (s : ByteArray) (w : World) (h : s.size < 4) :
    Calls Tryz.prog 98 #[.string s] w fun e w' => e = .returned (.tuple #[.string ⟨#[]⟩, .bool false]) ∧ Below w.heap.size w w' := by
  go_enter Tryz.func98, Tryz.ntmps98
  go_wp2_with fail
  go_returns
  exact ⟨rfl, by go_grown⟩
set_option maxHeartbeats 400000 in
theorem refOpen_long (s : ByteArray) (w : World) (h : 4 ≤ s.size) (hs : s.size ≤ 140737488355328) (q : Bool) (hq : decide (endS s = tailS (crc (bodyS s).data.toList)) = q) :
    Calls Tryz.prog 98 #[.string s] w fun e w' => e = .returned (if q then .tuple #[.string (bodyS s), .bool true] else .tuple #[.string ⟨#[]⟩, .bool false]) ∧ Below w.heap.size w w' := by
  unfold endS bodyS at *
  have HS := Lib.hid (fun w => refSum_any (s.extract 0 (s.size - 4)) w (by unfold maxLen; rw [ByteArray.size_extract]; omega))
  have HC := Lib.hid (fun w => refTail_any (crc (s.extract 0 (s.size - 4)).data.toList) w)
  have hz := tailS_size (crc (s.extract 0 (s.size - 4)).data.toList)
  generalize tailS (crc (s.extract 0 (s.size - 4)).data.toList) = t at *
  generalize crc (s.extract 0 (s.size - 4)).data.toList = c at *
  have hne : (t.toList == (s.extract (s.size - 4) s.size).toList) = q := by rw [str_eq, ← hq]; rw [decide_eq_decide]; exact eq_comm
  have HQ := Lib.hid hne
  clear hq hne hz
  have p0 : (0 : Int) ≤ (s.size : Int) - 4 := by omega
  have p1 : (s.size : Int) - 4 ≤ (s.size : Int) := by omega
  have hsl := fun W : World => run_slice_string_l (P := Tryz.prog) W 9 s Tryz.underlying9 .i64 ((s.size : Int) - 4) p0 p1
  rw [show ((s.size : Int) - 4).toNat = s.size - 4 by omega] at hsl
  have hwr : IntKind.i64.wrap ((s.size : Int) - 4) = (s.size : Int) - 4 := by rw [IntKind.wrap_i64]; omega
  go_enter Tryz.func98, Tryz.ntmps98
  go_wp2_with fail
  have HB : Hid (Below w.heap.size w w.drew) := Lib.hid (Below.drew (Below.refl _ _))
  go_region_held3 (fun W => Hid (Below w.heap.size w W)) (first | exact HB | exact bl20 | exact bl21)
    (first | (go_at_call 133; refine (HS.out _).mono ?_; rintro e w20 ⟨rfl, hb20⟩; have bl20 : Hid (Below w.heap.size w w20) := bl (by assumption) hb20) | (go_at_call 132; refine (HC.out _).mono ?_; rintro e w21 ⟨rfl, hb21⟩; have bl21 : Hid (Below w.heap.size w w21) := bl (by assumption) hb21))
  rw [HQ.out]
  cases q with
  | true =>
    go_wp2_with fail
    go_returns
    exact ⟨rfl, bl21⟩
  | false =>
    go_wp2_with fail
    go_returns
    exact ⟨rfl, bl21⟩
theorem refOpen_any (s : ByteArray) (w : World) (hs : s.size ≤ 140737488355328) :
    Calls Tryz.prog 98 #[.string s] w fun e w' => e = .returned (openV s) ∧ Below w.heap.size w w' := by
  unfold openV isSealed
  by_cases h : 4 ≤ s.size
  · rw [decide_eq_true h, Bool.true_and]; exact refOpen_long s w h hs _ rfl
  · rw [decide_eq_false h]; exact refOpen_short s w (by omega)
end Go.Proofs.YtmnfoafpjmlbfaaGreatDoor.Cr
end
