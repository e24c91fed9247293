import Derived.Test.YtaacinhmgmmcaaaDoorCrP
import Derived.Test.YtaacinhmgmmcaaaDoorRows
import Derived.Test.YtaacinhmgmmcaaaDoorShelf
namespace Go.Proofs.YtaacinhmgmmcaaaDoor.Cr
open Go.ChangeShapes Go.WideShapes Go.ChangeAt Go.RowKit Go.PlainAid Aid
set_option linter.unusedVariables false
set_option linter.unusedSimpArgs false

theorem nx (a b : BitVec 32) : bits BinOp.xor IntKind.u32 (a.toNat : Int) (b.toNat : Int) = ((a ^^^ b).toNat : Int) := by
  show IntKind.u32.wrap (((BitVec.ofInt 32 (a.toNat : Int)) ^^^ (BitVec.ofInt 32 (b.toNat : Int))).toNat : Int) = _
  rw [BitVec.ofInt_natCast, BitVec.ofInt_natCast, BitVec.ofNat_toNat, BitVec.ofNat_toNat, BitVec.setWidth_eq, BitVec.setWidth_eq, IntKind.wrap_u32]
  have := (a ^^^ b).isLt
  omega
theorem na (a b : BitVec 32) : bits BinOp.and IntKind.u32 (a.toNat : Int) (b.toNat : Int) = ((a &&& b).toNat : Int) := by
  show IntKind.u32.wrap (((BitVec.ofInt 32 (a.toNat : Int)) &&& (BitVec.ofInt 32 (b.toNat : Int))).toNat : Int) = _
  rw [BitVec.ofInt_natCast, BitVec.ofInt_natCast, BitVec.ofNat_toNat, BitVec.ofNat_toNat, BitVec.setWidth_eq, BitVec.setWidth_eq, IntKind.wrap_u32]
  have := (a &&& b).isLt
  omega
theorem ns (a : BitVec 32) (k : Nat) : (a.toNat : Int) / 2 ^ k = ((a >>> k).toNat : Int) := by
  rw [BitVec.toNat_ushiftRight, Nat.shiftRight_eq_div_pow]
  simp
theorem nn (a : BitVec 32) : bits BinOp.xor IntKind.u32 IntKind.u32.max (a.toNat : Int) = ((~~~ a).toNat : Int) := by
  have := nx (BitVec.allOnes 32) a
  rw [BitVec.allOnes_xor] at this
  exact this
/-- A byte, as a number of 32 bits. -/
def by32 (s : ByteArray) (k : Nat) : BitVec 32 := BitVec.ofNat 32 (s.data.toList.getD k 0).toNat
theorem by32_num (s : ByteArray) (k : Nat) : IntKind.u32.wrap (bt s k) = ((by32 s k).toNat : Int) := by
  rw [bt_list, by32, BitVec.toNat_ofNat, IntKind.wrap_u32]
  have := (s.data.toList.getD k 0).toNat_lt
  omega
theorem st_take (s : ByteArray) (k : Nat) (h : k < s.size) : st ones (s.data.toList.take (k + 1)) = upd (st ones (s.data.toList.take k)) (by32 s k) := by
  have hl : k < s.data.toList.length := by rw [← Lib.size_eq]; exact h
  rw [List.take_add_one, List.getElem?_eq_getElem hl, Option.toList_some, st_snoc, by32, List.getD, List.getElem?_eq_getElem hl]
  rfl

/-- The table of the code. -/
def tabI (i : Nat) : Int := ((advs 4 (BitVec.ofNat 32 i)).toNat : Int)
def tabZ : List Int := [0, 498536548, 997073096, 651767980, 1994146192, 1802195444, 1303535960, 1342533948, 3988292384, 4027552580, 3604390888, 3412177804, 2607071920, 2262029012, 2685067896, 3183342108]
theorem tab_is (i : Nat) (h : i < 16) : tabZ.getD i 0 = tabI i := by
  have : ∀ i : Fin 16, tabZ.getD i.val 0 = tabI i.val := by decide +kernel
  exact this ⟨i, h⟩
def Tab (w : World) : Prop := 0 < w.heap.size ∧ ∀ i, i < 16 → w.cell? ⟨0, i, none⟩ = some (.int .u32 (tabI i))
theorem Tab.keep {w w' : World} (h : Tab w) (hb : Below w.heap.size w w') : Tab w' :=
  ⟨by have := hb.size; have := h.1; omega, fun i hi => by rw [(bcell hb).1 _ _ h.1]; exact h.2 i hi⟩
theorem Tab.alloc {w : World} (h : Tab w) (o : Obj) : Tab (w.alloc o) := h.keep (blA (Below.refl _ _) o)
theorem Tab.drewN {w : World} (h : Tab w) (n : Nat) : Tab (w.drewN n) := h.keep (blN (Below.refl _ _) n)

theorem look (w : World) (h : Tab w) (c : BitVec 32) : ∃ (j : Nat) (t : Int), j < 16 ∧ bits BinOp.and IntKind.u32 (c.toNat : Int) 15 = (j : Int) ∧ w.cell? ⟨0, j, none⟩ = some (.int .u32 t) ∧ bits BinOp.xor IntKind.u32 ((c.toNat : Int) / 16) t = ((advs 4 c).toNat : Int) := by
  have hj : (c &&& 15#32).toNat < 16 := by
    rw [BitVec.toNat_and]; have := Nat.and_le_right (n := c.toNat) (m := (15#32).toNat)
    exact Nat.lt_of_le_of_lt this (by decide)
  refine ⟨(c &&& 15#32).toNat, _, hj, na c 15#32, h.2 _ hj, ?_⟩
  unfold tabI
  rw [BitVec.ofNat_toNat, BitVec.setWidth_eq, show (16 : Int) = 2 ^ 4 from rfl, ns, nx, part4 c, BitVec.xor_comm]

set_option maxHeartbeats 1000000 in
theorem Sum_same (s : ByteArray) (w : World) (hs : s.size ≤ maxLen) (ht : Tab w) :
    Calls Tryd.prog 72 #[.string s] w fun e w' => e = .returned (.int .u32 (crc s.data.toList).toNat) ∧ w' = w := by
  unfold maxLen at hs
  have hb := get_bt s
  have HT := Lib.hid ht
  clear ht
  go_enter Tryd.func72, Tryd.ntmps72
  go_wp2
  go_loop [3, 7] (fun n i => ∃ k : Nat, k ≤ s.size ∧ i = .int .i64 k ∧ n = .int .u32 ((st ones (s.data.toList.take k)).toNat : Nat)) (fun _ i => s.size - (intOf i).toNat)
  case atStart => exact ⟨0, by omega, rfl, rfl⟩
  case round =>
    obtain ⟨k, hk, rfl, rfl⟩ := hrel
    by_cases hlt : k < s.size
    · have hstep := st_take s k hlt
      generalize st ones (s.data.toList.take k) = c at *
      have hx : bits BinOp.xor IntKind.u32 (c.toNat : Int) (bt s k % 4294967296) = ((c ^^^ by32 s k).toNat : Int) := by rw [← IntKind.wrap_u32, by32_num, nx]
      have hup : upd c (by32 s k) = advs 4 (advs 4 (c ^^^ by32 s k)) := by unfold upd; rw [← advs_add]
      generalize c ^^^ by32 s k = c1 at *
      obtain ⟨j1, t1, hj1, ha1, hc1, he1⟩ := look w HT.out c1
      obtain ⟨j2, t2, hj2, ha2, hc2, he2⟩ := look w HT.out (advs 4 c1)
      generalize advs 4 c1 = c2 at *
      have HS := Lib.hid (hstep.trans hup)
      clear hstep hup
      go_wp2
      go_round
      case rel => exact ⟨k + 1, by omega, by go_num, by rw [HS.out]⟩
      case measure => simp [intOf]; omega
    · obtain rfl : k = s.size := by omega
      have e : s.data.toList.take s.size = s.data.toList := List.take_of_length_le (by rw [← Lib.size_eq]; exact Nat.le_refl _)
      rw [e]
      have hn : bits BinOp.xor IntKind.u32 IntKind.u32.max ((st ones s.data.toList).toNat : Int) = ((crc s.data.toList).toNat : Int) := nn _
      go_wp2
      go_returns
      exact ⟨rfl, rfl⟩

theorem Sum_any (s : ByteArray) (w : World) (hs : s.size ≤ maxLen) (ht : Tab w) :
    Calls Tryd.prog 72 #[.string s] w fun e w' => e = .returned (.int .u32 (crc s.data.toList).toNat) ∧ Below w.heap.size w w' :=
  (Sum_same s w hs ht).mono (by rintro e w' ⟨rfl, rfl⟩; exact ⟨rfl, Below.refl _ _⟩)

/-! The document's answer, bit by bit. -/
theorem low_is (c : BitVec 32) : bits BinOp.and IntKind.u32 (c.toNat : Int) 1 = if c.getLsbD 0 then 1 else 0 := by
  have h := na c 1#32
  have e : (c &&& 1#32) = if c.getLsbD 0 then 1#32 else 0#32 := by
    apply BitVec.eq_of_getLsbD_eq
    intro i hi
    rw [BitVec.getLsbD_and]
    cases i with
    | zero => cases c.getLsbD 0 <;> rfl
    | succ i =>
      have : (1#32).getLsbD (i + 1) = false := by
        rw [BitVec.getLsbD_ofNat]; simp [Nat.testBit_succ]
      rw [this, Bool.and_false]
      split
      · exact this.symm
      · simp
  rw [e] at h
  rw [show ((1#32).toNat : Int) = 1 from rfl] at h
  rw [h]
  split <;> rfl
set_option maxHeartbeats 4000000 in
theorem refSum_any (s : ByteArray) (w : World) (hs : s.size ≤ maxLen) :
    Calls Tryd.prog 34 #[.string s] w fun e w' => e = .returned (.int .u32 (crc s.data.toList).toNat) ∧ Below w.heap.size w w' := by
  unfold maxLen at hs
  have hb := get_bt s
  go_enter Tryd.func34, Tryd.ntmps34
  go_wp2
  go_loop [3, 4] (fun n i => ∃ k : Nat, k ≤ s.size ∧ i = .int .i64 k ∧ n = .int .u32 ((st ones (s.data.toList.take k)).toNat : Nat)) (fun _ i => s.size - (intOf i).toNat)
  case atStart => exact ⟨0, by omega, rfl, rfl⟩
  case round =>
    obtain ⟨k, hk, rfl, rfl⟩ := hrel
    by_cases hlt : k < s.size
    · have hstep := st_take s k hlt
      generalize st ones (s.data.toList.take k) = c at *
      have hx : bits BinOp.xor IntKind.u32 (c.toNat : Int) (bt s k % 4294967296) = ((c ^^^ by32 s k).toNat : Int) := by rw [← IntKind.wrap_u32, by32_num, nx]
      have hup : upd c (by32 s k) = advs 8 (c ^^^ by32 s k) := rfl
      generalize c ^^^ by32 s k = c1 at *
      have HS := Lib.hid (hstep.trans hup)
      clear hstep hup
      go_wp2
      go_loop [3, 5] (fun n i => ∃ j : Nat, j ≤ 8 ∧ i = .int .i64 j ∧ n = .int .u32 ((advs j c1).toNat : Nat)) (fun _ i => 8 - (intOf i).toNat)
      case atStart => exact ⟨0, by omega, rfl, rfl⟩
      case round =>
        obtain ⟨j, hj, rfl, rfl⟩ := hrel
        by_cases hlj : j < 8
        · have hadv : advs (j + 1) c1 = adv (advs j c1) := advs_add j 1 c1
          generalize advs j c1 = d at *
          have hlow := low_is d
          have hsh := ns d 1
          rw [show (2 : Int) ^ 1 = 2 from rfl] at hsh
          cases hb0 : d.getLsbD 0 with
          | true =>
            rw [hb0, if_pos rfl] at hlow
            have hx1 : bits BinOp.xor IntKind.u32 ((d >>> 1).toNat : Int) 3988292384 = ((adv d).toNat : Int) := by
              unfold adv; rw [hb0, if_pos rfl]; exact nx (d >>> 1) 0xEDB88320#32
            generalize d >>> 1 = d1 at *
            have HA := Lib.hid hadv
            clear hadv
            go_wp2
            go_round
            case rel => exact ⟨j + 1, by omega, by go_num, by rw [HA.out]⟩
            case measure => simp [intOf]; omega
          | false =>
            rw [hb0, if_neg (by decide)] at hlow
            have hx1 : adv d = d >>> 1 := adv_low d hb0
            generalize d >>> 1 = d1 at *
            have HA := Lib.hid (hadv.trans hx1)
            clear hadv hx1
            go_wp2
            go_round
            case rel => exact ⟨j + 1, by omega, by go_num, by rw [HA.out]⟩
            case measure => simp [intOf]; omega
        · obtain rfl : j = 8 := by omega
          go_wp2
          go_round
          case rel => exact ⟨k + 1, by omega, by go_num, by rw [HS.out]⟩
          case measure => simp [intOf]; omega
    · obtain rfl : k = s.size := by omega
      have e : s.data.toList.take s.size = s.data.toList := List.take_of_length_le (by rw [← Lib.size_eq]; exact Nat.le_refl _)
      rw [e]
      have hn : bits BinOp.xor IntKind.u32 ((st ones s.data.toList).toNat : Int) 4294967295 = ((crc s.data.toList).toNat : Int) := by
        have := nx (st ones s.data.toList) (BitVec.allOnes 32)
        rw [BitVec.xor_allOnes] at this
        exact this
      go_wp2
      go_returns
      exact ⟨rfl, Below.refl _ _⟩
end Go.Proofs.YtaacinhmgmmcaaaDoor.Cr
