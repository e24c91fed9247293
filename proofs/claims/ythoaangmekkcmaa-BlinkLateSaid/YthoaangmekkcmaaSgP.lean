/- Texts of ours, joined. -/
import Derived.WalkKit
import Derived.PlainAid
import Derived.BigQuiet
import Derived.Lib.IndexBytes
import Derived.Lib.Bytealg
import Derived.Lib.Small
import Derived.Test.YthoaangmekkcmaaAid
import Derived.Test.YthoaangmekkcmaaNtA

-- joined
section
namespace Go.Proofs.Ythoaangmekkcmaa.Sg
open Go.RowKit Go.PlainAid

/-- The number of the first k bytes of s. -/
def numS (s : ByteArray) : Nat → Int
  | 0 => 0
  | k + 1 => numS s k * 256 + bt s k
/-! Below, step by step, with no side conditions. -/
theorem bl {a W w1 : World} (h1 : Below a.heap.size a W) (h2 : Below W.heap.size W w1) : Below a.heap.size a w1 := h1.trans (h2.mono h1.size)
end Go.Proofs.Ythoaangmekkcmaa.Sg
end

-- joined
section
namespace Go.Proofs.Ythoaangmekkcmaa.Sg
open Go.RowKit Go.PlainAid

theorem bt_list (s : ByteArray) (k : Nat) : bt s k = ((s.data.toList.getD k 0).toNat : Int) := by
  unfold bt
  split
  · rename_i h
    rw [List.getD, Lib.data_getElem? s k h]; rfl
  · rename_i h
    have : s.data.toList[k]? = none := List.getElem?_eq_none (by rw [← Lib.size_eq]; omega)
    rw [List.getD, this]; rfl
open Classical in
/-- The value whose code s is. -/
noncomputable def rd (s : ByteArray) : Option (Int × Int × ByteArray) :=
  if s.size = 9 then
    if bt s 0 = 1 then some (1, numS (s.extract 1 s.size) 8 - 9223372036854775808, ⟨#[]⟩)
    else if bt s 0 = 2 ∧ bt s 8 ≤ 7 ∧ ∀ i, (bt s 8).toNat ≤ i → i < 7 → bt s (1 + i) = 0 then some (2, 0, s.extract 1 (1 + (bt s 8).toNat))
    else none
  else none
end Go.Proofs.Ythoaangmekkcmaa.Sg
end

-- joined
section
namespace Go.Proofs.Ythoaangmekkcmaa.Sg
open Go.RowKit Go.PlainAid
set_option linter.unusedVariables false

/-- Byte i of a value's code, as a number. -/
def cdv (k n : Int) (s : ByteArray) (i : Nat) : Int :=
  if i = 0 then k else if k = 1 then (n + 9223372036854775808) / 256 ^ (8 - i) % 256 else if i = 8 then (s.size : Int) else bt s (i - 1)
theorem cdv_num (n : Int) (s : ByteArray) (i : Nat) (h : 1 ≤ i) : cdv 1 n s i = (n + 9223372036854775808) / 256 ^ (8 - i) % 256 := by
  unfold cdv; rw [if_neg (by omega), if_pos rfl]
/-- A value's code. -/
def codeS (k n : Int) (s : ByteArray) : ByteArray := strOfNums [cdv k n s 0, cdv k n s 1, cdv k n s 2, cdv k n s 3, cdv k n s 4, cdv k n s 5, cdv k n s 6, cdv k n s 7, cdv k n s 8]

theorem codeS_size (k n : Int) (s : ByteArray) : (codeS k n s).size = 9 := rfl
theorem bt_ext (s t : ByteArray) (n : Nat) (hs : s.size = n) (ht : t.size = n) (h : ∀ i, i < n → bt s i = bt t i) : s = t := by
  apply ByteArray.ext; apply Array.toList_inj.1
  have ls : s.data.toList.length = n := by rw [← Lib.size_eq]; exact hs
  have lt : t.data.toList.length = n := by rw [← Lib.size_eq]; exact ht
  refine List.ext_getElem (by omega) fun i h1 h2 => ?_
  have := h i (by omega)
  rw [bt_list, bt_list, List.getD, List.getD, List.getElem?_eq_getElem h1, List.getElem?_eq_getElem h2] at this
  exact UInt8.toNat_inj.1 (Int.ofNat_inj.1 (by simpa using this))
theorem size_zero {s : ByteArray} (h : s.size = 0) : s = ⟨#[]⟩ := bt_ext s ⟨#[]⟩ 0 h rfl (fun i hi => by omega)

end Go.Proofs.Ythoaangmekkcmaa.Sg
end

-- joined
section
namespace Go.Proofs.Ythoaangmekkcmaa.Ky
open Go.ChangeShapes Go.WideShapes Go.ChangeAt Go.RowKit Go.PlainAid Aid
open Sg (cdv codeS cdv_num codeS_size)
set_option linter.unusedVariables false
set_option linter.unusedSimpArgs false

/-- The first k bytes of a value's code, as cells. -/
def codeC (k n : Int) (s : ByteArray) (m : Nat) : List Value := (List.range m).map fun i => Value.int .u8 (cdv k n s i)
theorem codeC_snoc (k n : Int) (s : ByteArray) (m : Nat) : codeC k n s (m + 1) = codeC k n s m ++ [Value.int .u8 (cdv k n s m)] := by unfold codeC; rw [List.range_succ, List.map_append]; rfl
theorem append1k {w : World} {g0 : Nat} {x : Value} (hx : w.cell? ⟨g0, 0, none⟩ = some x) : ∀ j u, [x][j]? = some u → w.cell? ((⟨g0, 0, none⟩ : Addr).add j) = some u := by
  intro j u hu
  rw [Aid.addr_zero]
  match j, hu with
  | 0, hu => rw [hx]; exact hu
  | j + 1, hu => cases hu

theorem bits_xor128 (b : Int) (h0 : 0 ≤ b) (h1 : b ≤ 255) : bits BinOp.xor IntKind.u8 b 128 = (b + 128) % 256 := by
  obtain ⟨a, rfl⟩ := Int.eq_ofNat_of_zero_le h0
  have ha : a < 256 := by omega
  have : ∀ a : Fin 256, bits BinOp.xor IntKind.u8 ((a.val : Nat) : Int) 128 = (((a.val : Nat) : Int) + 128) % 256 := by decide +kernel
  exact this ⟨a, ha⟩

theorem info_u8 : (Try.prog.info? 5).map (fun i => (i.zero, i.size, i.bytes)) = some (some (.int .u8 0), 1, 1) := by kernel_rfl
set_option maxHeartbeats 2000000 in
theorem refCode_num (n : Int) (s : ByteArray) (w : World) (hs : s.size ≤ maxLen) (hn : -9223372036854775808 ≤ n) (hn2 : n ≤ 9223372036854775807) :
    Calls Try.prog 42 #[.agg #[.int .i64 1, .int .i64 n, .string s]] w fun e w' => e = .returned (.string (codeS 1 n s)) ∧ Below w.heap.size w w' := by
  obtain ⟨i0, hi0, hz0, hz1, hz2⟩ := info_parts info_u8
  have HI0 := Lib.hid hi0
  have HZ0 := Lib.hid hz0
  have HZ1 := Lib.hid hz1
  have HZ2 := Lib.hid hz2
  clear hi0 hz0 hz1 hz2
  have hu : 0 ≤ IntKind.u64.wrap n ∧ IntKind.u64.wrap n ≤ 18446744073709551615 := by rw [IntKind.wrap_u64]; omega
  have hu2 : IntKind.u64.wrap n = n % 18446744073709551616 := by rw [IntKind.wrap_u64]
  have HU := Lib.hid hu2
  obtain ⟨hu0, hu1⟩ := hu
  clear hu2
  go_enter Try.func42, Try.ntmps42
  go_wp2_with fail
  generalize IntKind.u64.wrap n = u at *
  have hO0 : ((w.alloc (.cells #[.int .i64 1, .int .i64 n, .string s] 106)).alloc (.cells #[.int .u8 1] 5)).ownsRow w.heap.size 5 1 (.slice (some ⟨w.heap.size + 1, 0, none⟩) 1 1) 1 (codeC 1 n s 1) :=
    ⟨rfl, Or.inr ⟨w.heap.size + 1, 1, #[.int .u8 1], rfl, by omega, by simpa using heap_alloc_new (w.alloc (.cells #[.int .i64 1, .int .i64 n, .string s] 106)) (.cells #[.int .u8 1] 5), Nat.le_refl _, by decide, rfl, rfl⟩⟩
  have HO0 := Lib.hid hO0
  clear hO0
  go_loopw [3, 5] (fun r i wr => ∃ (k g c : Nat), k ≤ 8 ∧ i = .int .i64 k ∧ r = .slice (some ⟨g, 0, none⟩) (k + 1) c ∧ Hid (wr.ownsRow w.heap.size 5 1 (.slice (some ⟨g, 0, none⟩) (k + 1) c) (k + 1) (codeC 1 n s (k + 1))) ∧ Hid (Below w.heap.size w wr)) (fun _ i _ => 8 - (intOf i).toNat)
  case atStart => exact ⟨0, w.heap.size + 1, 1, by omega, rfl, rfl, HO0.out, blA (blA (Below.refl _ _) _) _⟩
  case round =>
    obtain ⟨k, g, c, hk, rfl, rfl, hO, hB⟩ := hrel
    by_cases hlt : k < 8
    · rcases (by omega : k = 0 ∨ k = 1 ∨ k = 2 ∨ k = 3 ∨ k = 4 ∨ k = 5 ∨ k = 6 ∨ k = 7) with rfl | rfl | rfl | rfl | rfl | rfl | rfl | rfl
      · simp only [Nat.zero_add, Nat.reduceAdd] at hO
        go_wp2_with (with_reducible refine wpList_append_own _ rfl (.tmp 32) (.tmp 34) 63 rfl w.heap.size 5 i0 (.int .u8 0) 1 1 Try.underlying63 HI0.out HZ0.out HZ1.out HZ2.out rfl (by decide) _ _ _ rfl (hO.out.alloc _) ⟨wr.heap.size, 0, none⟩ 1 1 [.int .u8 (bits BinOp.xor IntKind.u8 (u / 72057594037927936) 128)] rfl rfl ?c1 ?c2 ?c3 ?c4 ?c5 ?_)
        case c2 => intro u hu; rw [List.mem_singleton.1 hu]; rfl
        case c3 => unfold maxLen; omega
        case c4 => omega
        case c1 => exact append1k (by go_simp)
        case c5 => have := hB.out.size; simp; omega
        intro v' w4 hown4 hgrow4 hne
        have hb4 : Below w.heap.size w w4 := (blA hB.out _).grown hgrow4 (blA hB.out _).size (fun k' hk' => (hO.out.lt k' hk').1)
        have ex : (bits BinOp.xor IntKind.u8 (u / 72057594037927936) 128) = cdv 1 n s (0 + 1) := by
          rw [cdv_num _ _ _ (by decide)]; rw [bits_xor128 _ (by omega) (by omega)]
          have hu := HU.out
          simp only [Nat.reduceSub, Nat.reduceAdd, Int.reducePow]; omega
        rw [ex, ← codeC_snoc] at hown4
        obtain ⟨g', c', rfl, hg1, hg2, hg3, hg4⟩ := own_form hown4 hne
        have HO4 := Lib.hid hown4
        have HB4 := Lib.hid hb4
        clear hown4 hgrow4 hne hb4 ex
        go_wp2_with fail
        go_roundw
        case rel => exact ⟨0 + 1, g', c', by omega, rfl, rfl, HO4, HB4⟩
        case measure => simp [intOf]
      · simp only [Nat.zero_add, Nat.reduceAdd] at hO
        go_wp2_with (with_reducible refine wpList_append_own _ rfl (.tmp 32) (.tmp 34) 63 rfl w.heap.size 5 i0 (.int .u8 0) 1 1 Try.underlying63 HI0.out HZ0.out HZ1.out HZ2.out rfl (by decide) _ _ _ rfl (hO.out.alloc _) ⟨wr.heap.size, 0, none⟩ 1 1 [.int .u8 (u / 281474976710656 % 256)] rfl rfl ?c1 ?c2 ?c3 ?c4 ?c5 ?_)
        case c2 => intro u hu; rw [List.mem_singleton.1 hu]; rfl
        case c3 => unfold maxLen; omega
        case c4 => omega
        case c1 => exact append1k (by go_simp)
        case c5 => have := hB.out.size; simp; omega
        intro v' w4 hown4 hgrow4 hne
        have hb4 : Below w.heap.size w w4 := (blA hB.out _).grown hgrow4 (blA hB.out _).size (fun k' hk' => (hO.out.lt k' hk').1)
        have ex : (u / 281474976710656 % 256) = cdv 1 n s (1 + 1) := by
          rw [cdv_num _ _ _ (by decide)]
          have hu := HU.out
          simp only [Nat.reduceSub, Nat.reduceAdd, Int.reducePow]; omega
        rw [ex, ← codeC_snoc] at hown4
        obtain ⟨g', c', rfl, hg1, hg2, hg3, hg4⟩ := own_form hown4 hne
        have HO4 := Lib.hid hown4
        have HB4 := Lib.hid hb4
        clear hown4 hgrow4 hne hb4 ex
        go_wp2_with fail
        go_roundw
        case rel => exact ⟨1 + 1, g', c', by omega, rfl, rfl, HO4, HB4⟩
        case measure => simp [intOf]
      · simp only [Nat.zero_add, Nat.reduceAdd] at hO
        go_wp2_with (with_reducible refine wpList_append_own _ rfl (.tmp 32) (.tmp 34) 63 rfl w.heap.size 5 i0 (.int .u8 0) 1 1 Try.underlying63 HI0.out HZ0.out HZ1.out HZ2.out rfl (by decide) _ _ _ rfl (hO.out.alloc _) ⟨wr.heap.size, 0, none⟩ 1 1 [.int .u8 (u / 1099511627776 % 256)] rfl rfl ?c1 ?c2 ?c3 ?c4 ?c5 ?_)
        case c2 => intro u hu; rw [List.mem_singleton.1 hu]; rfl
        case c3 => unfold maxLen; omega
        case c4 => omega
        case c1 => exact append1k (by go_simp)
        case c5 => have := hB.out.size; simp; omega
        intro v' w4 hown4 hgrow4 hne
        have hb4 : Below w.heap.size w w4 := (blA hB.out _).grown hgrow4 (blA hB.out _).size (fun k' hk' => (hO.out.lt k' hk').1)
        have ex : (u / 1099511627776 % 256) = cdv 1 n s (2 + 1) := by
          rw [cdv_num _ _ _ (by decide)]
          have hu := HU.out
          simp only [Nat.reduceSub, Nat.reduceAdd, Int.reducePow]; omega
        rw [ex, ← codeC_snoc] at hown4
        obtain ⟨g', c', rfl, hg1, hg2, hg3, hg4⟩ := own_form hown4 hne
        have HO4 := Lib.hid hown4
        have HB4 := Lib.hid hb4
        clear hown4 hgrow4 hne hb4 ex
        go_wp2_with fail
        go_roundw
        case rel => exact ⟨2 + 1, g', c', by omega, rfl, rfl, HO4, HB4⟩
        case measure => simp [intOf]
      · simp only [Nat.zero_add, Nat.reduceAdd] at hO
        go_wp2_with (with_reducible refine wpList_append_own _ rfl (.tmp 32) (.tmp 34) 63 rfl w.heap.size 5 i0 (.int .u8 0) 1 1 Try.underlying63 HI0.out HZ0.out HZ1.out HZ2.out rfl (by decide) _ _ _ rfl (hO.out.alloc _) ⟨wr.heap.size, 0, none⟩ 1 1 [.int .u8 (u / 4294967296 % 256)] rfl rfl ?c1 ?c2 ?c3 ?c4 ?c5 ?_)
        case c2 => intro u hu; rw [List.mem_singleton.1 hu]; rfl
        case c3 => unfold maxLen; omega
        case c4 => omega
        case c1 => exact append1k (by go_simp)
        case c5 => have := hB.out.size; simp; omega
        intro v' w4 hown4 hgrow4 hne
        have hb4 : Below w.heap.size w w4 := (blA hB.out _).grown hgrow4 (blA hB.out _).size (fun k' hk' => (hO.out.lt k' hk').1)
        have ex : (u / 4294967296 % 256) = cdv 1 n s (3 + 1) := by
          rw [cdv_num _ _ _ (by decide)]
          have hu := HU.out
          simp only [Nat.reduceSub, Nat.reduceAdd, Int.reducePow]; omega
        rw [ex, ← codeC_snoc] at hown4
        obtain ⟨g', c', rfl, hg1, hg2, hg3, hg4⟩ := own_form hown4 hne
        have HO4 := Lib.hid hown4
        have HB4 := Lib.hid hb4
        clear hown4 hgrow4 hne hb4 ex
        go_wp2_with fail
        go_roundw
        case rel => exact ⟨3 + 1, g', c', by omega, rfl, rfl, HO4, HB4⟩
        case measure => simp [intOf]
      · simp only [Nat.zero_add, Nat.reduceAdd] at hO
        go_wp2_with (with_reducible refine wpList_append_own _ rfl (.tmp 32) (.tmp 34) 63 rfl w.heap.size 5 i0 (.int .u8 0) 1 1 Try.underlying63 HI0.out HZ0.out HZ1.out HZ2.out rfl (by decide) _ _ _ rfl (hO.out.alloc _) ⟨wr.heap.size, 0, none⟩ 1 1 [.int .u8 (u / 16777216 % 256)] rfl rfl ?c1 ?c2 ?c3 ?c4 ?c5 ?_)
        case c2 => intro u hu; rw [List.mem_singleton.1 hu]; rfl
        case c3 => unfold maxLen; omega
        case c4 => omega
        case c1 => exact append1k (by go_simp)
        case c5 => have := hB.out.size; simp; omega
        intro v' w4 hown4 hgrow4 hne
        have hb4 : Below w.heap.size w w4 := (blA hB.out _).grown hgrow4 (blA hB.out _).size (fun k' hk' => (hO.out.lt k' hk').1)
        have ex : (u / 16777216 % 256) = cdv 1 n s (4 + 1) := by
          rw [cdv_num _ _ _ (by decide)]
          have hu := HU.out
          simp only [Nat.reduceSub, Nat.reduceAdd, Int.reducePow]; omega
        rw [ex, ← codeC_snoc] at hown4
        obtain ⟨g', c', rfl, hg1, hg2, hg3, hg4⟩ := own_form hown4 hne
        have HO4 := Lib.hid hown4
        have HB4 := Lib.hid hb4
        clear hown4 hgrow4 hne hb4 ex
        go_wp2_with fail
        go_roundw
        case rel => exact ⟨4 + 1, g', c', by omega, rfl, rfl, HO4, HB4⟩
        case measure => simp [intOf]
      · simp only [Nat.zero_add, Nat.reduceAdd] at hO
        go_wp2_with (with_reducible refine wpList_append_own _ rfl (.tmp 32) (.tmp 34) 63 rfl w.heap.size 5 i0 (.int .u8 0) 1 1 Try.underlying63 HI0.out HZ0.out HZ1.out HZ2.out rfl (by decide) _ _ _ rfl (hO.out.alloc _) ⟨wr.heap.size, 0, none⟩ 1 1 [.int .u8 (u / 65536 % 256)] rfl rfl ?c1 ?c2 ?c3 ?c4 ?c5 ?_)
        case c2 => intro u hu; rw [List.mem_singleton.1 hu]; rfl
        case c3 => unfold maxLen; omega
        case c4 => omega
        case c1 => exact append1k (by go_simp)
        case c5 => have := hB.out.size; simp; omega
        intro v' w4 hown4 hgrow4 hne
        have hb4 : Below w.heap.size w w4 := (blA hB.out _).grown hgrow4 (blA hB.out _).size (fun k' hk' => (hO.out.lt k' hk').1)
        have ex : (u / 65536 % 256) = cdv 1 n s (5 + 1) := by
          rw [cdv_num _ _ _ (by decide)]
          have hu := HU.out
          simp only [Nat.reduceSub, Nat.reduceAdd, Int.reducePow]; omega
        rw [ex, ← codeC_snoc] at hown4
        obtain ⟨g', c', rfl, hg1, hg2, hg3, hg4⟩ := own_form hown4 hne
        have HO4 := Lib.hid hown4
        have HB4 := Lib.hid hb4
        clear hown4 hgrow4 hne hb4 ex
        go_wp2_with fail
        go_roundw
        case rel => exact ⟨5 + 1, g', c', by omega, rfl, rfl, HO4, HB4⟩
        case measure => simp [intOf]
      · simp only [Nat.zero_add, Nat.reduceAdd] at hO
        go_wp2_with (with_reducible refine wpList_append_own _ rfl (.tmp 32) (.tmp 34) 63 rfl w.heap.size 5 i0 (.int .u8 0) 1 1 Try.underlying63 HI0.out HZ0.out HZ1.out HZ2.out rfl (by decide) _ _ _ rfl (hO.out.alloc _) ⟨wr.heap.size, 0, none⟩ 1 1 [.int .u8 (u / 256 % 256)] rfl rfl ?c1 ?c2 ?c3 ?c4 ?c5 ?_)
        case c2 => intro u hu; rw [List.mem_singleton.1 hu]; rfl
        case c3 => unfold maxLen; omega
        case c4 => omega
        case c1 => exact append1k (by go_simp)
        case c5 => have := hB.out.size; simp; omega
        intro v' w4 hown4 hgrow4 hne
        have hb4 : Below w.heap.size w w4 := (blA hB.out _).grown hgrow4 (blA hB.out _).size (fun k' hk' => (hO.out.lt k' hk').1)
        have ex : (u / 256 % 256) = cdv 1 n s (6 + 1) := by
          rw [cdv_num _ _ _ (by decide)]
          have hu := HU.out
          simp only [Nat.reduceSub, Nat.reduceAdd, Int.reducePow]; omega
        rw [ex, ← codeC_snoc] at hown4
        obtain ⟨g', c', rfl, hg1, hg2, hg3, hg4⟩ := own_form hown4 hne
        have HO4 := Lib.hid hown4
        have HB4 := Lib.hid hb4
        clear hown4 hgrow4 hne hb4 ex
        go_wp2_with fail
        go_roundw
        case rel => exact ⟨6 + 1, g', c', by omega, rfl, rfl, HO4, HB4⟩
        case measure => simp [intOf]
      · simp only [Nat.zero_add, Nat.reduceAdd] at hO
        go_wp2_with (with_reducible refine wpList_append_own _ rfl (.tmp 32) (.tmp 34) 63 rfl w.heap.size 5 i0 (.int .u8 0) 1 1 Try.underlying63 HI0.out HZ0.out HZ1.out HZ2.out rfl (by decide) _ _ _ rfl (hO.out.alloc _) ⟨wr.heap.size, 0, none⟩ 1 1 [.int .u8 (u % 256)] rfl rfl ?c1 ?c2 ?c3 ?c4 ?c5 ?_)
        case c2 => intro u hu; rw [List.mem_singleton.1 hu]; rfl
        case c3 => unfold maxLen; omega
        case c4 => omega
        case c1 => exact append1k (by go_simp)
        case c5 => have := hB.out.size; simp; omega
        intro v' w4 hown4 hgrow4 hne
        have hb4 : Below w.heap.size w w4 := (blA hB.out _).grown hgrow4 (blA hB.out _).size (fun k' hk' => (hO.out.lt k' hk').1)
        have ex : (u % 256) = cdv 1 n s (7 + 1) := by
          rw [cdv_num _ _ _ (by decide)]
          have hu := HU.out
          simp only [Nat.reduceSub, Nat.reduceAdd, Int.reducePow]; omega
        rw [ex, ← codeC_snoc] at hown4
        obtain ⟨g', c', rfl, hg1, hg2, hg3, hg4⟩ := own_form hown4 hne
        have HO4 := Lib.hid hown4
        have HB4 := Lib.hid hb4
        clear hown4 hgrow4 hne hb4 ex
        go_wp2_with fail
        go_roundw
        case rel => exact ⟨7 + 1, g', c', by omega, rfl, rfl, HO4, HB4⟩
        case measure => simp [intOf]
    · obtain rfl : k = 8 := by omega
      have hcv := run_convert_bytes_arg (P := Try.prog) wr 63 5 Try.underlying63 Try.underlying5 g 0 9 c [cdv 1 n s 0, cdv 1 n s 1, cdv 1 n s 2, cdv 1 n s 3, cdv 1 n s 4, cdv 1 n s 5, cdv 1 n s 6, cdv 1 n s 7, cdv 1 n s 8]
        rfl (fun i hi => by
          rw [Nat.zero_add, hO.out.cellAt i (by omega)]
          match i, hi with
          | 0, _ | 1, _ | 2, _ | 3, _ | 4, _ | 5, _ | 6, _ | 7, _ | 8, _ => rfl
          | i + 9, h => omega) 9 Try.underlying9
      change _ = Result.ok (Value.string (codeS 1 n s)) wr at hcv
      go_wp2_with fail
      go_returns
      exact ⟨rfl, hB.out⟩
/-- A number's key. -/
def keyZ (n : Int) : Nt.By := (codeS 1 n ⟨#[]⟩).data.toList
theorem key_any (n : Int) (w : World) (hn : -9223372036854775808 ≤ n) (hn2 : n ≤ 9223372036854775807) :
    Calls Try.prog 15 #[.int .i64 n] w fun e w' => e = .returned (.string (ofL (keyZ n))) ∧ Below w.heap.size w w' := by
  have h := refCode_num n ⟨#[]⟩ w (by decide) hn hn2
  go_enter Try.func15, Try.ntmps15
  go_wp2_with fail
  refine h.mono ?_
  rintro e w2 ⟨rfl, hX⟩
  have B := Lib.hid hX
  clear hX h
  go_wp2_with fail
  go_returns
  exact ⟨by unfold keyZ; rw [ofL_back]; rfl, B.out⟩
end Go.Proofs.Ythoaangmekkcmaa.Ky
end
