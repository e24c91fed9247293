import Derived.Test.YtfofkmampaaonaaDoorCrG
import Derived.Laws.Cover1
namespace Go.Proofs.YtfofkmampaaonaaDoor.Cr
open Go.ChangeShapes Go.WideShapes Go.ChangeAt Go.RowKit Go.PlainAid Aid
set_option linter.unusedVariables false
set_option linter.unusedSimpArgs false

theorem bx8 (x y : UInt8) : bits BinOp.xor IntKind.u8 (x.toNat : Int) (y.toNat : Int) = ((x ^^^ y).toNat : Int) := by
  show IntKind.u8.wrap (((BitVec.ofInt 8 (x.toNat : Int)) ^^^ (BitVec.ofInt 8 (y.toNat : Int))).toNat : Int) = _
  rw [BitVec.ofInt_natCast, BitVec.ofInt_natCast, IntKind.wrap_u8, UInt8.toNat_xor, BitVec.toNat_xor, BitVec.toNat_ofNat, BitVec.toNat_ofNat]
  have h1 := x.toNat_lt; have h2 := y.toNat_lt
  rw [Nat.mod_eq_of_lt h1, Nat.mod_eq_of_lt h2]
  have := Nat.xor_lt_two_pow (n := 8) (x := x.toNat) (y := y.toNat) (by omega) (by omega)
  omega
def zip3 (a b c : List UInt8) (k : Nat) : List UInt8 := List.zipWith (· ^^^ ·) (List.zipWith (· ^^^ ·) (a.take k) (b.take k)) (c.take k)
theorem zip3_length (a b c : List UInt8) (k : Nat) (ha : k ≤ a.length) (hb : k ≤ b.length) (hc : k ≤ c.length) : (zip3 a b c k).length = k := by
  unfold zip3; simp only [List.length_zipWith, List.length_take]; omega
theorem zip3_snoc (a b c : List UInt8) (k : Nat) (x y z : UInt8) (hx : a[k]? = some x) (hy : b[k]? = some y) (hz : c[k]? = some z) : zip3 a b c (k + 1) = zip3 a b c k ++ [x ^^^ y ^^^ z] := by
  have ha := (List.getElem?_eq_some_iff.1 hx).1
  have hb := (List.getElem?_eq_some_iff.1 hy).1
  have hc := (List.getElem?_eq_some_iff.1 hz).1
  unfold zip3
  rw [List.take_add_one, List.take_add_one, List.take_add_one, hx, hy, hz]
  simp only [Option.toList_some]
  rw [List.zipWith_append (by simp only [List.length_take]; omega), List.zipWith_append (by simp only [List.length_zipWith, List.length_take]; omega)]
  rfl
theorem crc_zip3 (a b c : List UInt8) (k : Nat) (ha : k ≤ a.length) (hb : k ≤ b.length) (hc : k ≤ c.length) : crc (zip3 a b c k) = crc (a.take k) ^^^ crc (b.take k) ^^^ crc (c.take k) :=
  crc_xor3 _ _ _ (by simp only [List.length_take]; omega) (by simp only [List.length_take]; omega)
theorem byteAt (s : ByteArray) (k : Nat) (h : k < s.size) : ∃ x, s.data.toList[k]? = some x ∧ bt s k = (x.toNat : Int) := by
  have hl : k < s.data.toList.length := by rw [← Lib.size_eq]; exact h
  exact ⟨s.data.toList[k], List.getElem?_eq_getElem hl, by rw [bt_list, List.getD, List.getElem?_eq_getElem hl]; rfl⟩
theorem info_u8 : (Tryd.prog.info? 5).map (fun i => (i.zero, i.size, i.bytes)) = some (some (.int .u8 0), 1, 1) := by kernel_rfl

set_option maxHeartbeats 1000000 in
theorem lin_long (a b c : ByteArray) (w : World) (ht : Tab w) (ha : a.size ≤ maxLen) (hb : b.size ≤ maxLen) (hc : c.size ≤ maxLen) (n : Nat) (hm : ∀ W, (Builtin.min_ #[3, 3, 3] 3 #[.int .i64 a.size, .int .i64 b.size, .int .i64 c.size]).run Tryd.prog W = .ok (.int .i64 n) W) (h : 512 < n) :
    Calls Tryd.prog 5 #[.string a, .string b, .string c] w fun e w' => e = .returned (.bool true) ∧ Below w.heap.size w w' := by
  unfold maxLen at ha hb hc
  have HT := Lib.hid ht
  clear ht
  have H0 := Lib.hid (fun w ht => awake_any w ht)
  go_enter Tryd.func5, Tryd.ntmps5
  go_wp2_with fail
  refine (H0.out _ HT.out).mono ?_
  rintro e w1 ⟨rfl, hb1⟩
  go_wp2_with fail
  go_returns
  exact ⟨rfl, hb1⟩
set_option maxHeartbeats 8000000 in
theorem lin_short (a b c : ByteArray) (w : World) (ht : Tab w) (ha : a.size ≤ maxLen) (hb : b.size ≤ maxLen) (hc : c.size ≤ maxLen) (n : Nat) (hm : ∀ W, (Builtin.min_ #[3, 3, 3] 3 #[.int .i64 a.size, .int .i64 b.size, .int .i64 c.size]).run Tryd.prog W = .ok (.int .i64 n) W) (h : n ≤ 512) (na : n ≤ a.size) (nb : n ≤ b.size) (nc : n ≤ c.size) :
    Calls Tryd.prog 5 #[.string a, .string b, .string c] w fun e w' => e = .returned (.bool true) ∧ Below w.heap.size w w' := by
  unfold maxLen at ha hb hc
  obtain ⟨i0, hi0, hz0, hz1, hz2⟩ := info_parts info_u8
  have HI0 := Lib.hid hi0
  have HZ0 := Lib.hid hz0
  have HZ1 := Lib.hid hz1
  have HZ2 := Lib.hid hz2
  clear hi0 hz0 hz1 hz2
  have HT := Lib.hid ht
  clear ht
  have ga := get_bt a
  have gb := get_bt b
  have gc := get_bt c
  have H0 := Lib.hid (fun w ht => awake_any w ht)
  have h20 : decide ((512 : Int) < (n : Int)) = false := decide_eq_false (by omega)
  go_enter Tryd.func5, Tryd.ntmps5
  go_wp2_with fail
  refine (H0.out _ HT.out).mono ?_
  rintro e w1 ⟨rfl, hb1⟩
  have T1 := Lib.hid (HT.out.keep hb1)
  go_wp2_with fail
  have HO : Hid ((w1.alloc (.cells #[] 5)).ownsRow w.heap.size 5 1 (.slice (some ⟨w1.heap.size, 0, none⟩) 0 0) 0 (Lib.byteCells (zip3 a.data.toList b.data.toList c.data.toList 0))) :=
    ⟨rfl, Or.inr ⟨w1.heap.size, 0, #[], rfl, hb1.size, heap_alloc_new w1 _, by omega, by decide, rfl, rfl⟩⟩
  have HB : Hid (Below w.heap.size w (w1.alloc (.cells #[] 5))) := blA hb1 _
  clear hb1
  go_loopw [8, 9] (fun x i wr => ∃ (k g cap : Nat), k ≤ n ∧ i = .int .i64 k ∧ x = .slice (some ⟨g, 0, none⟩) k cap ∧ Hid (wr.ownsRow w.heap.size 5 1 (.slice (some ⟨g, 0, none⟩) k cap) k (Lib.byteCells (zip3 a.data.toList b.data.toList c.data.toList k))) ∧ Hid (Below w.heap.size w wr)) (fun _ i _ => n - (intOf i).toNat)
  case atStart => exact ⟨0, w1.heap.size, 0, by omega, rfl, rfl, HO, HB⟩
  case round =>
    obtain ⟨k, g, cap, hk, rfl, rfl, hO, hB⟩ := hrel
    by_cases hlt : k < n
    · obtain ⟨x, hx, bx⟩ := byteAt a k (by omega)
      obtain ⟨y, hy, bY⟩ := byteAt b k (by omega)
      obtain ⟨z, hz, bz⟩ := byteAt c k (by omega)
      have hsn := zip3_snoc _ _ _ k x y z hx hy hz
      have e1 := bx8 x y
      have e2 := bx8 (x ^^^ y) z
      rw [← bx, ← bY] at e1
      rw [← bz] at e2
      have HSN := Lib.hid hsn
      have q0 : (0 : Int) ≤ (k : Int) := by omega
      have q1 : (k : Int) < (a.size : Int) := by omega
      have q2 : (k : Int) < (b.size : Int) := by omega
      have q3 : (k : Int) < (c.size : Int) := by omega
      clear hx hy hz hsn bx bY bz
      generalize x ^^^ y = u at *
      generalize u ^^^ z = v at *
      go_wp2_with fail
      have hz5 := hB.out.size
      go_region_held3 (fun W => True) (trivial)
        ((refine step_append_lies _ (by rfl) _ _ _ (by rfl) w.heap.size 5 i0 (.int .u8 0) 1 1 Tryd.underlying31 HI0.out HZ0.out HZ1.out HZ2.out rfl (by omega) (.slice (some ⟨g, 0, none⟩) k cap) k (Lib.byteCells (zip3 a.data.toList b.data.toList c.data.toList k)) (by rfl) ((hO.out.alloc _).drew) ⟨wr.heap.size, 0, none⟩ 1 1 [.int .u8 (v.toNat : Int)] (by rfl) (by rfl) (World.news_of_block (cs := #[.int .u8 (v.toNat : Int)]) (t := 5) (fr := (0, 0)) (heap_alloc_new wr _)) (by simp [Value.oneCell']) (by omega) (by unfold maxLen; omega) (by omega) (by simp; omega) (wr.heap.size + 1) (by simp) ?_; intro gg cap1 w3 hown3 hgrow3 hat3 hlt3))
      all_goals
        have hb4 : Hid (Below w.heap.size w w3) := (blA hB.out _).drew.grown hgrow3 (by simp; omega) (fun k' hk' => (hO.out.lt k' hk').1)
        have ho4 : Hid (w3.ownsRow w.heap.size 5 1 (.slice (some ⟨gg, 0, none⟩) (k + 1) cap1) (k + 1) (Lib.byteCells (zip3 a.data.toList b.data.toList c.data.toList (k + 1)))) := by
          rw [HSN.out, byteCells_append]; exact hown3
        clear hown3 hgrow3 hat3 hlt3
        go_wp2_with fail
        go_roundw
        case rel => exact ⟨k + 1, gg, cap1, by omega, by go_num, rfl, ho4, hb4⟩
        case measure => simp [intOf]; omega
    · obtain rfl : k = n := by omega
      have hl := zip3_length a.data.toList b.data.toList c.data.toList k (by rw [← Lib.size_eq]; exact na) (by rw [← Lib.size_eq]; exact nb) (by rw [← Lib.size_eq]; exact nc)
      have hz := crc_zip3 a.data.toList b.data.toList c.data.toList k (by rw [← Lib.size_eq]; exact na) (by rw [← Lib.size_eq]; exact nb) (by rw [← Lib.size_eq]; exact nc)
      have xa : ∀ s : ByteArray, (s.extract 0 k).data.toList = s.data.toList.take k := fun s => by rw [Lib.extract_data, List.drop_zero, Nat.sub_zero]
      have S0 := fun w ht => Sum_same (ofL (zip3 a.data.toList b.data.toList c.data.toList k)) w (by rw [ofL_size, hl]; unfold maxLen; omega) ht
      have sl1 := fun W : World => run_slice_string_h (P := Tryd.prog) W 9 a Tryd.underlying9 .i64 (k : Int) (by omega) (by omega)
      have sl2 := fun W : World => run_slice_string_h (P := Tryd.prog) W 9 b Tryd.underlying9 .i64 (k : Int) (by omega) (by omega)
      have sl3 := fun W : World => run_slice_string_h (P := Tryd.prog) W 9 c Tryd.underlying9 .i64 (k : Int) (by omega) (by omega)
      rw [Int.toNat_natCast] at sl1 sl2 sl3
      have S1 := fun w ht => Sum_same (a.extract 0 k) w (by rw [ByteArray.size_extract]; unfold maxLen; omega) ht
      have S2 := fun w ht => Sum_same (b.extract 0 k) w (by rw [ByteArray.size_extract]; unfold maxLen; omega) ht
      have S3 := fun w ht => Sum_same (c.extract 0 k) w (by rw [ByteArray.size_extract]; unfold maxLen; omega) ht
      rw [xa] at S1 S2 S3
      rw [ofL_list, hz] at S0
      have e1 := nx (crc (a.data.toList.take k)) (crc (b.data.toList.take k))
      have e2 := nx (crc (a.data.toList.take k) ^^^ crc (b.data.toList.take k)) (crc (c.data.toList.take k))
      generalize crc (a.data.toList.take k) ^^^ crc (b.data.toList.take k) ^^^ crc (c.data.toList.take k) = x4 at *
      generalize crc (a.data.toList.take k) ^^^ crc (b.data.toList.take k) = x3 at *
      generalize crc (a.data.toList.take k) = x0, crc (b.data.toList.take k) = x1, crc (c.data.toList.take k) = x2 at *
      generalize a.extract 0 k = sa, b.extract 0 k = sb, c.extract 0 k = sc at *
      have R0 := Lib.hid S0
      have R1 := Lib.hid S1
      have R2 := Lib.hid S2
      have R3 := Lib.hid S3
      clear hz xa S0 S1 S2 S3
      generalize zip3 a.data.toList b.data.toList c.data.toList k = Z at *
      generalize hzz : ofL Z = sz at *
      have HZZ := Lib.hid hzz
      have HL := Lib.hid hl
      clear hzz hl
      have q0 : (0 : Int) ≤ (k : Int) := by omega
      have q1 : (k : Int) ≤ (a.size : Int) := by omega
      have q2 : (k : Int) ≤ (b.size : Int) := by omega
      have q3 : (k : Int) ≤ (c.size : Int) := by omega
      have CV : ∀ N : Nat, (convert 31 9 (.slice (some ⟨g, 0, none⟩) k cap)).run Tryd.prog (wr.drewN N) = .ok (.string sz) (wr.drewN N) := fun N => by
        have := conv_own (P := Tryd.prog) (w := wr.drewN N) (src := 31) (dst := 9) Tryd.underlying31 Tryd.underlying5 Tryd.underlying9 (ownB hO.out (blN (Below.refl _ _) N)) HL.out
        rw [HZZ.out] at this
        exact this
      have TW : Hid (Tab wr) := HT.out.keep hB.out
      go_wp2_with fail
      refine wp_region_quiet_lit (by kernel_rfl) (by kernel_rfl) ?_
      repeat (go_big_quiet_step (fail))
      go_big_quiet_step ((refine Calls.mono (R0.out _ (TW.out.drewN _)) ?_; rintro e w'' ⟨rfl, rfl⟩; exact ⟨rfl, _, rfl⟩))
      repeat (go_big_quiet_step (fail))
      go_big_quiet_step ((refine Calls.mono (R1.out _ (TW.out.drewN _)) ?_; rintro e w'' ⟨rfl, rfl⟩; exact ⟨rfl, _, rfl⟩))
      repeat (go_big_quiet_step (fail))
      go_big_quiet_step ((refine Calls.mono (R2.out _ (TW.out.drewN _)) ?_; rintro e w'' ⟨rfl, rfl⟩; exact ⟨rfl, _, rfl⟩))
      repeat (go_big_quiet_step (fail))
      go_big_quiet_step ((refine Calls.mono (R3.out _ (TW.out.drewN _)) ?_; rintro e w'' ⟨rfl, rfl⟩; exact ⟨rfl, _, rfl⟩))
      repeat (go_big_quiet_step (fail))
      refine wpQuiet_nil ?_
      intro _ hw'
      obtain ⟨nq, hw''⟩ := hw'
      subst hw''
      go_wp2_with fail
      go_returns
      exact ⟨rfl, blN hB.out _⟩

theorem lin_any (a b c : ByteArray) (w : World) (ht : Tab w) (ha : a.size ≤ maxLen) (hb : b.size ≤ maxLen) (hc : c.size ≤ maxLen) :
    Calls Tryd.prog 5 #[.string a, .string b, .string c] w fun e w' => e = .returned (.bool true) ∧ Below w.heap.size w w' := by
  have hm := fun W : World => run_min_int3 (P := Tryd.prog) (w := W) #[3, 3, 3] 3 .i64 .i64 .i64 (a.size : Int) (b.size : Int) (c.size : Int)
  obtain ⟨n, hn, na, nb, nc⟩ : ∃ n : Nat, (if (c.size : Int) < (if (b.size : Int) < (a.size : Int) then (b.size : Int) else (a.size : Int)) then (c.size : Int) else (if (b.size : Int) < (a.size : Int) then (b.size : Int) else (a.size : Int))) = (n : Int) ∧ n ≤ a.size ∧ n ≤ b.size ∧ n ≤ c.size := by
    refine ⟨min (min a.size b.size) c.size, ?_, by omega, by omega, by omega⟩
    split <;> split at * <;> omega
  rw [hn] at hm
  by_cases h : 512 < n
  · exact lin_long a b c w ht ha hb hc n hm h
  · exact lin_short a b c w ht ha hb hc n hm (by omega) na nb nc
end Go.Proofs.YtfofkmampaaonaaDoor.Cr
