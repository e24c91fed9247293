/- Whole numbers of 128 bits: what the code's calls Code, Read answer. -/
import Derived.Test.YtoofoalpffoheaaWdB
import Derived.Test.YtoofoalpffoheaaSgP
import Derived.Test.YtoofoalpffoheaaLaw
namespace Go.Proofs.Ytoofoalpffoheaa.Wd
open Go.ChangeShapes Go.WideShapes Go.ChangeAt Go.RowKit Go.PlainAid Aid
open Sg (numS numS_bd bits_or256 pow_bd)
set_option linter.unusedVariables false
set_option linter.unusedSimpArgs false
/-- The bytes of two halves, the highest first. -/
def codeL (h l : Int) : List Int := [h / 72057594037927936 % 256, h / 281474976710656 % 256, h / 1099511627776 % 256, h / 4294967296 % 256, h / 16777216 % 256, h / 65536 % 256, h / 256 % 256, h % 256,
  l / 72057594037927936 % 256, l / 281474976710656 % 256, l / 1099511627776 % 256, l / 4294967296 % 256, l / 16777216 % 256, l / 65536 % 256, l / 256 % 256, l % 256]
theorem conv16 (W : World) (g : Nat) (c0 c1 c2 c3 c4 c5 c6 c7 d0 d1 d2 d3 d4 d5 d6 d7 : Int) (hB : Blk W g 78 #[.int .u8 c0, .int .u8 c1, .int .u8 c2, .int .u8 c3, .int .u8 c4, .int .u8 c5, .int .u8 c6, .int .u8 c7, .int .u8 d0, .int .u8 d1, .int .u8 d2, .int .u8 d3, .int .u8 d4, .int .u8 d5, .int .u8 d6, .int .u8 d7]) :
    (convert 60 9 (.slice (some ⟨g, 0, none⟩) 16 16)).run Try.prog W = .ok (.string (strOfNums [c0, c1, c2, c3, c4, c5, c6, c7, d0, d1, d2, d3, d4, d5, d6, d7])) W := by
  refine run_convert_bytes_arg _ 60 5 Try.underlying60 Try.underlying5 g 0 16 16 [c0, c1, c2, c3, c4, c5, c6, c7, d0, d1, d2, d3, d4, d5, d6, d7] rfl ?_ _ Try.underlying9
  intro i hi
  rw [Nat.zero_add]
  match i, hi with
  | 0, _ | 1, _ | 2, _ | 3, _ | 4, _ | 5, _ | 6, _ | 7, _ | 8, _ | 9, _ | 10, _ | 11, _ | 12, _ | 13, _ | 14, _ | 15, _ => rw [hB.cell]; rfl
  | i + 16, h => omega
theorem conv16a (W : World) (c0 c1 c2 c3 c4 c5 c6 c7 d0 d1 d2 d3 d4 d5 d6 d7 : Int) :
    (convert 60 9 (.slice (some ⟨W.heap.size, 0, none⟩) 16 16)).run Try.prog (W.alloc (.cells #[.int .u8 c0, .int .u8 c1, .int .u8 c2, .int .u8 c3, .int .u8 c4, .int .u8 c5, .int .u8 c6, .int .u8 c7, .int .u8 d0, .int .u8 d1, .int .u8 d2, .int .u8 d3, .int .u8 d4, .int .u8 d5, .int .u8 d6, .int .u8 d7] 78))
      = .ok (.string (strOfNums [c0, c1, c2, c3, c4, c5, c6, c7, d0, d1, d2, d3, d4, d5, d6, d7])) (W.alloc (.cells #[.int .u8 c0, .int .u8 c1, .int .u8 c2, .int .u8 c3, .int .u8 c4, .int .u8 c5, .int .u8 c6, .int .u8 c7, .int .u8 d0, .int .u8 d1, .int .u8 d2, .int .u8 d3, .int .u8 d4, .int .u8 d5, .int .u8 d6, .int .u8 d7] 78)) :=
  conv16 _ _ _ _ _ _ _ _ _ _ _ _ _ _ _ _ _ _ ((((Own.none W).alloc _ _).has (Has.l (has_blk _ _ _))))
set_option maxHeartbeats 1000000 in
theorem Code_parts (H L : Int) (w : World) :
    Calls Try.prog 22 #[.agg #[.int .i64 H, .int .u64 L]] w fun e w' => e = .returned (.string (strOfNums (codeL H L))) ∧ Below w.heap.size w w' := by
  unfold codeL
  have hcv := conv16a (w.alloc (.cells #[.int .i64 H, .int .u64 L] 24))
    (H / 72057594037927936 % 256) (H / 281474976710656 % 256) (H / 1099511627776 % 256) (H / 4294967296 % 256) (H / 16777216 % 256) (H / 65536 % 256) (H / 256 % 256) (H % 256)
    (L / 72057594037927936 % 256) (L / 281474976710656 % 256) (L / 1099511627776 % 256) (L / 4294967296 % 256) (L / 16777216 % 256) (L / 65536 % 256) (L / 256 % 256) (L % 256)
  rw [World.size_alloc] at hcv
  go_enter Try.func22, Try.ntmps22
  go_wp2_with fail
  go_rounds 9
  go_returns
  exact ⟨rfl, blA (blA (Below.refl _ _) _) _⟩
set_option maxHeartbeats 400000 in
theorem readHalf_any (s : ByteArray) (w : World) (hs : s.size = 8) :
    Calls Try.prog 46 #[.string s] w fun e w' => e = .returned (.int .u64 (numS s 8)) ∧ w' = w := by
  have hb := get_bt s
  have HS := Lib.hid hs
  have hs1 : s.size ≤ 8 := by omega
  have hs2 : 8 ≤ s.size := by omega
  generalize hN : numS s 8 = N at *
  have HN := Lib.hid hN
  clear hN hs
  go_enter Try.func46, Try.ntmps46
  go_wp2
  go_loop [3, 7] (fun u i => ∃ k : Nat, k ≤ 8 ∧ i = .int .i64 k ∧ u = .int .u64 (numS s k)) (fun _ i => 8 - (intOf i).toNat)
  case atStart => exact ⟨0, by omega, rfl, rfl⟩
  case round =>
    obtain ⟨k, hk, rfl, rfl⟩ := hrel
    by_cases hlt : k < 8
    · have hor := bits_or256 (numS s k) (bt s k) (numS_bd s k).1 (by have := (numS_bd s k).2; have := pow_bd k (by omega); omega) (bt_nonneg s k) (bt_le s k)
      have HO := Lib.hid hor
      clear hor
      go_wp2
      go_round
      case rel => exact ⟨k + 1, by omega, by go_num, by rw [HO.out]; rfl⟩
      case measure => simp [intOf]; omega
    · obtain rfl : k = 8 := by omega
      have e8 := HN.out
      generalize numS s 8 = N' at *
      subst e8
      go_wp2
      go_returns
      exact ⟨rfl, rfl⟩
def mk (h l : Int) : BitVec 128 := BitVec.ofNat 128 ((h % 18446744073709551616) * 18446744073709551616 + l).toNat
theorem mk_parts (h l : Int) (hh : -9223372036854775808 ≤ h ∧ h ≤ 9223372036854775807) (hl : 0 ≤ l ∧ l < 18446744073709551616) : hi (mk h l) = h ∧ lo (mk h l) = l := by
  refine of_parts _ _ _ hh hl ?_
  unfold mk
  rw [BitVec.toNat_ofNat]
  omega
def readZ (s : ByteArray) : BitVec 128 := mk (wrap64 (numS (s.extract 0 8) 8)) (numS (s.extract 8 16) 8)
theorem num8 (s : ByteArray) : 0 ≤ numS s 8 ∧ numS s 8 < 18446744073709551616 := numS_bd s 8
theorem readZ_parts (s : ByteArray) : hi (readZ s) = wrap64 (numS (s.extract 0 8) 8) ∧ lo (readZ s) = numS (s.extract 8 16) 8 := mk_parts _ _ (w64 _).1 (num8 _)
theorem Read_no (s : ByteArray) (w : World) (hm : s.size ≤ maxLen) (hs : ¬ s.size = 16) :
    Calls Try.prog 39 #[.string s] w fun e w' => e = .returned (.tuple #[.agg #[.int .i64 0, .int .u64 0], .int .i64 3]) ∧ Below w.heap.size w w' := by
  unfold maxLen at hm
  have e1 : ((s.size : Int) != 16) = true := by rw [bne_iff_ne]; omega
  go_enter Try.func39, Try.ntmps39
  go_wp2_with fail
  go_returns
  exact ⟨rfl, blA (Below.refl _ _) _⟩
theorem resWE {fn : Func} {x y : Nat} {tm : Array Value} {w : World} {g : Nat} {a0 a1 v : Value} (hf : fn.results = #[.cell x 24, .tmp y]) (hx : tm[x]?.getD undef = .pointer (some ⟨g, 0, none⟩)) (hy : tm[y]?.getD undef = v)
    (hB : Blk w g 24 #[a0, a1]) : (results fn tm).run Try.prog w = .ok (.tuple #[.agg #[a0, a1], v]) w := by
  have c0 := hB.cell 0
  have c1 := hB.cell 1
  clear hB
  unfold results
  rw [hf]
  simp only [List.getElem?_toArray, List.getElem?_cons_zero, List.getElem?_cons_succ] at c0 c1
  simp [go_sem, hx, hy, c0, c1]
theorem Read_yes (s : ByteArray) (w : World) (hs : s.size = 16) :
    Calls Try.prog 39 #[.string s] w fun e w' => e = .returned (.tuple #[Wv (readZ s), .int .i64 0]) ∧ Below w.heap.size w w' := by
  have R1 := fun w => readHalf_any (s.extract 0 8) w (by simp [ByteArray.size_extract]; omega)
  have R2 := fun w => readHalf_any (s.extract 8 16) w (by simp [ByteArray.size_extract]; omega)
  obtain ⟨p1, p2⟩ := readZ_parts s
  unfold Wv
  rw [p1, p2]
  generalize numS (s.extract 0 8) 8 = A, numS (s.extract 8 16) 8 = B at *
  clear p1 p2
  have e1 : ((s.size : Int) != 16) = false := by rw [bne_eq_false_iff_eq]; omega
  have x1 : ∀ w, (Instr.slice 9 (.string s) none (some (.int .i64 8)) none).run Try.prog w = .ok (.string (s.extract 0 8)) w := fun w => slice_to Try.underlying9 s 8 8 rfl (by omega) w
  have x2 : ∀ w, (Instr.slice 9 (.string s) (some (.int .i64 8)) none none).run Try.prog w = .ok (.string (s.extract 8 16)) w := fun w => by
    rw [run_slice_string_from_if (h := Try.underlying9), if_pos (by omega), hs]; rfl
  clear hs
  generalize s.extract 0 8 = sA, s.extract 8 16 = sB at *
  go_enter Try.func39, Try.ntmps39
  go_wp2_with fail
  have S0 := Lib.hid ((Own.none w).alloc #[.int .i64 0, .int .u64 0] 24)
  obtain ⟨g2, hgz⟩ : ∃ g, g = w.heap.size := ⟨_, rfl⟩
  rw [← hgz] at S0 ⊢
  clear hgz
  generalize World.alloc w _ = w1 at *
  refine wp_region_still_tail 8 (by kernel_rfl) (by kernel_rfl) ?_
  simp only [List.take_succ_cons, List.take_zero, List.drop_succ_cons, List.drop_zero]
  change wpStill _ _ w1.drew _ _ _
  repeat still_step
  still_call (R1 _)
  repeat still_step
  still_call (R2 _)
  repeat still_step
  refine wpStill_nil ?_
  change wpList _ _ _ _ _ w1.drew
  have S1 := Lib.hid (S0.out.drewN 1)
  change Hid (Own w No w1.drew _) at S1
  clear S0
  generalize w1.drew = w2 at *
  obtain ⟨⟨c0, c1⟩, f0, f1⟩ := two_of (S1.out.has (Has.l (has_blk g2 _ _)))
  have S2 := Lib.hid (own_2 S1.out (.int .i64 (wrap64 A)) (.int .u64 B))
  go_wp2_with fail
  exact bodyPost_ret (resWE (x := 2) (y := 3) (v := .int .i64 0) rfl rfl rfl (S2.out.has (Has.l (has_blk g2 _ _)))) rfl ⟨rfl, S2.out.bel⟩
theorem nums_getD (xs : List Int) (k : Nat) (h : ∀ x ∈ xs, 0 ≤ x ∧ x < 256) : bt (strOfNums xs) k = xs.getD k 0 := by
  rw [bt_list, strOfNums_data]
  rcases Nat.lt_or_ge k xs.length with hk | hk
  · have hx := h xs[k] (List.getElem_mem hk)
    rw [List.getD, List.getD, List.getElem?_map, List.getElem?_eq_getElem hk]
    show ((UInt8.ofNat (xs[k]).toNat).toNat : Int) = xs[k]
    rw [UInt8.toNat_ofNat']
    omega
  · rw [List.getD, List.getD, List.getElem?_eq_none (by simpa using hk), List.getElem?_eq_none hk]
    rfl
theorem codeL_bd (h l : Int) : ∀ x ∈ codeL h l, 0 ≤ x ∧ x < 256 := by
  intro x hx
  unfold codeL at hx
  simp only [List.mem_cons, List.not_mem_nil, or_false] at hx
  rcases hx with rfl | rfl | rfl | rfl | rfl | rfl | rfl | rfl | rfl | rfl | rfl | rfl | rfl | rfl | rfl | rfl <;> omega
theorem code_size (h l : Int) : (strOfNums (codeL h l)).size = 16 := by rw [strOfNums_size]; rfl
theorem code_num (h l : Int) : numS ((strOfNums (codeL h l)).extract 0 8) 8 = h % 18446744073709551616 ∧ numS ((strOfNums (codeL h l)).extract 8 16) 8 = l % 18446744073709551616 := by
  have e : ∀ a b k, bt ((strOfNums (codeL h l)).extract a b) k = if k < b - a then (codeL h l).getD (a + k) 0 else 0 := fun a b k => by
    rw [bt_extract, nums_getD _ _ (codeL_bd h l)]
  constructor
  · simp only [numS, e]
    simp [codeL]
    omega
  · simp only [numS, e]
    simp [codeL]
    omega
theorem read_code (x : BitVec 128) : readZ (strOfNums (codeL (hi x) (lo x))) = x := by
  obtain ⟨e1, e2⟩ := readZ_parts (strOfNums (codeL (hi x) (lo x)))
  obtain ⟨n1, n2⟩ := code_num (hi x) (lo x)
  have b1 := hi_bd x; have b2 := lo_bd x
  rw [n1] at e1; rw [n2] at e2
  refine same (e1.trans ?_) (e2.trans ?_)
  · unfold wrap64; omega
  · omega
end Go.Proofs.Ytoofoalpffoheaa.Wd
