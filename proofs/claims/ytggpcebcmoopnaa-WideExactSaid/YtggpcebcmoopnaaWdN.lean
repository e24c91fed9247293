/- WideExact, of every two numbers, bytes and number of 64 bits. -/
import Derived.Test.YtggpcebcmoopnaaWdM
namespace Go.Proofs.Ytggpcebcmoopnaa.Wd
open Go.ChangeShapes Go.WideShapes Go.ChangeAt Go.RowKit Go.PlainAid Aid
open Sg (numS numS_bd)
set_option linter.unusedVariables false
set_option linter.unusedSimpArgs false
theorem exact_long (a b : BitVec 128) (n : Int) (s : ByteArray) (w : World) (hs : 40 < s.size) (hm : s.size ≤ maxLen) :
    Calls Try.prog 3 #[Wv a, Wv b, .int .i64 n, .string s] w fun e w' => e = .returned (.bool true) ∧ Below w.heap.size w w' := by
  unfold maxLen at hm
  unfold Wv
  generalize hi a = ah, lo a = al, hi b = bh, lo b = bl at *
  have S0 := Lib.hid (((Own.none w).alloc #[.int .i64 ah, .int .u64 al] 24).alloc #[.int .i64 bh, .int .u64 bl] 24)
  go_enter Try.func3, Try.ntmps3
  go_upto_region 1 with fail
  generalize World.alloc (World.alloc w _) _ = w1 at *
  go_wp2_with fail
  refine (awake_any _).mono ?_
  rintro e w2 ⟨rfl, hX⟩
  have S1 := Lib.hid (S0.out.below hX)
  clear hX S0 
  have hs2 : (40 : Int) < s.size := by omega
  go_wp2_with fail
  go_returns
  exact ⟨rfl, S1.out.bel⟩
theorem sub_bits (a b : BitVec 128) : a + ~~~b + BitVec.setWidth 128 (BitVec.ofBool true) = a - b := by
  rw [BitVec.sub_eq_add_neg, BitVec.neg_eq_not_add, BitVec.add_assoc]; rfl
theorem wrap_div (N : Int) : wrap64 N / 72057594037927936 % 256 = N / 72057594037927936 % 256 ∧ wrap64 N / 281474976710656 % 256 = N / 281474976710656 % 256 ∧ wrap64 N / 1099511627776 % 256 = N / 1099511627776 % 256 ∧ wrap64 N / 4294967296 % 256 = N / 4294967296 % 256 ∧
    wrap64 N / 16777216 % 256 = N / 16777216 % 256 ∧ wrap64 N / 65536 % 256 = N / 65536 % 256 ∧ wrap64 N / 256 % 256 = N / 256 % 256 ∧ wrap64 N % 256 = N % 256 := by
  unfold wrap64
  refine ⟨?_, ?_, ?_, ?_, ?_, ?_, ?_, ?_⟩ <;> omega
theorem code_read (s : ByteArray) (hs : s.size = 16) : strOfNums (codeL (hi (readZ s)) (lo (readZ s))) = s := by
  obtain ⟨p1, p2⟩ := readZ_parts s
  have e : ∀ a b k, bt (s.extract a b) k = if k < b - a then bt s (a + k) else 0 := fun a b k => bt_extract s a b k
  have n1 : numS (s.extract 0 8) 8 = ((((((bt s 0 * 256 + bt s 1) * 256 + bt s 2) * 256 + bt s 3) * 256 + bt s 4) * 256 + bt s 5) * 256 + bt s 6) * 256 + bt s 7 := by
    simp only [numS, e]; simp
  have n2 : numS (s.extract 8 16) 8 = ((((((bt s 8 * 256 + bt s 9) * 256 + bt s 10) * 256 + bt s 11) * 256 + bt s 12) * 256 + bt s 13) * 256 + bt s 14) * 256 + bt s 15 := by
    simp only [numS, e]; simp
  refine bt_ext _ _ 16 (code_size _ _) hs fun i hi' => ?_
  rw [nums_getD _ _ (codeL_bd _ _), p1, p2]
  obtain ⟨w0, w1, w2, w3, w4, w5, w6, w7⟩ := wrap_div (numS (s.extract 0 8) 8)
  have hb := fun k => (⟨bt_nonneg s k, bt_le s k⟩ : 0 ≤ bt s k ∧ bt s k ≤ 255)
  have h0 := hb 0; have h1 := hb 1; have h2 := hb 2; have h3 := hb 3; have h4 := hb 4; have h5 := hb 5; have h6 := hb 6; have h7 := hb 7
  have h8 := hb 8; have h9 := hb 9; have h10 := hb 10; have h11 := hb 11; have h12 := hb 12; have h13 := hb 13; have h14 := hb 14; have h15 := hb 15
  clear hb e
  unfold codeL
  rw [w0, w1, w2, w3, w4, w5, w6, w7, n1, n2]
  clear w0 w1 w2 w3 w4 w5 w6 w7 n1 n2 p1 p2
  rcases (by omega : i = 0 ∨ i = 1 ∨ i = 2 ∨ i = 3 ∨ i = 4 ∨ i = 5 ∨ i = 6 ∨ i = 7 ∨ i = 8 ∨ i = 9 ∨ i = 10 ∨ i = 11 ∨ i = 12 ∨ i = 13 ∨ i = 14 ∨ i = 15) with rfl | rfl | rfl | rfl | rfl | rfl | rfl | rfl | rfl | rfl | rfl | rfl | rfl | rfl | rfl | rfl <;> simp <;> omega
theorem exact_any (a b : BitVec 128) (n : Int) (s : ByteArray) (hn : -9223372036854775808 ≤ n ∧ n ≤ 9223372036854775807) (hm : s.size ≤ maxLen) (w : World) :
    Calls Try.prog 3 #[Wv a, Wv b, .int .i64 n, .string s] w fun e w' => e = .returned (.bool true) ∧ Below w.heap.size w w' := by
  by_cases hs : s.size ≤ 40
  case neg => exact exact_long a b n s w (by omega) hm
  obtain ⟨o1, o2⟩ := of_int n hn
  refine exact_walk (hi a) (lo a) (hi b) (lo b) (hi (a + b)) (lo (a + b)) (hi (a - b)) (lo (a - b)) (hi (a * BitVec.ofInt 128 n)) (lo (a * BitVec.ofInt 128 n)) (hi (BitVec.ofInt 128 n)) (lo (BitVec.ofInt 128 n))
    n (cmpZ (val a) (val b)) (intZ a).1 (intZ a).2 a.getLsbD b.getLsbD (a + b).getLsbD (~~~b).getLsbD (a - b).getLsbD (a * BitVec.ofInt 128 n).getLsbD (strOfNums (codeL (hi a) (lo a))) s w
    (fun w => refBits_any a w) (fun w => refBits_any b w) (fun w => Add_any a b w) (fun w => refAdd0 a b w) (fun w => refOf_any _ w) (fun w => Sub_any a b w) (fun w => refNot_any b w) ?_ (fun w => refOf_any _ w)
    (fun w => Compare_any a b w) (fun w => refCompare_any a b w) (fun w => Times_any a n hn w) (fun w => refTimes_any a n hn w) (fun w => refOf_any _ w) (fun w => Code_parts _ _ w) (fun w => refCode_any _ _ w)
    (fun w => Int_any a w) (fun w => Of_any n hn w) hs ?_ ?_ ?_ ?_
  · intro w
    have h := refAdd_any a (~~~b) true w
    rw [sub_bits] at h
    exact h
  · have hb := hi_bd a; have lb := lo_bd a
    have e1 : (intZ a).1 = if sg (wrap64 (lo a)) = hi a then wrap64 (lo a) else 0 := by unfold intZ; split <;> rfl
    have e2 : (intZ a).2 = decide (sg (wrap64 (lo a)) = hi a) := by unfold intZ; split <;> simp [*]
    rw [e1, e2]
    generalize hi a = H, lo a = L at *
    have hw : (wrap64 L < 0 ↔ 9223372036854775808 ≤ L) := by unfold wrap64; omega
    by_cases h : sg (wrap64 L) = H
    · left
      rw [if_pos h, decide_eq_true h]
      refine ⟨rfl, rfl, ?_⟩
      unfold sg at h
      by_cases h2 : 9223372036854775808 ≤ L
      · rw [if_pos (hw.2 h2)] at h; exact Or.inr ⟨h.symm, h2⟩
      · rw [if_neg (fun x => h2 (hw.1 x))] at h; exact Or.inl ⟨h.symm, by omega⟩
    · right
      rw [if_neg h, decide_eq_false h]
      refine ⟨rfl, rfl, ?_⟩
      unfold sg at h
      by_cases h2 : 9223372036854775808 ≤ L
      · rw [if_pos (hw.2 h2)] at h
        by_cases h3 : H = 0
        · exact Or.inl ⟨h3, h2⟩
        · exact Or.inr (Or.inr ⟨h3, fun x => h x.symm⟩)
      · rw [if_neg (fun x => h2 (hw.1 x))] at h
        by_cases h3 : H = -1
        · exact Or.inr (Or.inl ⟨h3, by omega⟩)
        · exact Or.inr (Or.inr ⟨fun x => h x.symm, h3⟩)
  · rw [o2, IntKind.wrap_u64]
  · rw [o1]
    by_cases h : n < 0
    · exact Or.inl ⟨h, if_pos h⟩
    · exact Or.inr ⟨h, if_neg h⟩
  · by_cases h : s.size = 16
    · refine Or.inr ⟨h, hi (readZ s), lo (readZ s), fun w => Read_yes s w h, fun w => ?_⟩
      have hc := refCode_any (hi (readZ s)) (lo (readZ s)) w
      rw [code_read s h] at hc
      exact hc
    · exact Or.inl ⟨h, fun w => Read_no s w hm h⟩
end Go.Proofs.Ytggpcebcmoopnaa.Wd
