import Derived.Test.YtoofoalpffoheaaSgQ
import Derived.Lib.Bytealg
import Derived.Lib.Small
namespace Go.Proofs.Ytoofoalpffoheaa.Sg
open Go.RowKit Go.PlainAid
set_option linter.unusedVariables false

/-- Whether a value can be. -/
def goodB (k n : Int) (s : ByteArray) : Bool := decide ((k = 1 ∧ s.size = 0) ∨ (k = 2 ∧ n = 0 ∧ s.size ≤ 7))
/-- Byte i of a value's code, as a number. -/
def cdv (k n : Int) (s : ByteArray) (i : Nat) : Int :=
  if i = 0 then k else if k = 1 then (n + 9223372036854775808) / 256 ^ (8 - i) % 256 else if i = 8 then (s.size : Int) else bt s (i - 1)
theorem cdv_num (n : Int) (s : ByteArray) (i : Nat) (h : 1 ≤ i) : cdv 1 n s i = (n + 9223372036854775808) / 256 ^ (8 - i) % 256 := by
  unfold cdv; rw [if_neg (by omega), if_pos rfl]
theorem cdv_zero (k n : Int) (s : ByteArray) : cdv k n s 0 = k := rfl
/-- A value's code. -/
def codeS (k n : Int) (s : ByteArray) : ByteArray := strOfNums [cdv k n s 0, cdv k n s 1, cdv k n s 2, cdv k n s 3, cdv k n s 4, cdv k n s 5, cdv k n s 6, cdv k n s 7, cdv k n s 8]

theorem cdv_bd (k n : Int) (s : ByteArray) (i : Nat) (hg : goodB k n s = true) : 0 ≤ cdv k n s i ∧ cdv k n s i ≤ 255 := by
  have h := of_decide_eq_true hg
  have b1 := bt_nonneg s (i - 1); have b2 := bt_le s (i - 1)
  unfold cdv
  split
  · omega
  · split
    · omega
    · split
      · omega
      · omega
theorem codeS_size (k n : Int) (s : ByteArray) : (codeS k n s).size = 9 := rfl
theorem byte_back (x : Int) (h0 : 0 ≤ x) (h1 : x ≤ 255) : ((UInt8.ofNat x.toNat).toNat : Int) = x := by
  rw [UInt8.toNat_ofNat']; omega
theorem bt_code (k n : Int) (s : ByteArray) (hg : goodB k n s = true) (i : Nat) (hi : i < 9) : bt (codeS k n s) i = cdv k n s i := by
  have hb := fun j => cdv_bd k n s j hg
  rw [bt_list]
  unfold codeS strOfNums
  match i, hi with
  | 0, _ | 1, _ | 2, _ | 3, _ | 4, _ | 5, _ | 6, _ | 7, _ | 8, _ => exact byte_back _ (hb _).1 (hb _).2
  | i + 9, h => omega
theorem bt_ext (s t : ByteArray) (n : Nat) (hs : s.size = n) (ht : t.size = n) (h : ∀ i, i < n → bt s i = bt t i) : s = t := by
  apply ByteArray.ext; apply Array.toList_inj.1
  have ls : s.data.toList.length = n := by rw [← Lib.size_eq]; exact hs
  have lt : t.data.toList.length = n := by rw [← Lib.size_eq]; exact ht
  refine List.ext_getElem (by omega) fun i h1 h2 => ?_
  have := h i (by omega)
  rw [bt_list, bt_list, List.getD, List.getD, List.getElem?_eq_getElem h1, List.getElem?_eq_getElem h2] at this
  exact UInt8.toNat_inj.1 (Int.ofNat_inj.1 (by simpa using this))
theorem size_zero {s : ByteArray} (h : s.size = 0) : s = ⟨#[]⟩ := bt_ext s ⟨#[]⟩ 0 h rfl (fun i hi => by omega)

theorem numS8 (s : ByteArray) : numS s 8 = (((((((bt s 0 * 256 + bt s 1) * 256 + bt s 2) * 256 + bt s 3) * 256 + bt s 4) * 256 + bt s 5) * 256 + bt s 6) * 256 + bt s 7) := by
  simp only [numS]; omega

set_option maxHeartbeats 1000000 in
theorem rd_code (k n : Int) (s : ByteArray) (hg : goodB k n s = true) (h1 : -9223372036854775808 ≤ n) (h2 : n ≤ 9223372036854775807) : rd (codeS k n s) = some (k, n, s) := by
  have hb := bt_code k n s hg
  unfold rd
  rw [if_pos (codeS_size k n s)]
  have h := of_decide_eq_true hg
  by_cases hk : k = 1
  · subst hk
    rw [if_pos (by rw [hb 0 (by omega), cdv_zero])]
    obtain rfl : s = ⟨#[]⟩ := size_zero (by omega)
    have e : numS ((codeS 1 n ⟨#[]⟩).extract 1 (codeS 1 n ⟨#[]⟩).size) 8 = n + 9223372036854775808 := by
      rw [numS8]
      simp only [bt_tail]
      rw [hb 1 (by omega), hb 2 (by omega), hb 3 (by omega), hb 4 (by omega), hb 5 (by omega), hb 6 (by omega), hb 7 (by omega), hb 8 (by omega)]
      rw [cdv_num _ _ _ (by decide), cdv_num _ _ _ (by decide), cdv_num _ _ _ (by decide), cdv_num _ _ _ (by decide), cdv_num _ _ _ (by decide), cdv_num _ _ _ (by decide), cdv_num _ _ _ (by decide), cdv_num _ _ _ (by decide)]
      simp only [Nat.reduceSub, Int.reducePow]
      omega
    rw [e, show n + 9223372036854775808 - 9223372036854775808 = n from by omega]
  · obtain ⟨rfl, rfl, hs⟩ : k = 2 ∧ n = 0 ∧ s.size ≤ 7 := by omega
    have e8 : bt (codeS 2 0 s) 8 = s.size := by rw [hb 8 (by omega)]; rfl
    have hz : ∀ i, (bt (codeS 2 0 s) 8).toNat ≤ i → i < 7 → bt (codeS 2 0 s) (1 + i) = 0 := by
      intro i h3 h4
      rw [e8] at h3
      rw [hb _ (by omega)]
      unfold cdv
      rw [if_neg (by omega), if_neg (by decide), if_neg (by omega)]
      exact bt_end s (by omega)
    rw [if_neg (by rw [hb 0 (by omega), cdv_zero]; decide), if_pos ⟨by rw [hb 0 (by omega), cdv_zero], by rw [e8]; omega, hz⟩]
    · rw [e8]
      congr 3
      refine bt_ext _ _ s.size (by simp [ByteArray.size_extract, codeS_size]; omega) rfl fun i hi => ?_
      rw [bt_extract, if_pos (by omega), hb _ (by omega)]
      unfold cdv
      rw [if_neg (by omega), if_neg (by decide), if_neg (by omega)]
      congr 1; omega

set_option maxHeartbeats 2000000 in
theorem code_rd (s : ByteArray) (k n : Int) (t : ByteArray) (h : rd s = some (k, n, t)) : goodB k n t = true ∧ -9223372036854775808 ≤ n ∧ n ≤ 9223372036854775807 ∧ codeS k n t = s := by
  unfold rd at h
  by_cases h9 : s.size = 9
  · rw [if_pos h9] at h
    by_cases h1 : bt s 0 = 1
    · rw [if_pos h1] at h; obtain ⟨rfl, rfl, rfl⟩ := Option.some.inj h
      have n8 := numS_bd (s.extract 1 s.size) 8
      have hg : goodB 1 (numS (s.extract 1 s.size) 8 - 9223372036854775808) ⟨#[]⟩ = true := rfl
      refine ⟨hg, by omega, by have := n8.2; simp only [Int.reducePow] at this; omega, ?_⟩
      refine bt_ext _ _ 9 rfl h9 fun i hi => ?_
      rw [bt_code _ _ _ hg i hi]
      match i, hi with
      | 0, _ => rw [cdv_zero, h1]
      | i + 1, hi =>
        rw [cdv_num _ _ _ (by omega), numS8]
        simp only [bt_tail]
        have hbd : ∀ j, 0 ≤ bt s j ∧ bt s j ≤ 255 := fun j => ⟨bt_nonneg s j, bt_le s j⟩
        have b1 := hbd 1; have b2 := hbd 2; have b3 := hbd 3; have b4 := hbd 4; have b5 := hbd 5; have b6 := hbd 6; have b7 := hbd 7; have b8 := hbd 8
        simp only [Nat.add_zero, Nat.reduceAdd]
        match i, hi with
        | 0, _ | 1, _ | 2, _ | 3, _ | 4, _ | 5, _ | 6, _ | 7, _ => simp only [Nat.reduceSub, Nat.reduceAdd, Int.reducePow]; omega
        | i + 8, h => omega
    · rw [if_neg h1] at h
      by_cases h3 : bt s 0 = 2 ∧ bt s 8 ≤ 7 ∧ ∀ i, (bt s 8).toNat ≤ i → i < 7 → bt s (1 + i) = 0
      · rw [if_pos h3] at h; obtain ⟨rfl, rfl, rfl⟩ := Option.some.inj h
        obtain ⟨h2, h5, hz⟩ := h3
        have n8 := bt_nonneg s 8
        have hsz : (s.extract 1 (1 + (bt s 8).toNat)).size = (bt s 8).toNat := by simp [ByteArray.size_extract]; omega
        have hg : goodB 2 0 (s.extract 1 (1 + (bt s 8).toNat)) = true := by
          unfold goodB; rw [decide_eq_true_iff]; right; exact ⟨rfl, rfl, by rw [hsz]; omega⟩
        refine ⟨hg, by decide, by decide, ?_⟩
        refine bt_ext _ _ 9 rfl h9 fun i hi => ?_
        rw [bt_code _ _ _ hg i hi]
        unfold cdv
        by_cases e0 : i = 0
        · subst e0; rw [if_pos rfl, h2]
        · rw [if_neg e0, if_neg (by decide)]
          by_cases e8 : i = 8
          · subst e8; rw [if_pos rfl, hsz]; omega
          · rw [if_neg e8, bt_extract]
            split
            · congr 1; omega
            · have := hz (i - 1) (by omega) (by omega)
              rw [← this]; congr 1; omega
      · rw [if_neg h3] at h; cases h
  · rw [if_neg h9] at h; cases h
end Go.Proofs.Ytoofoalpffoheaa.Sg
