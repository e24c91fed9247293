import Derived.Test.YtoofoalpffoheaaSgP
import Derived.Lib.IndexBytes
namespace Go.Proofs.Ytoofoalpffoheaa.Sg
open Go.RowKit Go.PlainAid

theorem bt_list (s : ByteArray) (k : Nat) : bt s k = ((s.data.toList.getD k 0).toNat : Int) := by
  unfold bt
  split
  · rename_i h
    rw [List.getD, Lib.data_getElem? s k h]; rfl
  · rename_i h
    have : s.data.toList[k]? = none := List.getElem?_eq_none (by rw [← Lib.size_eq]; omega)
    rw [List.getD, this]; rfl
theorem bt_extract (s : ByteArray) (a b i : Nat) : bt (s.extract a b) i = if i < b - a then bt s (a + i) else 0 := by
  rw [bt_list, bt_list, Lib.extract_data]
  simp only [List.getD]
  by_cases h : i < b - a
  · rw [List.getElem?_take_of_lt h, List.getElem?_drop, if_pos h]
  · rw [if_neg h, List.getElem?_eq_none (by simp; omega)]; rfl
theorem zeros_iff (u : ByteArray) (n : Nat) (hu : u.size = 8) : (∀ x ∈ ((u.extract 0 7).extract n 7).data.toList, x = 0) ↔ ∀ i, n ≤ i → i < 7 → bt u i = 0 := by
  have hl : u.data.toList.length = 8 := by rw [← Lib.size_eq]; exact hu
  rw [Lib.extract_data, Lib.extract_data]
  constructor
  · intro h i h1 h2
    rw [bt_list]
    have := h (u.data.toList.getD i 0) (by
      rw [List.mem_iff_getElem?]
      refine ⟨i - n, ?_⟩
      rw [List.getElem?_take_of_lt (by omega), List.getElem?_drop, List.getElem?_take_of_lt (by omega), List.getElem?_drop, show 0 + (n + (i - n)) = i from by omega, List.getD, List.getElem?_eq_getElem (by omega)]; rfl)
    rw [this]; rfl
  · intro h x hx
    obtain ⟨j, hj⟩ := List.mem_iff_getElem?.1 hx
    have hjn : j < 7 - n := by
      rcases Nat.lt_or_ge j (7 - n) with h | h
      · exact h
      · rw [List.getElem?_eq_none (by simp; omega)] at hj; cases hj
    rw [List.getElem?_take_of_lt (by omega), List.getElem?_drop, List.getElem?_take_of_lt (by omega), List.getElem?_drop] at hj
    have h3 := h (n + j) (by omega) (by omega)
    rw [bt_list, List.getD, show n + j = 0 + (n + j) from by omega, hj] at h3
    exact UInt8.toNat_inj.1 (by simpa using h3)
theorem size_tail (s : ByteArray) (h : s.size = 9) : (s.extract 1 s.size).size = 8 := by simp [ByteArray.size_extract]; omega
theorem bt_tail (s : ByteArray) (i : Nat) : bt (s.extract 1 s.size) i = bt s (1 + i) := by
  rw [bt_extract]; split
  · rfl
  · rw [bt_end]; omega
theorem txt_tail (s : ByteArray) (n : Nat) (h : s.size = 9) (hn : n ≤ 7) : ((s.extract 1 s.size).extract 0 7).extract 0 n = s.extract 1 (1 + n) := by
  apply ByteArray.ext; apply Array.toList_inj.1
  simp only [Lib.extract_data, List.drop_zero, List.take_take, h, List.drop_take]
  congr 1; omega

open Classical in
/-- The value whose code s is. -/
noncomputable def rd (s : ByteArray) : Option (Int × Int × ByteArray) :=
  if s.size = 9 then
    if bt s 0 = 1 then some (1, numS (s.extract 1 s.size) 8 - 9223372036854775808, ⟨#[]⟩)
    else if bt s 0 = 2 ∧ bt s 8 ≤ 7 ∧ ∀ i, (bt s 8).toNat ≤ i → i < 7 → bt s (1 + i) = 0 then some (2, 0, s.extract 1 (1 + (bt s 8).toNat))
    else none
  else none
end Go.Proofs.Ytoofoalpffoheaa.Sg
