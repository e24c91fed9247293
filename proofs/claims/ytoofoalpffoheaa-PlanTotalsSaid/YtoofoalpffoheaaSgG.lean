import Derived.Test.YtoofoalpffoheaaSgF


namespace Go.Proofs.Ytoofoalpffoheaa.Sg
open Go.ChangeShapes Go.WideShapes Go.ChangeAt Go.RowKit Go.PlainAid
set_option linter.unusedVariables false

theorem codeS_zero : codeS 1 0 ⟨#[]⟩ = ⟨#[1, 128, 0, 0, 0, 0, 0, 0, 0]⟩ := by decide +kernel
theorem codeS_a : codeS 2 0 ⟨#[97]⟩ = ⟨#[2, 97, 0, 0, 0, 0, 0, 0, 1]⟩ := by decide +kernel
theorem rd_a : rd ⟨#[2, 97, 0, 0, 0, 0, 0, 0, 1]⟩ = some (2, 0, ⟨#[97]⟩) := by
  rw [← codeS_a]; exact rd_code 2 0 ⟨#[97]⟩ (by decide) (by decide) (by decide)

theorem cb_step (a b : ByteArray) (k : Nat) (h1 : k < a.size) (h2 : k < b.size) : Lib.compareBytes (a.data.toList.drop k) (b.data.toList.drop k) = if bt a k < bt b k then -1 else if bt b k < bt a k then 1 else Lib.compareBytes (a.data.toList.drop (k + 1)) (b.data.toList.drop (k + 1)) := by
  have la : k < a.data.toList.length := by rw [← Lib.size_eq]; exact h1
  have lb : k < b.data.toList.length := by rw [← Lib.size_eq]; exact h2
  rw [List.drop_eq_getElem_cons la, List.drop_eq_getElem_cons lb, Lib.compareBytes, bt_list, bt_list, List.getD, List.getD, List.getElem?_eq_getElem la, List.getElem?_eq_getElem lb]
  simp only [UInt8.lt_iff_toNat_lt, Option.getD_some, Int.ofNat_lt]
theorem cb_end (a b : ByteArray) (k : Nat) (h1 : k ≤ a.size) (h2 : k ≤ b.size) (h : k = a.size ∨ k = b.size) : Lib.compareBytes (a.data.toList.drop k) (b.data.toList.drop k) = if a.size < b.size then -1 else if b.size < a.size then 1 else 0 := by
  have la : (a.data.toList.drop k).length = a.size - k := by rw [List.length_drop, ← Lib.size_eq]
  have lb : (b.data.toList.drop k).length = b.size - k := by rw [List.length_drop, ← Lib.size_eq]
  generalize a.data.toList.drop k = x at *
  generalize b.data.toList.drop k = y at *
  cases x with
  | nil =>
    simp only [List.length_nil] at la
    cases y with
    | nil => simp only [List.length_nil] at lb; rw [if_neg (by omega), if_neg (by omega)]; rfl
    | cons c y => simp only [List.length_cons] at lb; rw [if_pos (by omega)]; rfl
  | cons c x =>
    simp only [List.length_cons] at la
    cases y with
    | nil => simp only [List.length_nil] at lb; rw [if_neg (by omega), if_pos (by omega)]; rfl
    | cons d y => simp only [List.length_cons] at lb; omega

end Go.Proofs.Ytoofoalpffoheaa.Sg
