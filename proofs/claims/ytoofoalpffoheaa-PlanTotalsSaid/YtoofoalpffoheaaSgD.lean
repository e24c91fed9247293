import Derived.Lib.TrimByte
import Derived.Test.YtoofoalpffoheaaSgC
import Derived.Test.YtoofoalpffoheaaShelf


namespace Go.Proofs.Ytoofoalpffoheaa.Sg
open Go.ChangeShapes Go.WideShapes Go.ChangeAt Go.RowKit Go.PlainAid
set_option linter.unusedVariables false

theorem dropWhile_zero (l : List UInt8) : (l.dropWhile (· == 0) = []) ↔ ∀ x ∈ l, x = 0 := by
  induction l with
  | nil => simp
  | cons a l ih =>
    by_cases h : a = 0
    · subst h; simp [ih]
    · rw [List.dropWhile_cons, if_neg (by simpa using h)]; simp [h]
theorem trimB_zero (l : List UInt8) : (Lib.trimB l 0 = []) ↔ ∀ x ∈ l, x = 0 := by
  unfold Lib.trimB Lib.trimLeftB Lib.trimRightB
  rw [dropWhile_zero]
  constructor
  · intro h
    have h2 : (l.reverse.dropWhile (· == 0)) = [] := by
      rw [← List.reverse_eq_nil_iff]
      generalize hm : (l.reverse.dropWhile (· == 0)).reverse = m at *
      cases m with
      | nil => rfl
      | cons a m' =>
        exfalso
        have hne : l.reverse.dropWhile (· == 0) ≠ [] := by intro e; rw [e] at hm; simp at hm
        have hd := List.head_dropWhile_not (fun x : UInt8 => x == 0) (l := l.reverse) hne
        have hmem : (l.reverse.dropWhile (· == 0)).head hne ∈ a :: m' := by rw [← hm]; simp
        rw [h _ hmem] at hd; simp at hd
    have := (dropWhile_zero l.reverse).1 h2
    intro x hx; exact this x (by simpa using hx)
  · intro h
    have : l.reverse.dropWhile (· == 0) = [] := (dropWhile_zero _).2 (by intro x hx; exact h x (by simpa using hx))
    rw [this]; simp

end Go.Proofs.Ytoofoalpffoheaa.Sg
