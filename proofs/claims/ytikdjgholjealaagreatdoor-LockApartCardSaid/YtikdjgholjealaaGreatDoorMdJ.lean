/- The document's join of two modes; and that its answers are the code's, mode by mode. -/
import Derived.Test.YtikdjgholjealaaGreatDoorMdB
namespace Go.Proofs.YtikdjgholjealaaGreatDoor.Md
open Go.ChangeShapes Go.WideShapes Go.ChangeAt Go.RowKit Go.PlainAid Aid
set_option linter.unusedVariables false
set_option linter.unusedSimpArgs false

theorem goodZ_cases (a : Int) : goodZ a = false ∨ ∃ k : Fin 10, a = (k.val : Int) := by
  cases h : goodZ a
  · exact Or.inl rfl
  · obtain ⟨k, h1, h9, rfl⟩ := goodZ_nat h
    exact Or.inr ⟨⟨k, by omega⟩, rfl⟩
theorem inL_bad {l : List (Int × Int)} (hl : ∀ p ∈ l, goodZ p.1 = true ∧ goodZ p.2 = true) {a b : Int} (h : goodZ a = false ∨ goodZ b = false) : inL l a b = false := by
  unfold inL
  rw [List.any_eq_false]
  intro p hp
  obtain ⟨h1, h2⟩ := hl p hp
  simp only [Bool.and_eq_true, beq_iff_eq, not_and]
  rintro rfl rfl
  rcases h with h | h
  · rw [h] at h1; cases h1
  · rw [h] at h2; cases h2
theorem covP_good : ∀ p ∈ covP, goodZ p.1 = true ∧ goodZ p.2 = true := by decide
theorem goesP_good : ∀ p ∈ goesP, goodZ p.1 = true ∧ goodZ p.2 = true := by decide
theorem covR_bad {a b : Int} (h : goodZ a = false ∨ goodZ b = false) : covR a b = false := by
  unfold covR
  rw [inL_bad covP_good h, Bool.or_false]
  rcases h with h | h
  · rw [h, Bool.false_and]
  · by_cases e : a = b
    · subst e; rw [h, Bool.false_and]
    · simp [e]
theorem goes_same (a b : Int) : goesR a b = goesZ a b := by
  by_cases h : goodZ a = false ∨ goodZ b = false
  · have : goesZ a b = false := by
      unfold goesZ
      rcases h with h | h <;> simp [h]
    rw [this, goesR, inL_bad goesP_good h, inL_bad goesP_good h.symm]; rfl
  · simp only [not_or, Bool.not_eq_false] at h
    obtain ⟨i, hi1, hi9, rfl⟩ := goodZ_nat h.1
    obtain ⟨j, hj1, hj9, rfl⟩ := goodZ_nat h.2
    have : ∀ i j : Fin 10, goesR i.val j.val = goesZ i.val j.val := by decide +kernel
    exact this ⟨i, by omega⟩ ⟨j, by omega⟩
theorem cov_same (a b : Int) : covR a b = covZ a b := by
  by_cases h : goodZ a = false ∨ goodZ b = false
  · have : covZ a b = false := by
      unfold covZ
      rcases h with h | h <;> simp [h]
    rw [this, covR_bad h]
  · simp only [not_or, Bool.not_eq_false] at h
    obtain ⟨i, hi1, hi9, rfl⟩ := goodZ_nat h.1
    obtain ⟨j, hj1, hj9, rfl⟩ := goodZ_nat h.2
    have : ∀ i j : Fin 10, covR i.val j.val = covZ i.val j.val := by decide +kernel
    exact this ⟨i, by omega⟩ ⟨j, by omega⟩

def upR (a b c : Int) : Bool := covR c a && covR c b
def flagR (a b c : Int) (k : Nat) : Bool := (List.range k).all fun d => !(upR a b ((d : Int) + 1) && !covR ((d : Int) + 1) c)
theorem flagR_succ (a b c : Int) (k : Nat) : flagR a b c (k + 1) = (flagR a b c k && !(upR a b ((k : Int) + 1) && !covR ((k : Int) + 1) c)) := by
  unfold flagR
  rw [List.range_succ, List.all_append]
  simp
def joinG (a b : Int) : Nat → Nat → Nat
  | 0, _ => 0
  | n + 1, c => if upR a b c && flagR a b c 9 then c else joinG a b n (c + 1)
def joinR (a b : Int) : Nat := joinG a b 9 1
theorem join_same (a b : Int) : joinR a b = joinZ a b := by
  by_cases h : goodZ a = false ∨ goodZ b = false
  · have h0 : joinZ a b = 0 := by
      unfold joinZ
      rcases h with h | h <;> simp [h]
    have hu : ∀ c, upR a b c = false := by
      intro c
      unfold upR
      rcases h with h | h
      · rw [covR_bad (Or.inr h), Bool.false_and]
      · rw [covR_bad (a := c) (Or.inr h), Bool.and_false]
    have : ∀ n c, joinG a b n c = 0 := by
      intro n
      induction n with
      | zero => intro c; rfl
      | succ n ih => intro c; rw [joinG, hu, Bool.false_and, if_neg (by simp), ih]
    rw [h0, joinR, this]
  · simp only [not_or, Bool.not_eq_false] at h
    obtain ⟨i, hi1, hi9, rfl⟩ := goodZ_nat h.1
    obtain ⟨j, hj1, hj9, rfl⟩ := goodZ_nat h.2
    have : ∀ i j : Fin 10, joinR i.val j.val = joinZ i.val j.val := by decide +kernel
    exact this ⟨i, by omega⟩ ⟨j, by omega⟩

end Go.Proofs.YtikdjgholjealaaGreatDoor.Md
