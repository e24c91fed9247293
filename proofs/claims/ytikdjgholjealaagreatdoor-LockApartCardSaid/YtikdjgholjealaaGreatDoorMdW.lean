/- What the laws of modes ask: plain facts, and their walks. -/
import Derived.Test.YtikdjgholjealaaGreatDoorMdJ
namespace Go.Proofs.YtikdjgholjealaaGreatDoor.Md
open Go.ChangeShapes Go.WideShapes Go.ChangeAt Go.RowKit Go.PlainAid Aid
set_option linter.unusedVariables false
set_option linter.unusedSimpArgs false
theorem Tabs.drewN {w : World} (h : Tabs w) (n : Nat) : Tabs (w.drewN n) := h
/-! Plain facts. -/
theorem covZ_bad {a b : Int} (h : goodZ a = false ∨ goodZ b = false) : covZ a b = false := by rw [← cov_same, covR_bad h]
theorem goesZ_bad {a b : Int} (h : goodZ a = false ∨ goodZ b = false) : goesZ a b = false := by
  unfold goesZ
  rcases h with h | h <;> simp [h]
theorem joinZ_bad {a b : Int} (h : goodZ a = false ∨ goodZ b = false) : joinZ a b = 0 := by
  unfold joinZ
  rcases h with h | h <;> simp [h]
/-- What is so of the nine is so of all. -/
theorem all3 {p : Int → Int → Int → Prop} (hd : ∀ i j k : Fin 10, p i.val j.val k.val) (h : ∀ a b c, goodZ a = false ∨ goodZ b = false ∨ goodZ c = false → p a b c) (a b c : Int) : p a b c := by
  by_cases x : goodZ a = false ∨ goodZ b = false ∨ goodZ c = false
  · exact h a b c x
  · simp only [not_or, Bool.not_eq_false] at x
    obtain ⟨i, hi1, hi9, rfl⟩ := goodZ_nat x.1
    obtain ⟨j, hj1, hj9, rfl⟩ := goodZ_nat x.2.1
    obtain ⟨k, hk1, hk9, rfl⟩ := goodZ_nat x.2.2
    exact hd ⟨i, by omega⟩ ⟨j, by omega⟩ ⟨k, by omega⟩
theorem all2 {p : Int → Int → Prop} (hd : ∀ i j : Fin 10, p i.val j.val) (h : ∀ a b, goodZ a = false ∨ goodZ b = false → p a b) (a b : Int) : p a b :=
  all3 (p := fun a b _ => p a b) (fun i j _ => hd i j) (fun a b c x => by
    by_cases y : goodZ a = false ∨ goodZ b = false
    · exact h a b y
    · simp only [not_or, Bool.not_eq_false] at y
      obtain ⟨i, hi1, hi9, rfl⟩ := goodZ_nat y.1
      obtain ⟨j, hj1, hj9, rfl⟩ := goodZ_nat y.2
      exact hd ⟨i, by omega⟩ ⟨j, by omega⟩) a b 0
theorem cov_self (a : Int) : covZ a a = goodZ a := all2 (p := fun a _ => covZ a a = goodZ a) (by decide +kernel) (fun a b x => by
  cases h : goodZ a
  · exact covZ_bad (Or.inl h)
  · obtain ⟨i, hi1, hi9, rfl⟩ := goodZ_nat h
    have : ∀ i : Fin 10, goodZ i.val = true → covZ i.val i.val = true := by decide +kernel
    exact this ⟨i, by omega⟩ h) a 0
theorem goes_turn (a b : Int) : goesZ b a = goesZ a b := by
  refine all2 (p := fun a b => goesZ b a = goesZ a b) (by decide +kernel) (fun a b x => ?_) a b
  rw [goesZ_bad x, goesZ_bad x.symm]
theorem cov_one (a b : Int) : covZ a b = true → covZ b a = true → a = b := by
  refine all2 (p := fun a b => covZ a b = true → covZ b a = true → a = b) (by decide +kernel) (fun a b x => ?_) a b
  rw [covZ_bad x]; intro h; cases h
theorem cov_on (a b c : Int) : covZ a b = true → covZ b c = true → covZ a c = true := by
  refine all3 (p := fun a b c => covZ a b = true → covZ b c = true → covZ a c = true) (by decide +kernel) (fun a b c x => ?_) a b c
  rcases x with x | x | x
  · rw [covZ_bad (a := a) (b := b) (Or.inl x)]; intro h; cases h
  · rw [covZ_bad (a := a) (b := b) (Or.inr x)]; intro h; cases h
  · rw [covZ_bad (a := b) (b := c) (Or.inr x)]; intro _ h; cases h
theorem cov_goes (a b c : Int) : covZ a b = true → goesZ a c = true → goesZ b c = true := by
  refine all3 (p := fun a b c => covZ a b = true → goesZ a c = true → goesZ b c = true) (by decide +kernel) (fun a b c x => ?_) a b c
  rcases x with x | x | x
  · rw [covZ_bad (a := a) (b := b) (Or.inl x)]; intro h; cases h
  · rw [covZ_bad (a := a) (b := b) (Or.inr x)]; intro h; cases h
  · rw [goesZ_bad (a := a) (b := c) (Or.inr x)]; intro _ h; cases h
theorem join_turn (a b : Int) : joinZ b a = joinZ a b := by
  refine all2 (p := fun a b => joinZ b a = joinZ a b) (by decide +kernel) (fun a b x => ?_) a b
  rw [joinZ_bad x, joinZ_bad x.symm]
theorem join_self (a : Int) (h : goodZ a = true) : ((joinZ a a : Nat) : Int) = a := by
  obtain ⟨i, hi1, hi9, rfl⟩ := goodZ_nat h
  have : ∀ i : Fin 10, ((joinZ i.val i.val : Nat) : Int) = i.val := by decide +kernel
  exact this ⟨i, by omega⟩
theorem join_good {a b : Int} (h : joinZ a b ≠ 0) : goodZ a = true ∧ goodZ b = true := by
  by_cases x : goodZ a = false ∨ goodZ b = false
  · exact absurd (joinZ_bad x) h
  · simpa using x
theorem join_above (a b : Int) : joinZ a b ≠ 0 → covZ (joinZ a b) a = true ∧ covZ (joinZ a b) b = true := by
  refine all2 (p := fun a b => joinZ a b ≠ 0 → covZ (joinZ a b) a = true ∧ covZ (joinZ a b) b = true) (by decide +kernel) (fun a b x => ?_) a b
  intro h; exact absurd (joinZ_bad x) h
theorem join_below (a b c : Int) : covZ c a = true → covZ c b = true → covZ c (joinZ a b) = true := by
  refine all3 (p := fun a b c => covZ c a = true → covZ c b = true → covZ c (joinZ a b) = true) (by decide +kernel) (fun a b c x => ?_) a b c
  rcases x with x | x | x
  · rw [covZ_bad (a := c) (b := a) (Or.inr x)]; intro h; cases h
  · rw [covZ_bad (a := c) (b := b) (Or.inr x)]; intro _ h; cases h
  · rw [covZ_bad (a := c) (b := a) (Or.inl x)]; intro h; cases h
theorem join_three (a b c : Int) : joinZ a b ≠ 0 → joinZ b c ≠ 0 → joinZ (joinZ a b) c = joinZ a (joinZ b c) := by
  refine all3 (p := fun a b c => joinZ a b ≠ 0 → joinZ b c ≠ 0 → joinZ (joinZ a b) c = joinZ a (joinZ b c)) (by decide +kernel) (fun a b c x => ?_) a b c
  rcases x with x | x | x
  · intro h; exact absurd (joinZ_bad (Or.inl x)) h
  · intro h; exact absurd (joinZ_bad (Or.inr x)) h
  · intro _ h; exact absurd (joinZ_bad (Or.inr x)) h
end Go.Proofs.YtikdjgholjealaaGreatDoor.Md
