/- Lists that rise by their pages, told as what each page has. -/
import Derived.Test.YtmnfoafpjmlbfaaGreatDoorNdA
namespace Go.Proofs.YtmnfoafpjmlbfaaGreatDoor.Tr
open Go.ChangeShapes Go.WideShapes Go.ChangeAt Go.RowKit Go.PlainAid Aid
set_option linter.unusedVariables false
set_option linter.unusedSimpArgs false
section
variable {α : Type}
/-- What the pages have, in a row. -/
def lst (h : Nat → Option α) (n : Nat) : List α := (List.range n).filterMap h
/-- .. from a page on. -/
def rst (h : Nat → Option α) (a n : Nat) : List α := (List.range' a (n - a)).filterMap h
/-- One page has another. -/
def put (h : Nat → Option α) (p : Nat) (y : Option α) : Nat → Option α := fun k => if k = p then y else h k
theorem put_same (h : Nat → Option α) (p : Nat) (y : Option α) : put h p y p = y := if_pos rfl
theorem put_other (h : Nat → Option α) (p k : Nat) (y : Option α) (hk : k ≠ p) : put h p y k = h k := if_neg hk
theorem lst_split (h : Nat → Option α) (p n : Nat) (hp : p < n) : lst h n = lst h p ++ ((h p).toList ++ rst h (p + 1) n) := by
  have e : List.range n = List.range p ++ (p :: List.range' (p + 1) (n - (p + 1))) := by
    rw [List.range_eq_range', List.range_eq_range', ← List.range'_succ, show n - (p + 1) + 1 = n - p by omega]
    have := List.range'_append (s := 0) (m := p) (n := n - p) (step := 1)
    rw [show p + (n - p) = n by omega] at this
    simpa using this.symm
  unfold lst rst
  rw [e, List.filterMap_append, List.filterMap_cons]
  cases h p <;> rfl
theorem filterMap_same (h k : Nat → Option α) : ∀ l : List Nat, (∀ i, i ∈ l → h i = k i) → l.filterMap h = l.filterMap k
  | [], _ => rfl
  | a :: l, e => by rw [List.filterMap_cons, List.filterMap_cons, e a (List.mem_cons_self ..), filterMap_same h k l fun i hi => e i (List.mem_cons_of_mem _ hi)]
theorem lst_congr (h k : Nat → Option α) (n : Nat) (e : ∀ i, i < n → h i = k i) : lst h n = lst k n :=
  filterMap_same _ _ _ fun i hi => e i (by simpa using hi)
theorem lst_put (h : Nat → Option α) (p n : Nat) (hp : p < n) (y : Option α) : lst (put h p y) n = lst h p ++ (y.toList ++ rst h (p + 1) n) := by
  rw [lst_split _ p n hp, put_same]
  congr 1
  · exact lst_congr _ _ _ fun i hi => put_other _ _ _ _ (by omega)
  · congr 1
    refine filterMap_same _ _ _ fun i hi => put_other _ _ _ _ ?_
    have := List.mem_range'_1.1 hi
    omega
theorem lst_le (h : Nat → Option α) (n : Nat) : (lst h n).length ≤ n := by
  have := List.length_filterMap_le h (List.range n)
  simpa [lst] using this
theorem lst_get (h : Nat → Option α) (p n : Nat) (hp : p < n) (x : α) (hx : h p = some x) : (lst h n)[(lst h p).length]? = some x := by
  rw [lst_split h p n hp, hx, List.getElem?_append_right (Nat.le_refl _), Nat.sub_self]
  rfl
theorem lst_mono (h : Nat → Option α) (p n : Nat) (hp : p ≤ n) : (lst h p).length ≤ (lst h n).length := by
  rcases Nat.lt_or_eq_of_le hp with hp | rfl
  · rw [lst_split h p n hp]; simp
  · exact Nat.le_refl _
theorem lst_lt (h : Nat → Option α) (p n : Nat) (hp : p < n) (x : α) (hx : h p = some x) : (lst h p).length < (lst h n).length := by
  have := lst_get h p n hp x hx
  exact (List.getElem?_eq_some_iff.1 this).1
theorem lst_succ (h : Nat → Option α) (n : Nat) : lst h (n + 1) = lst h n ++ (h n).toList := by
  rw [lst_split h n (n + 1) (Nat.lt_succ_self _)]
  simp [rst]
/-- Each stands somewhere. -/
theorem lst_mem (h : Nat → Option α) (n i : Nat) (x : α) (hx : (lst h n)[i]? = some x) : ∃ p, p < n ∧ h p = some x ∧ (lst h p).length = i := by
  induction n with
  | zero => simp [lst] at hx
  | succ n ih =>
    rw [lst_succ] at hx
    rcases Nat.lt_or_ge i (lst h n).length with hi | hi
    · rw [List.getElem?_append_left hi] at hx
      obtain ⟨p, hp, h1, h2⟩ := ih hx
      exact ⟨p, by omega, h1, h2⟩
    · rw [List.getElem?_append_right hi] at hx
      cases hn : h n with
      | none => rw [hn] at hx; simp at hx
      | some y =>
        rw [hn] at hx
        have h0 : i - (lst h n).length = 0 := by
          rcases Nat.eq_zero_or_pos (i - (lst h n).length) with h0 | h0
          · exact h0
          · obtain ⟨k, hk⟩ : ∃ k, i - (lst h n).length = k + 1 := ⟨_, (Nat.sub_add_cancel h0).symm⟩
            rw [hk] at hx; cases hx
        rw [h0] at hx
        exact ⟨n, Nat.lt_succ_self _, by rw [hn]; simpa using hx, by omega⟩
variable (pg : α → Nat)
theorem spot_app (A B : List Nat) (x : Int) (hA : ∀ a, a ∈ A → (a : Int) < x) (hB : ∀ b, b ∈ B → x ≤ (b : Int)) : spot (A ++ B) x = A.length := by
  unfold spot
  induction A with
  | nil =>
    cases B with
    | nil => rfl
    | cons b B =>
      have := hB b (List.mem_cons_self ..)
      rw [List.nil_append, List.takeWhile_cons, if_neg (by simp; omega)]
  | cons a A ih =>
    rw [List.cons_append, List.takeWhile_cons, if_pos (by simpa using hA a (List.mem_cons_self ..)), List.length_cons, ih (fun b hb => hA b (List.mem_cons_of_mem _ hb)), List.length_cons]
variable {pg} {h : Nat → Option α} (ho : ∀ p x, h p = some x → pg x = p)
include ho
theorem lst_lo (n : Nat) : ∀ a, a ∈ (lst h n).map pg → a < n := fun a ha => by
  obtain ⟨x, hx, rfl⟩ := List.mem_map.1 ha
  obtain ⟨p, hp, h1⟩ := List.mem_filterMap.1 hx
  rw [ho p x h1]
  simpa using hp
theorem rst_hi (p n : Nat) : ∀ a, a ∈ (rst h p n).map pg → p ≤ a := fun a ha => by
  obtain ⟨x, hx, rfl⟩ := List.mem_map.1 ha
  obtain ⟨q, hq, h1⟩ := List.mem_filterMap.1 hx
  rw [ho q x h1]
  have := List.mem_range'_1.1 hq
  omega
theorem lst_rise (n : Nat) : Rise ((lst h n).map pg) := by
  unfold Rise
  induction n with
  | zero => exact List.Pairwise.nil
  | succ n ih =>
    rw [lst_succ, List.map_append, List.pairwise_append]
    refine ⟨ih, ?_, fun a ha b hb => ?_⟩
    · cases h n <;> simp
    · obtain ⟨x, hx, rfl⟩ := List.mem_map.1 hb
      have := lst_lo ho n a ha
      cases hn : h n with
      | none => rw [hn] at hx; simp at hx
      | some y =>
        rw [hn] at hx
        simp only [Option.toList_some, List.mem_singleton] at hx
        subst hx
        rw [ho n x hn]; exact this
theorem spot_lst (p n : Nat) (hp : p < n) : spot ((lst h n).map pg) (p : Int) = (lst h p).length := by
  rw [lst_split h p n hp, List.map_append, spot_app, List.length_map]
  · exact fun a ha => by have := lst_lo ho p a ha; omega
  · intro b hb
    rw [List.map_append, List.mem_append] at hb
    rcases hb with hb | hb
    · obtain ⟨x, hx, rfl⟩ := List.mem_map.1 hb
      cases hn : h p with
      | none => rw [hn] at hx; simp at hx
      | some y =>
        rw [hn] at hx
        simp only [Option.toList_some, List.mem_singleton] at hx
        subst hx
        rw [ho p x hn]; exact Int.le_refl _
    · have := rst_hi ho (p + 1) n b hb; omega
theorem found_lst (p n : Nat) (hp : p < n) : decide ((lst h p).length < (lst h n).length ∧ ((((lst h n).map pg).getD (lst h p).length 0 : Nat) : Int) = p) = (h p).isSome := by
  cases hn : h p with
  | some x =>
    have h1 := lst_lt h p n hp x hn
    have h2 := lst_get h p n hp x hn
    have h3 := ho p x hn
    rw [List.getD_eq_getElem?_getD, List.getElem?_map, h2]
    simp [h1, h3]
  | none =>
    simp only [Option.isSome_none, decide_eq_false_iff_not, not_and]
    intro h1 h2
    rw [List.getD_eq_getElem?_getD, List.getElem?_map, List.getElem?_eq_getElem h1] at h2
    obtain ⟨q, hq, h3, h4⟩ := lst_mem h n _ _ (List.getElem?_eq_getElem h1)
    simp only [Option.map_some, Option.getD_some] at h2
    rw [ho q _ h3] at h2
    have : q = p := by omega
    subst this
    rw [hn] at h3; cases h3
theorem found_out (x : Int) (n : Nat) (hx : x < 0 ∨ (n : Int) ≤ x) : decide (spot ((lst h n).map pg) x < (lst h n).length ∧ ((((lst h n).map pg).getD (spot ((lst h n).map pg) x) 0 : Nat) : Int) = x) = false := by
  simp only [decide_eq_false_iff_not, not_and]
  intro h1 h2
  have h1' : spot ((lst h n).map pg) x < ((lst h n).map pg).length := by simpa using h1
  rw [List.getD_eq_getElem?_getD, List.getElem?_eq_getElem h1', Option.getD_some] at h2
  have := lst_lo ho n _ (List.getElem_mem h1')
  omega
end
end Go.Proofs.YtmnfoafpjmlbfaaGreatDoor.Tr
