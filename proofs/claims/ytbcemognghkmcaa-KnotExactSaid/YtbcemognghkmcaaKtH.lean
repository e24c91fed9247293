/- left: in which order a walk leaves all. -/
import Derived.Test.YtbcemognghkmcaaKtG
namespace Go.Proofs.Ytbcemognghkmcaa.Kt
open Go.ChangeShapes Go.WideShapes Go.ChangeAt Go.RowKit Go.PlainAid Aid
set_option linter.unusedVariables false
set_option linter.unusedSimpArgs false
/-! The least number with something. -/
theorem least_ex {P : Nat → Prop} (h : ∃ n, P n) : ∃ n, P n ∧ ∀ m, P m → n ≤ m := by
  obtain ⟨n, hn⟩ := h
  induction n using Nat.strongRecOn with
  | _ n ih =>
    by_cases hm : ∃ m, m < n ∧ P m
    · obtain ⟨m, h1, h2⟩ := hm
      exact ih m h1 h2
    · exact ⟨n, hn, fun m hP => Nat.le_of_not_lt fun hlt => hm ⟨m, hlt, hP⟩⟩
open Classical in
noncomputable def leastN (P : Nat → Prop) : Nat := if h : ∃ n, P n then Classical.choose (least_ex h) else 0
theorem leastN_le {P : Nat → Prop} {n : Nat} (h : P n) : leastN P ≤ n := by
  unfold leastN
  rw [dif_pos ⟨n, h⟩]
  exact (Classical.choose_spec (least_ex ⟨n, h⟩)).2 n h
theorem leastN_is {P : Nat → Prop} (h : ∃ n, P n) : P (leastN P) := by
  unfold leastN
  rw [dif_pos h]
  exact (Classical.choose_spec (least_ex h)).1
/-! How often one was looked at. -/
def offF (K : Fe) (a : Int) : Fe := K.filter fun p => !decide (p.1 = a)
theorem off_iE2 (K : Fe) (a : Int) : off (.int .i64 a) (iE K) = iE (offF K a) := by
  unfold off iE offF
  rw [List.filter_map]
  have e : ((fun p : En => !(p.1.sameKey (.int .i64 a))) ∘ fun x : Int × Int => ((.int .i64 x.1, .int .i64 x.2) : En)) = fun x => !decide (x.1 = a) := by
    funext x
    show (!((Lit.int .i64 x.1).sameKey (.int .i64 a))) = _
    rw [same_int]
  rw [← e]
def bump (K : Fe) (a : Int) : Fe := (a, dF K a + 1) :: offF K a
theorem dF_bump (K : Fe) (a b : Int) : dF (bump K a) b = if a = b then dF K a + 1 else dF K b := by
  unfold bump
  rw [dF_cons]
  by_cases h : a = b
  · rw [if_pos h, if_pos h]
  · rw [if_neg h, if_neg h]
    unfold dF
    have : fnd (offF K a) b = fnd K b := by
      have := find_off (fun p : Int × Int => p.1) K a b
      unfold fnd offF
      rw [this, if_neg (fun e => h e.symm)]
    rw [this]
theorem bump_len (K : Fe) (a : Int) : (bump K a).length ≤ K.length + 1 := by
  unfold bump offF
  rw [List.length_cons]
  have := List.length_filter_le (fun p : Int × Int => !decide (p.1 = a)) K
  omega
/-- Those of some that were not looked at. -/
def newL (K : Fe) (l : List Int) : List Int := l.filter fun b => decide (dF K b = 0)
theorem newL_snoc (K : Fe) (l : List Int) (x : Int) : newL K (l ++ [x]) = if dF K x = 0 then newL K l ++ [x] else newL K l := by
  unfold newL
  rw [List.filter_append]
  by_cases h : dF K x = 0
  · rw [if_pos h]; simp [h]
  · rw [if_neg h]; simp [h]
def lgo (l : Int → List Int) : Nat → Fe → List Int → List Int → List Int
  | 0, _, _, O => O
  | n + 1, K, S, O => match S with
    | [] => O
    | a :: S => if dF (bump K a) a = 1 then lgo l n (bump K a) ((newL (bump K a) (l a)).reverse ++ a :: S) O
      else if dF (bump K a) a = 2 then lgo l n (bump K a) S (O ++ [a])
      else lgo l n (bump K a) S O
/-! It ends. -/
def sumN (f : Int → Nat) : List Int → Nat
  | [] => 0
  | a :: l => f a + sumN f l
theorem sumN_le {f f' : Int → Nat} (h : ∀ b, f' b ≤ f b) (l : List Int) : sumN f' l ≤ sumN f l := by
  induction l with
  | nil => exact Nat.le_refl _
  | cons a l ih => have := h a; unfold sumN; omega
theorem sumN_drop {f f' : Int → Nat} (h : ∀ b, f' b ≤ f b) {l : List Int} {a : Int} (ha : a ∈ l) {d : Nat} (hd : f' a + d ≤ f a) : sumN f' l + d ≤ sumN f l := by
  induction l with
  | nil => cases ha
  | cons b l ih =>
    unfold sumN
    rcases List.mem_cons.1 ha with rfl | ha
    · have := sumN_le h l; omega
    · have := ih ha; have := h b; omega
theorem sumN_const {f : Int → Nat} {d : Nat} (l : List Int) (h : ∀ b, f b ≤ d) : sumN f l ≤ l.length * d := by
  induction l with
  | nil => exact Nat.zero_le _
  | cons a l ih => have := h a; unfold sumN; rw [List.length_cons, Nat.succ_mul]; omega
def wgt (l : Int → List Int) (K : Fe) (b : Int) : Nat := if dF K b = 0 then (l b).length + 1 else 0
def potL (l : Int → List Int) (NS : List Int) (K : Fe) (S : List Int) : Nat := S.length + sumN (wgt l K) NS
structure LOk (l : Int → List Int) (NS : List Int) (N n : Nat) (K : Fe) (S O : List Int) : Prop where
  pt : potL l NS K S ≤ n
  nn : n ≤ N
  ds : ∀ b, 0 ≤ dF K b ∧ dF K b + n ≤ (N : Int)
  kl : K.length + n ≤ N
  ol : O.length + n ≤ N
  ss : ∀ a, a ∈ S → a ∈ NS
  os : ∀ a, a ∈ O → a ∈ NS
section
variable {l : Int → List Int} {NS : List Int} {N n : Nat} {K : Fe} {S O : List Int} {a : Int}
theorem wgt_bump (hd : ∀ b, 0 ≤ dF K b) (b : Int) : wgt l (bump K a) b ≤ wgt l K b := by
  unfold wgt
  rw [dF_bump]
  by_cases h : a = b
  · subst h
    rw [if_pos rfl]
    have := hd a
    rw [if_neg (by omega)]
    exact Nat.zero_le _
  · rw [if_neg h]
    exact Nat.le_refl _
theorem LOk.pos (h : LOk l NS N n K (a :: S) O) : 0 < n := by
  have := h.pt
  unfold potL at this
  rw [List.length_cons] at this
  omega
theorem LOk.lens (h : LOk l NS N n K S O) : S.length ≤ n := by
  have := h.pt
  unfold potL at this
  omega
theorem LOk.bds (h : LOk l NS N (n + 1) K (a :: S) O) (b : Int) : 0 ≤ dF (bump K a) b ∧ dF (bump K a) b + n ≤ (N : Int) := by
  have h1 := h.ds a
  have h2 := h.ds b
  rw [dF_bump]
  split <;> omega
theorem LOk.first (h : LOk l NS N (n + 1) K (a :: S) O) (hl : ∀ a b, b ∈ l a → b ∈ NS) (h1 : dF (bump K a) a = 1) : LOk l NS N n (bump K a) ((newL (bump K a) (l a)).reverse ++ a :: S) O := by
  have ha := h.ss a List.mem_cons_self
  have h0 : dF K a = 0 := by rw [dF_bump, if_pos rfl] at h1; omega
  refine ⟨?_, by have := h.nn; omega, h.bds, by have := h.kl; have := bump_len K a; omega, by have := h.ol; omega, fun b hb => ?_, h.os⟩
  · have hp := h.pt
    have hs := sumN_drop (f := wgt l K) (f' := wgt l (bump K a)) (fun b => wgt_bump (fun b => (h.ds b).1) b) ha (d := (l a).length + 1) (by
      unfold wgt
      rw [h0, h1]
      simp)
    have hf := List.length_filter_le (fun b => decide (dF (bump K a) b = 0)) (l a)
    unfold potL newL at *
    rw [List.length_append, List.length_reverse, List.length_cons]
    rw [List.length_cons] at hp
    omega
  · rcases List.mem_append.1 hb with hb | hb
    · exact hl a b (List.mem_filter.1 (List.mem_reverse.1 hb)).1
    · exact h.ss b hb
theorem LOk.popP (h : LOk l NS N (n + 1) K (a :: S) O) : potL l NS (bump K a) S ≤ n := by
  have hp := h.pt
  have hs := sumN_le (f := wgt l K) (f' := wgt l (bump K a)) (fun b => wgt_bump (fun b => (h.ds b).1) b) NS
  unfold potL at *
  rw [List.length_cons] at hp
  omega
theorem LOk.pop (h : LOk l NS N (n + 1) K (a :: S) O) : LOk l NS N n (bump K a) S O :=
  ⟨h.popP, by have := h.nn; omega, h.bds, by have := h.kl; have := bump_len K a; omega, by have := h.ol; omega, fun b hb => h.ss b (List.mem_cons_of_mem _ hb), h.os⟩
theorem LOk.out (h : LOk l NS N (n + 1) K (a :: S) O) : LOk l NS N n (bump K a) S (O ++ [a]) :=
  ⟨h.popP, by have := h.nn; omega, h.bds, by have := h.kl; have := bump_len K a; omega, by have := h.ol; simp; omega, fun b hb => h.ss b (List.mem_cons_of_mem _ hb), fun b hb => by
    rcases List.mem_append.1 hb with hb | hb
    · exact h.os b hb
    · rw [List.mem_singleton.1 hb]; exact h.ss a List.mem_cons_self⟩
end
end Go.Proofs.Ytbcemognghkmcaa.Kt
