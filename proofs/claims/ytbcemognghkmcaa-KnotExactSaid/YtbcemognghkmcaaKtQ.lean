/- The order in which all are left: who is left later leads. -/
import Derived.Test.YtbcemognghkmcaaKtP
namespace Go.Proofs.Ytbcemognghkmcaa.Kt
open Go.ChangeShapes Go.WideShapes Go.ChangeAt Go.RowKit Go.PlainAid Aid
set_option linter.unusedVariables false
set_option linter.unusedSimpArgs false
/-- A way, of no edges or more. -/
inductive Way (es : List Edg) : Int → Int → Prop
  | refl (a : Int) : Way es a a
  | step {a b c : Int} : (a, b) ∈ es → Way es b c → Way es a c
theorem Way.trans {es : List Edg} {a b c : Int} (h : Way es a b) (k : Way es b c) : Way es a c := by
  induction h with
  | refl => exact k
  | step e _ ih => exact Way.step e (ih k)
theorem Way.one {es : List Edg} {a b : Int} (h : (a, b) ∈ es) : Way es a b := Way.step h (Way.refl _)
theorem occ1 {g : Int} : ∀ {P Q X Y : List Int}, P ++ Q = X ++ g :: Y → g ∉ P → ∃ X1, X = P ++ X1 ∧ Q = X1 ++ g :: Y
  | [], Q, X, Y, h, _ => ⟨X, rfl, h⟩
  | a :: P, Q, [], Y, h, hg => by
    obtain ⟨e, -⟩ := List.cons.inj h
    exact absurd List.mem_cons_self (e ▸ hg)
  | a :: P, Q, x :: X, Y, h, hg => by
    obtain ⟨e, h2⟩ := List.cons.inj h
    obtain ⟨X1, h3, h4⟩ := occ1 h2 (fun hm => hg (List.mem_cons_of_mem _ hm))
    exact ⟨X1, by rw [← e, h3]; rfl, h4⟩
/-- What holds all along. -/
structure LG (es : List Edg) (K : Fe) (S O : List Int) : Prop where
  d0 : ∀ a, 0 ≤ dF K a
  gs : ∀ g, dF K g = 1 → g ∈ S
  gr : ∀ X Y g, S = X ++ g :: Y → g ∉ X → dF K g = 1 → ∀ s, s ∈ X → Way es g s
  gn : ∀ X Y g, S = X ++ g :: Y → g ∉ X → dF K g = 1 → ∀ w, (g, w) ∈ es → dF K w ≠ 0 ∨ w ∈ X
  fo : ∀ a, 2 ≤ dF K a ↔ a ∈ O
  pp : ∀ (i : Nat) (p : Int), O[i]? = some p → ∀ q, (p, q) ∈ es → dF K q ≠ 0 ∧ (∀ (k : Nat), O[k]? = some q → ∀ (m : Nat) (x : Int), i ≤ m → m < k → O[m]? = some x → Way es q x) ∧ (dF K q = 1 → ∀ (m : Nat) (x : Int), i ≤ m → O[m]? = some x → Way es q x)
  nm : ∀ a b, (a, b) ∈ es → dF K a ≠ 0 ∨ a ∈ S
section
variable {es : List Edg} {K : Fe} {S O : List Int} {r : Int}
theorem bump_ne {K : Fe} {r a : Int} (h : r ≠ a) : dF (bump K r) a = dF K a := by rw [dF_bump, if_neg h]
theorem bump_eq (K : Fe) (r : Int) : dF (bump K r) r = dF K r + 1 := by rw [dF_bump, if_pos rfl]
theorem LG.b0 (h : LG es K (r :: S) O) (a : Int) : dF K a ≤ dF (bump K r) a := by
  rw [dF_bump]; split
  · rename_i e; subst e; omega
  · exact Int.le_refl _
theorem LG.first (h : LG es K (r :: S) O) (h0 : dF K r = 0) : LG es (bump K r) ((newL (bump K r) (toL es r)).reverse ++ r :: S) O := by
  have hr1 : dF (bump K r) r = 1 := by rw [bump_eq, h0]; rfl
  have hP : ∀ w, w ∈ (newL (bump K r) (toL es r)).reverse ↔ (r, w) ∈ es ∧ dF (bump K r) w = 0 := by
    intro w
    unfold newL
    rw [List.mem_reverse, List.mem_filter, mem_toL]
    simp
  have hrP : r ∉ (newL (bump K r) (toL es r)).reverse := fun hm => by have := ((hP r).1 hm).2; omega
  obtain ⟨P, hPe⟩ : ∃ P, P = (newL (bump K r) (toL es r)).reverse := ⟨_, rfl⟩
  rw [← hPe] at hP hrP ⊢
  have old : ∀ g, g ≠ r → dF (bump K r) g = dF K g := fun g hg => bump_ne (fun e => hg e.symm)
  have split_ : ∀ X Y g, P ++ r :: S = X ++ g :: Y → g ∉ X → dF (bump K r) g = 1 → (g = r ∧ X = P) ∨ (g ≠ r ∧ ∃ X1, X = P ++ r :: X1 ∧ r :: S = (r :: X1) ++ g :: Y ∧ g ∉ r :: X1) := by
    intro X Y g hs hg h1
    have hgP : g ∉ P := fun hm => by have := ((hP g).1 hm).2; omega
    obtain ⟨X1, hX, hQ⟩ := occ1 hs hgP
    cases X1 with
    | nil =>
      obtain ⟨e, -⟩ := List.cons.inj hQ
      exact Or.inl ⟨e.symm, by rw [hX, List.append_nil]⟩
    | cons y X1 =>
      obtain ⟨e, hQ2⟩ := List.cons.inj hQ
      subst e
      have hne : g ≠ r := fun e => hg (by rw [hX, e]; simp)
      refine Or.inr ⟨hne, X1, hX, hQ, fun hm => hg ?_⟩
      rw [hX]
      exact List.mem_append_right _ hm
  refine ⟨fun a => Int.le_trans (h.d0 a) (h.b0 a), fun g hg => ?_, fun X Y g hs hgX h1 s hsX => ?_, fun X Y g hs hgX h1 w hw => ?_, fun a => ?_, fun i p hp q hq => ?_, fun a b hab => ?_⟩
  · by_cases e : g = r
    · rw [e]; simp
    · rw [old g e] at hg
      exact List.mem_append_right _ (h.gs g hg)
  · rcases split_ X Y g hs hgX h1 with ⟨rfl, rfl⟩ | ⟨hne, X1, rfl, h3, h4⟩
    · exact Way.one ((hP s).1 hsX).1
    · rw [old g hne] at h1
      have hgr := h.gr _ _ g h3 h4 h1
      rcases List.mem_append.1 hsX with hm | hm
      · exact (hgr r List.mem_cons_self).trans (Way.one ((hP s).1 hm).1)
      · exact hgr s hm
  · rcases split_ X Y g hs hgX h1 with ⟨rfl, rfl⟩ | ⟨hne, X1, rfl, h3, h4⟩
    · by_cases e : dF (bump K g) w = 0
      · exact Or.inr ((hP w).2 ⟨hw, e⟩)
      · exact Or.inl e
    · rw [old g hne] at h1
      rcases h.gn _ _ g h3 h4 h1 w hw with h5 | h5
      · refine Or.inl ?_
        have := h.b0 w
        have := h.d0 w
        omega
      · exact Or.inr (List.mem_append_right _ h5)
  · by_cases e : a = r
    · subst e
      have := h.fo a
      constructor
      · intro h2; omega
      · intro h2; have := this.2 h2; omega
    · rw [old a e]; exact h.fo a
  · obtain ⟨h1, h2, h3⟩ := h.pp i p hp q hq
    have hqr : q ≠ r := fun e => h1 (by rw [e]; exact h0)
    rw [old q hqr]
    exact ⟨h1, h2, h3⟩
  · rcases h.nm a b hab with h1 | h1
    · exact Or.inl (by have := h.b0 a; have := h.d0 a; omega)
    · exact Or.inr (List.mem_append_right _ h1)
theorem LG.less (h : LG es K (r :: S) O) (h0 : 1 ≤ dF K r) : (∀ g, dF (bump K r) g = 1 → g ≠ r ∧ dF K g = 1 ∧ g ∈ S ∧ Way es g r) ∧ (∀ X Y g, S = X ++ g :: Y → g ∉ X → dF (bump K r) g = 1 → (∀ s, s ∈ X → Way es g s) ∧ ∀ w, (g, w) ∈ es → dF (bump K r) w ≠ 0 ∨ w ∈ X) := by
  have hb := bump_eq K r
  have key : ∀ g, dF (bump K r) g = 1 → g ≠ r ∧ dF K g = 1 := fun g hg => by
    have hne : g ≠ r := fun e => by rw [e] at hg; omega
    rw [bump_ne (fun e => hne e.symm)] at hg
    exact ⟨hne, hg⟩
  have two : ∀ X Y g, S = X ++ g :: Y → g ∉ X → g ≠ r → r :: S = (r :: X) ++ g :: Y ∧ g ∉ r :: X := fun X Y g hs hg hne => ⟨by rw [hs]; rfl, fun hm => by
    rcases List.mem_cons.1 hm with e | hm
    · exact hne e
    · exact hg hm⟩
  refine ⟨fun g hg => ?_, fun X Y g hs hgX hg => ?_⟩
  · obtain ⟨hne, h1⟩ := key g hg
    have hm : g ∈ S := by
      rcases List.mem_cons.1 (h.gs g h1) with e | hm
      · exact absurd e hne
      · exact hm
    obtain ⟨X, Y, hs, hgX⟩ := List.eq_append_cons_of_mem hm
    obtain ⟨h3, h4⟩ := two X Y g hs hgX hne
    exact ⟨hne, h1, hm, h.gr _ _ g h3 h4 h1 r List.mem_cons_self⟩
  · obtain ⟨hne, h1⟩ := key g hg
    obtain ⟨h3, h4⟩ := two X Y g hs hgX hne
    refine ⟨fun s hs => h.gr _ _ g h3 h4 h1 s (List.mem_cons_of_mem _ hs), fun w hw => ?_⟩
    rcases h.gn _ _ g h3 h4 h1 w hw with h5 | h5
    · exact Or.inl (by have := h.b0 w; have := h.d0 w; omega)
    · rcases List.mem_cons.1 h5 with e | h5
      · exact Or.inl (by rw [e]; omega)
      · exact Or.inr h5
theorem LG.pop (h : LG es K (r :: S) O) (h0 : 2 ≤ dF K r) : LG es (bump K r) S O := by
  obtain ⟨l1, l2⟩ := h.less (by omega)
  have hb := bump_eq K r
  refine ⟨fun a => Int.le_trans (h.d0 a) (h.b0 a), fun g hg => (l1 g hg).2.2.1, fun X Y g hs hgX h1 => (l2 X Y g hs hgX h1).1, fun X Y g hs hgX h1 => (l2 X Y g hs hgX h1).2, fun a => ?_, fun i p hp q hq => ?_, fun a b hab => ?_⟩
  · by_cases e : r = a
    · subst e
      have := h.fo r
      constructor
      · intro _; exact this.1 h0
      · intro _; omega
    · rw [bump_ne e]; exact h.fo a
  · obtain ⟨h1, h2, h3⟩ := h.pp i p hp q hq
    refine ⟨by have := h.b0 q; have := h.d0 q; omega, h2, fun hq1 => h3 (l1 q hq1).2.1⟩
  · rcases h.nm a b hab with h1 | h1
    · exact Or.inl (by have := h.b0 a; have := h.d0 a; omega)
    · rcases List.mem_cons.1 h1 with e | h1
      · exact Or.inl (by rw [e]; omega)
      · exact Or.inr h1
theorem LG.out (h : LG es K (r :: S) O) (h0 : dF K r = 1) : LG es (bump K r) S (O ++ [r]) := by
  obtain ⟨l1, l2⟩ := h.less (by omega)
  have hb := bump_eq K r
  have at_ : ∀ (m : Nat) (x : Int), (O ++ [r])[m]? = some x → O[m]? = some x ∨ (m = O.length ∧ x = r) := by
    intro m x hm
    by_cases hl : m < O.length
    · rw [List.getElem?_append_left hl] at hm; exact Or.inl hm
    · rw [List.getElem?_append_right (by omega)] at hm
      have := (List.getElem?_eq_some_iff.1 hm).1
      simp at this
      have e : m = O.length := by omega
      subst e
      simp at hm
      exact Or.inr ⟨rfl, hm.symm⟩
  refine ⟨fun a => Int.le_trans (h.d0 a) (h.b0 a), fun g hg => (l1 g hg).2.2.1, fun X Y g hs hgX h1 => (l2 X Y g hs hgX h1).1, fun X Y g hs hgX h1 => (l2 X Y g hs hgX h1).2, fun a => ?_, fun i p hp q hq => ?_, fun a b hab => ?_⟩
  · by_cases e : r = a
    · subst e
      constructor
      · intro _; simp
      · intro _; omega
    · rw [bump_ne e, h.fo a]
      simp
      intro e2; exact absurd e2.symm e
  · have hlt : ∀ (m : Nat) (x : Int), O[m]? = some x → m < O.length := fun m x hm => (List.getElem?_eq_some_iff.1 hm).1
    rcases at_ i p hp with hp | ⟨rfl, rfl⟩
    · obtain ⟨h1, h2, h3⟩ := h.pp i p hp q hq
      refine ⟨by have := h.b0 q; have := h.d0 q; omega, fun k hk m x him hmk hm => ?_, fun hq1 m x him hm => ?_⟩
      · rcases at_ k q hk with hk | ⟨rfl, rfl⟩
        · rcases at_ m x hm with hm2 | ⟨hm2, -⟩
          · exact h2 k hk m x him hmk hm2
          · have := hlt k q hk; omega
        · rcases at_ m x hm with hm | ⟨rfl, rfl⟩
          · exact h3 h0 m x him hm
          · omega
      · obtain ⟨-, h5, -, h6⟩ := l1 q hq1
        rcases at_ m x hm with hm | ⟨rfl, rfl⟩
        · exact h3 h5 m x him hm
        · exact h6
    · refine ⟨?_, fun k hk m x him hmk hm => ?_, fun hq1 m x him hm => ?_⟩
      · rcases h.gn [] S p rfl (by simp) h0 q hq with h1 | h1
        · have := h.b0 q; have := h.d0 q; omega
        · cases h1
      · rcases at_ k q hk with hk2 | ⟨hk2, -⟩
        · have := hlt k q hk2; omega
        · omega
      · obtain ⟨-, -, -, h6⟩ := l1 q hq1
        rcases at_ m x hm with hm | ⟨rfl, rfl⟩
        · have := hlt m x hm; omega
        · exact h6
  · rcases h.nm a b hab with h1 | h1
    · exact Or.inl (by have := h.b0 a; have := h.d0 a; omega)
    · rcases List.mem_cons.1 h1 with e | h1
      · exact Or.inl (by rw [e]; omega)
      · exact Or.inr h1
end
end Go.Proofs.Ytbcemognghkmcaa.Kt
