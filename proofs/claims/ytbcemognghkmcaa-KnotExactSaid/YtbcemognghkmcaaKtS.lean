/- far is whole; Any's one has a round. -/
import Derived.Test.YtbcemognghkmcaaKtR
namespace Go.Proofs.Ytbcemognghkmcaa.Kt
open Go.ChangeShapes Go.WideShapes Go.ChangeAt Go.RowKit Go.PlainAid Aid
set_option linter.unusedVariables false
set_option linter.unusedSimpArgs false
theorem fin_pot (r : Int) (tos : List Int) (st : Fe × List Int) : (fin r tos st).2.length + st.1.length = st.2.length + (fin r tos st).1.length := by
  induction tos generalizing st with
  | nil => rfl
  | cons t tos ih =>
    have h1 := fstep_pot r st t
    have h2 := ih (fstep r st t)
    show (fin r tos (fstep r st t)).2.length + _ = _ + (fin r tos (fstep r st t)).1.length
    omega
/-- Who is in it stands in the queue yet, or all that it leads to are in it. -/
def Cl (B : Int → List Int) (F : Fe) (q : List Int) : Prop := ∀ a, hasF F a = true → a ∈ q ∨ ∀ t, t ∈ B a → hasF F t = true
theorem fstep_has (r : Int) (st : Fe × List Int) (t a : Int) (h : hasF st.1 a = true) : hasF (fstep r st t).1 a = true := by
  unfold fstep
  split
  · exact h
  · exact (hasF_cons _ _ _).2 (Or.inr h)
theorem fstep_in (r : Int) (st : Fe × List Int) (t : Int) : hasF (fstep r st t).1 t = true := by
  unfold fstep
  split
  · assumption
  · exact (hasF_cons _ _ _).2 (Or.inl rfl)
theorem fstep_new (r : Int) (st : Fe × List Int) (t a : Int) (h : hasF (fstep r st t).1 a = true) : hasF st.1 a = true ∨ a ∈ (fstep r st t).2 := by
  unfold fstep at h ⊢
  split at h
  · exact Or.inl h
  · rename_i hc
    rw [if_neg hc]
    rcases (hasF_cons _ _ _).1 h with e | h
    · exact Or.inr (by rw [← e]; simp)
    · exact Or.inl h
theorem fstep_q (r : Int) (st : Fe × List Int) (t a : Int) (h : a ∈ st.2) : a ∈ (fstep r st t).2 := by
  unfold fstep
  split
  · exact h
  · exact List.mem_append_left _ h
theorem fin_facts (r : Int) (tos : List Int) (st : Fe × List Int) : (∀ a, hasF st.1 a = true → hasF (fin r tos st).1 a = true) ∧ (∀ t, t ∈ tos → hasF (fin r tos st).1 t = true) ∧ (∀ a, a ∈ st.2 → a ∈ (fin r tos st).2) ∧ (∀ a, hasF (fin r tos st).1 a = true → hasF st.1 a = true ∨ a ∈ (fin r tos st).2) := by
  induction tos generalizing st with
  | nil => exact ⟨fun _ h => h, fun _ h => (by cases h), fun _ h => h, fun _ h => Or.inl h⟩
  | cons t tos ih =>
    obtain ⟨h1, h2, h3, h4⟩ := ih (fstep r st t)
    refine ⟨fun a h => h1 a (fstep_has r st t a h), fun a h => ?_, fun a h => h3 a (fstep_q r st t a h), fun a h => ?_⟩
    · rcases List.mem_cons.1 h with rfl | h
      · exact h1 a (fstep_in r st a)
      · exact h2 a h
    · rcases h4 a h with h5 | h5
      · rcases fstep_new r st t a h5 with h6 | h6
        · exact Or.inl h6
        · exact Or.inr (h3 a h6)
      · exact Or.inr h5
theorem fbfs_cl {B : Int → List Int} {NS : List Int} (hB : ∀ a b, b ∈ B a → b ∈ NS) (n : Nat) {F : Fe} {q : List Int} (hp : pot NS F q ≤ n) (hk : FOk NS F q) (hc : Cl B F q) : Cl B (fbfs B n F q) [] ∧ ∀ a, hasF F a = true → hasF (fbfs B n F q) a = true := by
  induction n generalizing F q with
  | zero =>
    have : q = [] := List.length_eq_zero_iff.1 (by unfold pot at hp; omega)
    subst this
    exact ⟨hc, fun _ h => h⟩
  | succ n ih =>
    cases q with
    | nil => exact ⟨hc, fun _ h => h⟩
    | cons r q =>
      obtain ⟨F1, q1, h1, h2⟩ := fin_go r (B r) (fun F q => FOk NS F q) (fun F q t h ht => h.step List.mem_cons_self (hB r t ht)) hk
      have hpt := fin_pot r (B r) (F, r :: q)
      obtain ⟨f1, f2, f3, f4⟩ := fin_facts r (B r) (F, r :: q)
      rw [h1] at hpt f1 f2 f3 f4
      dsimp only at hpt f1 f2 f3 f4
      have hl1 := hk.len
      have hl2 := h2.len
      have hcl : Cl B F1 q1 := by
        intro a ha
        rcases f4 a ha with h5 | h5
        · rcases hc a h5 with h6 | h6
          · rcases List.mem_cons.1 (f3 a h6) with rfl | h7
            · exact Or.inr f2
            · exact Or.inl h7
          · exact Or.inr fun t ht => f1 t (h6 t ht)
        · rcases List.mem_cons.1 h5 with rfl | h7
          · exact Or.inr f2
          · exact Or.inl h7
      have := ih (F := F1) (q := q1) (by unfold pot at hp ⊢; rw [List.length_cons] at hp hpt; simp only [List.length_cons] at hpt; omega) h2.tail hcl
      show Cl B (fbfs B n (fin r (B r) (F, r :: q)).1 (fin r (B r) (F, r :: q)).2.tail) [] ∧ ∀ a, hasF F a = true → hasF (fbfs B n (fin r (B r) (F, r :: q)).1 (fin r (B r) (F, r :: q)).2.tail) a = true
      rw [h1]
      exact ⟨this.1, fun a ha => this.2 a (f1 a ha)⟩
theorem far_way {es : List Edg} {id a : Int} (h : Way es a id) : hasF (farE es id) a = true := by
  have hid : id ∈ nsE id es := List.mem_cons_self
  obtain ⟨hc, hm⟩ := fbfs_cl (B := toL (es.map swp)) (NS := nsE id es) (fun a b h => (nsE_mem (mem_swp.1 h)).1) (nsE id es).length (F := [(id, 0)]) (q := [id])
    (by unfold pot; have := List.length_pos_of_mem hid; simp; omega)
    ⟨by simp, fun p hp => (by rw [List.mem_singleton.1 hp]; exact hid), fun p hp => (by rw [List.mem_singleton.1 hp]; simp), fun a ha => (by rw [List.mem_singleton.1 ha, hasF_mem]; simp)⟩
    (fun a ha => by
      rcases (hasF_cons _ _ _).1 ha with e | ha
      · exact Or.inl (by rw [← e]; simp)
      · cases ha)
  have hi : hasF (farE es id) id = true := hm id (by rw [hasF_mem]; simp)
  induction h with
  | refl => exact hi
  | step e _ ih =>
    rcases hc _ (ih hid hc hm hi) with h1 | h1
    · cases h1
    · exact h1 _ (mem_swp.2 e)
theorem rnd_way {es : List Edg} {n b : Int} (he : (n, b) ∈ es) (h : Way es b n) : rndL es n ≠ [] := by
  have h1 := nearL_min (farE es n) (toL es n) b (mem_toL.2 he) (far_way h)
  rw [rnd_some h1.1]
  exact List.cons_ne_nil _ _
theorem any_some (K : Fe) (es : List Edg) : (anyF K es).2 = true → ∃ e, e ∈ es ∧ e.1 = (anyF K es).1 ∧ dF K e.1 = dF K e.2 := by
  rw [← List.reverse_reverse es]
  generalize es.reverse = m
  induction m with
  | nil => intro h; cases h
  | cons x m ih =>
    rw [List.reverse_cons, anyF_snoc]
    intro h
    unfold astep at h ⊢
    split
    · rename_i hc
      exact ⟨x, by simp, rfl, hc.1⟩
    · rename_i hc
      rw [if_neg hc] at h
      obtain ⟨e, h1, h2, h3⟩ := ih h
      exact ⟨e, List.mem_append_left _ h1, h2, h3⟩
/-- Whom Any names has a round. -/
theorem any_rnd {es : List Edg} (h : (anyL es).2 = true) : rndL es (anyL es).1 ≠ [] := by
  obtain ⟨e, h1, h2, h3⟩ := any_some _ _ h
  rw [show (anyL es).1 = e.1 from h2.symm]
  exact rnd_way (b := e.2) h1 (knots_way h1 h3)
/-- Who is named by no edge as the first has no round. -/
theorem rnd_away {es : List Edg} {v : Int} (h : ∀ e, e ∈ es → e.1 ≠ v) : rndL es v = [] := by
  have : toL es v = [] := by
    unfold toL
    rw [List.filter_eq_nil_iff.2 (fun e he => by simpa using h e he)]
    rfl
  refine rnd_none ?_
  rw [this]
  rfl
theorem maxL_mem (l : List Int) (h : l ≠ []) : maxL l ∈ l := by
  have gen : ∀ (m : List Int) (x : Int), m.foldl maxI x = x ∨ m.foldl maxI x ∈ m := by
    intro m
    induction m with
    | nil => intro x; exact Or.inl rfl
    | cons y m ih =>
      intro x
      show m.foldl maxI (maxI x y) = x ∨ m.foldl maxI (maxI x y) ∈ y :: m
      rcases ih (maxI x y) with e | e
      · rw [e]
        unfold maxI
        split
        · exact Or.inr List.mem_cons_self
        · exact Or.inl rfl
      · exact Or.inr (List.mem_cons_of_mem _ e)
  cases l with
  | nil => exact absurd rfl h
  | cons x m =>
    rcases gen m x with e | e
    · rw [show maxL (x :: m) = x from e]; exact List.mem_cons_self
    · exact List.mem_cons_of_mem _ e
end Go.Proofs.Ytbcemognghkmcaa.Kt
