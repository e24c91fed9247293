/- Equal knots are ways both ways; Any is right. -/
import Derived.Test.YtbcemognghkmcaaKtQ
namespace Go.Proofs.Ytbcemognghkmcaa.Kt
open Go.ChangeShapes Go.WideShapes Go.ChangeAt Go.RowKit Go.PlainAid Aid
set_option linter.unusedVariables false
set_option linter.unusedSimpArgs false
theorem lgo_LG {es : List Edg} {NS : List Int} {N : Nat} (hl : ∀ a b, b ∈ toL es a → b ∈ NS) (n : Nat) {K : Fe} {S O : List Int} (h : LOk (toL es) NS N n K S O) (g : LG es K S O) : ∃ K', LG es K' [] (lgo (toL es) n K S O) := by
  induction n generalizing K S O with
  | zero =>
    have hp := h.pt
    unfold potL at hp
    have : S = [] := List.length_eq_zero_iff.1 (by omega)
    subst this
    exact ⟨K, g⟩
  | succ n ih =>
    cases S with
    | nil => exact ⟨K, g⟩
    | cons a S =>
      have hb := bump_eq K a
      have hd := g.d0 a
      unfold lgo
      by_cases h1 : dF (bump K a) a = 1
      · simp only [if_pos h1]
        exact ih (h.first hl h1) (g.first (by omega))
      · simp only [if_neg h1]
        by_cases h2 : dF (bump K a) a = 2
        · simp only [if_pos h2]
          exact ih h.out (g.out (by omega))
        · simp only [if_neg h2]
          exact ih h.pop (g.pop (by omega))
theorem ord_LG (es : List Edg) : ∃ K, LG es K [] (ordE es) := by
  refine lgo_LG (NS := nmE es) (fun a b h => (nmE_mem (mem_toL.1 h)).2) _ (left_ok (toL es) (nmE es) es (fun a b h => (nmE_mem (mem_toL.1 h)).2) (fun e he => (nmE_mem (b := e.2) he).1)) ?_
  have z : ∀ a, dF [] a = 0 := fun _ => rfl
  refine ⟨fun a => (by rw [z]; exact Int.le_refl _), fun g hg => ?_, fun X Y g _ _ hg => ?_, fun X Y g _ _ hg => ?_, fun a => ⟨fun h => ?_, fun h => ?_⟩, fun i p hp => ?_, fun a b hab => Or.inr (List.mem_reverse.2 (List.mem_map.2 ⟨(a, b), hab, rfl⟩))⟩
  · rw [z] at hg; cases hg
  · rw [z] at hg; cases hg
  · rw [z] at hg; cases hg
  · rw [z] at h; omega
  · cases h
  · cases hp
theorem ord_all {es : List Edg} {a b : Int} (h : (a, b) ∈ es) : a ∈ ordE es ∧ b ∈ ordE es := by
  obtain ⟨K, g⟩ := ord_LG es
  have two : ∀ c, dF K c ≠ 0 → c ∈ ordE es := fun c hc => (g.fo c).1 (by
    have := g.d0 c
    have h1 : dF K c ≠ 1 := fun e => by have := g.gs c e; cases this
    omega)
  have ha : a ∈ ordE es := two a (by
    rcases g.nm a b h with h1 | h1
    · exact h1
    · cases h1)
  obtain ⟨i, hi, he⟩ := List.mem_iff_getElem.1 ha
  exact ⟨ha, two b (g.pp i a (by rw [List.getElem?_eq_getElem hi, he]) b h).1⟩
theorem ord_pp {es : List Edg} {i k m : Nat} {p q x : Int} (hp : (ordE es)[i]? = some p) (he : (p, q) ∈ es) (hk : (ordE es)[k]? = some q) (h1 : i ≤ m) (h2 : m < k) (hm : (ordE es)[m]? = some x) : Way es q x := by
  obtain ⟨K, g⟩ := ord_LG es
  exact (g.pp i p hp q he).2.1 k hk m x h1 h2 hm
/-- A chain to one of such as have no knot. -/
inductive Uc (es : List Edg) (K : Fe) (id : Int) : Int → Prop
  | base : Uc es K id id
  | step {a b : Int} : (a, b) ∈ es → hasF K a = false → Uc es K id b → Uc es K id a
theorem Uc.way {es : List Edg} {K : Fe} {id a : Int} (h : Uc es K id a) : Way es a id := by
  induction h with
  | base => exact Way.refl _
  | step e _ _ ih => exact Way.step e ih
structure TJ (es : List Edg) (id : Int) (K0 K : Fe) (S : List Int) : Prop where
  nw : ∀ a, hasF K a = true → (hasF K0 a = true ∧ dF K a = dF K0 a) ∨ (hasF K0 a = false ∧ dF K a = id ∧ Uc es K0 id a)
  ol : ∀ a, hasF K0 a = true → hasF K a = true
  ii : hasF K id = true
  st : ∀ s, s ∈ S → Uc es K0 id s
theorem TJ.step {es : List Edg} {id : Int} {K0 K : Fe} {S : List Int} {a tt : Int} (h : TJ es id K0 K S) (ha : Uc es K0 id a) (ht : (tt, a) ∈ es) : TJ es id K0 (tstep id (K, S) tt).1 (tstep id (K, S) tt).2 := by
  unfold tstep
  cases hh : hasF K tt with
  | true => exact h
  | false =>
    rw [if_neg (by simp [hh])]
    have h0 : hasF K0 tt = false := by
      cases e : hasF K0 tt with
      | false => rfl
      | true => have := h.ol tt e; rw [hh] at this; cases this
    have hu : Uc es K0 id tt := Uc.step ht h0 ha
    refine ⟨fun b hb => ?_, fun b hb => (hasF_cons _ _ _).2 (Or.inr (h.ol b hb)), (hasF_cons _ _ _).2 (Or.inr h.ii), fun s hs => ?_⟩
    · show (_ ∧ dF ((tt, id) :: K) b = _) ∨ (_ ∧ dF ((tt, id) :: K) b = _ ∧ _)
      rw [dF_cons]
      by_cases e : tt = b
      · rw [if_pos e, ← e]; exact Or.inr ⟨h0, rfl, hu⟩
      · rw [if_neg e]
        rcases (hasF_cons _ _ _).1 hb with e2 | hb
        · exact absurd e2 e
        · exact h.nw b hb
    · rcases List.mem_cons.1 hs with rfl | hs
      · exact hu
      · exact h.st s hs
theorem tin_TJ {es : List Edg} {id : Int} {K0 : Fe} {a : Int} (ha : Uc es K0 id a) {tos : List Int} (ht : ∀ t, t ∈ tos → (t, a) ∈ es) {K : Fe} {S : List Int} (h : TJ es id K0 K S) : TJ es id K0 (tin id tos (K, S)).1 (tin id tos (K, S)).2 := by
  induction tos generalizing K S with
  | nil => exact h
  | cons t tos ih =>
    show TJ es id K0 (tin id tos (tstep id (K, S) t)).1 (tin id tos (tstep id (K, S) t)).2
    exact ih (fun s hs => ht s (List.mem_cons_of_mem _ hs)) (h.step ha (ht t List.mem_cons_self))
theorem tgo_TJ {es : List Edg} {id : Int} {K0 : Fe} (n : Nat) {K : Fe} {S : List Int} (h : TJ es id K0 K S) : ∃ S', TJ es id K0 (tgo (toL (es.map swp)) id n K S) S' := by
  induction n generalizing K S with
  | zero => exact ⟨S, h⟩
  | succ n ih =>
    cases S with
    | nil => exact ⟨[], h⟩
    | cons a S =>
      exact ih (tin_TJ (h.st a List.mem_cons_self) (fun t ht => mem_swp.1 ht) ⟨h.nw, h.ol, h.ii, fun s hs => h.st s (List.mem_cons_of_mem _ hs)⟩)
/-- All from a place on have knots, and who has one goes there and back. -/
structure TI (es : List Edg) (m : Nat) (K : Fe) : Prop where
  al : ∀ (k : Nat) (x : Int), m ≤ k → (ordE es)[k]? = some x → hasF K x = true
  wy : ∀ a, hasF K a = true → Way es a (dF K a) ∧ Way es (dF K a) a
theorem uc_way {es : List Edg} {K : Fe} {m : Nat} {id a : Int} (hi : (ordE es)[m]? = some id) (hal : ∀ (k : Nat) (x : Int), m + 1 ≤ k → (ordE es)[k]? = some x → hasF K x = true) (h : Uc es K id a) : ∃ k, (ordE es)[k]? = some a ∧ k ≤ m ∧ ∀ (n : Nat) (x : Int), k ≤ n → n ≤ m → (ordE es)[n]? = some x → Way es id x := by
  induction h with
  | base => exact ⟨m, hi, Nat.le_refl _, fun n x h1 h2 hx => by
      have : n = m := by omega
      subst this
      rw [hi] at hx
      cases hx
      exact Way.refl _⟩
  | @step a b e hu _ ih =>
    obtain ⟨kb, hkb, hkm, hw⟩ := ih
    obtain ⟨ka, hka, hke⟩ := List.mem_iff_getElem.1 (ord_all e).1
    have hka2 : (ordE es)[ka]? = some a := by rw [List.getElem?_eq_getElem hka, hke]
    have hle : ka ≤ m := by
      refine Nat.le_of_not_lt fun hlt => ?_
      have := hal ka a hlt hka2
      rw [hu] at this; cases this
    refine ⟨ka, hka2, hle, fun n x h1 h2 hx => ?_⟩
    by_cases hb : kb ≤ n
    · exact hw n x hb h2 hx
    · exact (hw kb b (Nat.le_refl _) hkm hkb).trans (ord_pp hka2 e hkb h1 (by omega) hx)
theorem TI.tie {es : List Edg} {m : Nat} {K : Fe} {id : Int} (h : TI es (m + 1) K) (hi : (ordE es)[m]? = some id) (n : Nat) : TI es m (tieF (toL (es.map swp)) id n K) := by
  unfold tieF
  cases hh : hasF K id with
  | true =>
    rw [if_pos rfl]
    refine ⟨fun k x hk hx => ?_, h.wy⟩
    by_cases e : k = m
    · subst e; rw [hi] at hx; cases hx; exact hh
    · exact h.al k x (by omega) hx
  | false =>
    rw [if_neg (by simp)]
    obtain ⟨S', t⟩ := tgo_TJ (es := es) (id := id) (K0 := K) n (K := (id, id) :: K) (S := [id]) ⟨fun a ha => by
      rw [dF_cons]
      by_cases e : id = a
      · rw [if_pos e, ← e]; exact Or.inr ⟨hh, rfl, Uc.base⟩
      · rw [if_neg e]
        rcases (hasF_cons _ _ _).1 ha with e2 | ha
        · exact absurd e2 e
        · exact Or.inl ⟨ha, rfl⟩, fun a ha => (hasF_cons _ _ _).2 (Or.inr ha), (hasF_cons _ _ _).2 (Or.inl rfl), fun s hs => by rw [List.mem_singleton.1 hs]; exact Uc.base⟩
    refine ⟨fun k x hk hx => ?_, fun a ha => ?_⟩
    · by_cases e : k = m
      · subst e; rw [hi] at hx; cases hx; exact t.ii
      · exact t.ol x (h.al k x (by omega) hx)
    · rcases t.nw a ha with ⟨h1, h2⟩ | ⟨h1, h2, h3⟩
      · rw [h2]; exact h.wy a h1
      · rw [h2]
        obtain ⟨k, hk, hkm, hw⟩ := uc_way hi h.al h3
        exact ⟨h3.way, hw k a (Nat.le_refl _) hkm hk⟩
theorem bwd_snd (l : List Int) : (bwd l).map (·.2) = l.reverse := by
  unfold bwd
  rw [List.map_reverse, List.map_map]
  congr 1
  have : ((fun p : Int × Int => p.2) ∘ fun p : Int × Nat => ((p.2 : Int), p.1)) = Prod.fst := rfl
  rw [this, List.zipIdx_map_fst]
theorem ties_TI {es : List Edg} : ∀ (n : Nat) (A B : List Int) (K : Fe), A.length = n → ordE es = A ++ B → TI es A.length K → TI es 0 (A.reverse.foldl (fun K x => tieF (toL (es.map swp)) x (nmE es).length K) K) := by
  intro n
  induction n with
  | zero =>
    intro A B K hA hO h
    have : A = [] := List.length_eq_zero_iff.1 hA
    subst this
    exact h
  | succ n ih =>
    intro A B K hA hO h
    obtain ⟨A', x, rfl⟩ : ∃ A' x, A = A' ++ [x] := by
      rcases List.eq_nil_or_concat A with rfl | ⟨A', x, e⟩
      · simp at hA
      · exact ⟨A', x, by rw [e, List.concat_eq_append]⟩
    rw [List.length_append, List.length_singleton] at hA h
    rw [List.reverse_append, List.reverse_singleton]
    show TI es 0 (A'.reverse.foldl _ (tieF (toL (es.map swp)) x (nmE es).length K))
    refine ih A' (x :: B) _ (by omega) (by rw [hO, List.append_assoc]; rfl) (h.tie ?_ _)
    rw [hO, List.append_assoc, List.getElem?_append_right (Nat.le_refl _), Nat.sub_self]
    rfl
theorem tied_TI (es : List Edg) : TI es 0 (tiedF es) := by
  have h := ties_TI (es := es) _ (ordE es) [] [] rfl (by rw [List.append_nil]) ⟨fun k x hk hx => by
    have := (List.getElem?_eq_some_iff.1 hx).1
    omega, fun a ha => by cases ha⟩
  unfold tiedF tiesF
  rw [← bwd_snd, List.foldl_map] at h
  exact h
theorem knots_way {es : List Edg} {a b : Int} (he : (a, b) ∈ es) (h : dF (tiedF es) a = dF (tiedF es) b) : Way es b a := by
  have t := tied_TI es
  have has : ∀ c, c ∈ ordE es → hasF (tiedF es) c = true := fun c hc => by
    obtain ⟨i, hi, e⟩ := List.mem_iff_getElem.1 hc
    exact t.al i c (Nat.zero_le _) (by rw [List.getElem?_eq_getElem hi, e])
  have h1 := t.wy a (has a (ord_all he).1)
  have h2 := t.wy b (has b (ord_all he).2)
  rw [← h] at h2
  exact h2.1.trans h1.2
end Go.Proofs.Ytbcemognghkmcaa.Kt
