/- Ways both ways are one knot; Any is the least one that has a round. -/
import Derived.Test.YtbcemognghkmcaaKtV
namespace Go.Proofs.Ytbcemognghkmcaa.Kt
open Go.ChangeShapes Go.WideShapes Go.ChangeAt Go.RowKit Go.PlainAid Aid
set_option linter.unusedVariables false
set_option linter.unusedSimpArgs false
theorem tstep_pot (id : Int) (st : Fe × List Int) (t : Int) : (tstep id st t).2.length + st.1.length = st.2.length + (tstep id st t).1.length := by
  unfold tstep
  split
  · rfl
  · simp only [List.length_cons]; omega
theorem tin_pot (id : Int) (tos : List Int) (st : Fe × List Int) : (tin id tos st).2.length + st.1.length = st.2.length + (tin id tos st).1.length := by
  induction tos generalizing st with
  | nil => rfl
  | cons t tos ih =>
    have h1 := tstep_pot id st t
    have h2 := ih (tstep id st t)
    show (tin id tos (tstep id st t)).2.length + _ = _ + (tin id tos (tstep id st t)).1.length
    omega
theorem tstep_facts (id : Int) (st : Fe × List Int) (t : Int) : (∀ a, hasF st.1 a = true → hasF (tstep id st t).1 a = true) ∧ hasF (tstep id st t).1 t = true ∧ (∀ a, a ∈ st.2 → a ∈ (tstep id st t).2) ∧ (∀ a, hasF (tstep id st t).1 a = true → hasF st.1 a = true ∨ a ∈ (tstep id st t).2) := by
  unfold tstep
  by_cases h : hasF st.1 t = true
  · rw [if_pos h]
    exact ⟨fun _ x => x, h, fun _ x => x, fun _ x => Or.inl x⟩
  · rw [if_neg h]
    refine ⟨fun a x => (hasF_cons _ _ _).2 (Or.inr x), (hasF_cons _ _ _).2 (Or.inl rfl), fun a x => List.mem_cons_of_mem _ x, fun a x => ?_⟩
    rcases (hasF_cons _ _ _).1 x with e | x
    · exact Or.inr (by rw [← e]; exact List.mem_cons_self)
    · exact Or.inl x
theorem tin_facts (id : Int) (tos : List Int) (st : Fe × List Int) : (∀ a, hasF st.1 a = true → hasF (tin id tos st).1 a = true) ∧ (∀ t, t ∈ tos → hasF (tin id tos st).1 t = true) ∧ (∀ a, a ∈ st.2 → a ∈ (tin id tos st).2) ∧ (∀ a, hasF (tin id tos st).1 a = true → hasF st.1 a = true ∨ a ∈ (tin id tos st).2) := by
  induction tos generalizing st with
  | nil => exact ⟨fun _ h => h, fun _ h => (by cases h), fun _ h => h, fun _ h => Or.inl h⟩
  | cons t tos ih =>
    obtain ⟨h1, h2, h3, h4⟩ := ih (tstep id st t)
    obtain ⟨g1, g2, g3, g4⟩ := tstep_facts id st t
    refine ⟨fun a h => h1 a (g1 a h), fun a h => ?_, fun a h => h3 a (g3 a h), fun a h => ?_⟩
    · rcases List.mem_cons.1 h with rfl | h
      · exact h1 a g2
      · exact h2 a h
    · rcases h4 a h with h5 | h5
      · rcases g4 a h5 with h6 | h6
        · exact Or.inl h6
        · exact Or.inr (h3 a h6)
      · exact Or.inr h5
/-- Who is new stands on the stack yet, or all that lead to it have knots. -/
def Ct (l : Int → List Int) (K0 K : Fe) (S : List Int) : Prop := ∀ a, hasF K a = true → hasF K0 a = true ∨ a ∈ S ∨ ∀ t, t ∈ l a → hasF K t = true
theorem tgo_ct {l : Int → List Int} {NS : List Int} (hl : ∀ a b, b ∈ l a → b ∈ NS) (id : Int) (K0 : Fe) (n : Nat) {K : Fe} {S : List Int} (hp : S.length + NS.length ≤ n + K.length) (hk : TOk NS K S) (hc : Ct l K0 K S) : Ct l K0 (tgo l id n K S) [] ∧ ∀ a, hasF K a = true → hasF (tgo l id n K S) a = true := by
  induction n generalizing K S with
  | zero =>
    have h1 := hk.len
    have : S = [] := List.length_eq_zero_iff.1 (by omega)
    subst this
    exact ⟨hc, fun _ h => h⟩
  | succ n ih =>
    cases S with
    | nil => exact ⟨hc, fun _ h => h⟩
    | cons a S =>
      have hpt := tin_pot id (l a) (K, S)
      obtain ⟨f1, f2, f3, f4⟩ := tin_facts id (l a) (K, S)
      have hk2 := tin_ok (id := id) (fun b hb => hl a b hb) hk.pop
      dsimp only at hpt f1 f2 f3 f4
      have hcl : Ct l K0 (tin id (l a) (K, S)).1 (tin id (l a) (K, S)).2 := by
        intro b hb
        rcases f4 b hb with h5 | h5
        · rcases hc b h5 with h6 | h6 | h6
          · exact Or.inl h6
          · rcases List.mem_cons.1 h6 with rfl | h7
            · exact Or.inr (Or.inr f2)
            · exact Or.inr (Or.inl (f3 b h7))
          · exact Or.inr (Or.inr fun t ht => f1 t (h6 t ht))
        · exact Or.inr (Or.inl h5)
      have := ih (K := (tin id (l a) (K, S)).1) (S := (tin id (l a) (K, S)).2) (by rw [List.length_cons] at hp; omega) hk2 hcl
      exact ⟨this.1, fun b hb => this.2 b (f1 b hb)⟩
/-- Who gets a knot: just a chain's ones. -/
theorem tie_uc {es : List Edg} {id : Int} {K : Fe} (hid : id ∈ nmE es) (hK : TOk (nmE es) K []) (h : hasF K id = false) :
    (∀ a, hasF K a = true → hasF (tieF (toL (es.map swp)) id (nmE es).length K) a = true ∧ dF (tieF (toL (es.map swp)) id (nmE es).length K) a = dF K a) ∧
    (∀ a, hasF K a = false → (hasF (tieF (toL (es.map swp)) id (nmE es).length K) a = true ↔ Uc es K id a) ∧ (hasF (tieF (toL (es.map swp)) id (nmE es).length K) a = true → dF (tieF (toL (es.map swp)) id (nmE es).length K) a = id)) := by
  have e : tieF (toL (es.map swp)) id (nmE es).length K = tgo (toL (es.map swp)) id (nmE es).length ((id, id) :: K) [id] := by unfold tieF; rw [if_neg (by simp [h])]
  rw [e]
  have hl : ∀ a b, b ∈ toL (es.map swp) a → b ∈ nmE es := fun a b hb => (nmE_mem (mem_swp.1 hb)).1
  obtain ⟨S', t⟩ := tgo_TJ (es := es) (id := id) (K0 := K) (nmE es).length (K := (id, id) :: K) (S := [id]) ⟨fun a ha => by
      rw [dF_cons]
      by_cases e : id = a
      · rw [if_pos e, ← e]; exact Or.inr ⟨h, rfl, Uc.base⟩
      · rw [if_neg e]
        rcases (hasF_cons _ _ _).1 ha with e2 | ha
        · exact absurd e2 e
        · exact Or.inl ⟨ha, rfl⟩, fun a ha => (hasF_cons _ _ _).2 (Or.inr ha), (hasF_cons _ _ _).2 (Or.inl rfl), fun s hs => by rw [List.mem_singleton.1 hs]; exact Uc.base⟩
  have hK1 := hK.push (id := id) h hid
  have hlen := hK1.len
  obtain ⟨c1, c2⟩ := tgo_ct hl id K (nmE es).length (K := (id, id) :: K) (S := [id]) (by simp; omega) hK1 (fun a ha => by
    rcases (hasF_cons _ _ _).1 ha with e | ha
    · exact Or.inr (Or.inl (by rw [← e]; exact List.mem_cons_self))
    · exact Or.inl ha)
  generalize tgo (toL (es.map swp)) id (nmE es).length ((id, id) :: K) [id] = K' at *
  refine ⟨fun a ha => ?_, fun a ha => ⟨⟨fun hx => ?_, fun hx => ?_⟩, fun hx => ?_⟩⟩
  · have h1 := t.ol a ha
    rcases t.nw a h1 with h2 | h2
    · exact ⟨h1, h2.2⟩
    · rw [h2.1] at ha; cases ha
  · rcases t.nw a hx with h2 | h2
    · rw [h2.1] at ha; cases ha
    · exact h2.2.2
  · clear ha
    induction hx with
    | base => exact t.ii
    | @step a b he ha hb ih =>
      rcases c1 b ih with h1 | h1 | h1
      · cases hb with
        | base => rw [h] at h1; cases h1
        | step _ hb' _ => rw [hb'] at h1; cases h1
      · cases h1
      · exact h1 a (mem_swp.2 he)
  · rcases t.nw a hx with h2 | h2
    · rw [h2.1] at ha; cases ha
    · exact h2.2.1
/-- Ways both ways: both have a knot, the same one, or none has. -/
def Un (es : List Edg) (K : Fe) : Prop := ∀ a b, Way es a b → Way es b a → hasF K a = hasF K b ∧ dF K a = dF K b
theorem uc_both {es : List Edg} {K : Fe} {id : Int} (hu : Un es K) {a b : Int} (hw : Way es b a) : Way es a b → hasF K a = false → Uc es K id a → Uc es K id b := by
  induction hw with
  | refl => exact fun _ _ h => h
  | @step x y z e h ih =>
    intro hb ha hc
    have h1 : Way es z y := hb.trans (Way.one e)
    have h2 := ih h1 ha hc
    have h3 : hasF K x = false := by rw [← (hu z x hb (Way.step e h)).1]; exact ha
    exact Uc.step e h3 h2
theorem Un.tie {es : List Edg} {K : Fe} {id : Int} (hu : Un es K) (hid : id ∈ nmE es) (hK : TOk (nmE es) K []) : Un es (tieF (toL (es.map swp)) id (nmE es).length K) := by
  cases h : hasF K id with
  | true =>
    have : tieF (toL (es.map swp)) id (nmE es).length K = K := by unfold tieF; rw [if_pos h]
    rw [this]; exact hu
  | false =>
    obtain ⟨t1, t2⟩ := tie_uc hid hK h
    intro a b hab hba
    obtain ⟨u1, u2⟩ := hu a b hab hba
    cases ha : hasF K a with
    | true =>
      have hb : hasF K b = true := by rw [← u1]; exact ha
      rw [(t1 a ha).1, (t1 b hb).1, (t1 a ha).2, (t1 b hb).2]
      exact ⟨rfl, u2⟩
    | false =>
      have hb : hasF K b = false := by rw [← u1]; exact ha
      obtain ⟨a1, a2⟩ := t2 a ha
      obtain ⟨b1, b2⟩ := t2 b hb
      cases hx : hasF (tieF (toL (es.map swp)) id (nmE es).length K) a with
      | true =>
        have hy := b1.2 (uc_both hu hba hab ha (a1.1 hx))
        rw [hy, a2 hx, b2 hy]
        exact ⟨rfl, rfl⟩
      | false =>
        have hy : hasF (tieF (toL (es.map swp)) id (nmE es).length K) b = false := by
          cases hy : hasF (tieF (toL (es.map swp)) id (nmE es).length K) b with
          | false => rfl
          | true =>
            have := a1.2 (uc_both hu hab hba hb (b1.1 hy))
            rw [hx] at this; cases this
        rw [hy]
        have z : ∀ c, hasF (tieF (toL (es.map swp)) id (nmE es).length K) c = false → dF (tieF (toL (es.map swp)) id (nmE es).length K) c = 0 := fun c hc => by
          unfold hasF at hc
          unfold dF
          cases hf : fnd (tieF (toL (es.map swp)) id (nmE es).length K) c with
          | none => rfl
          | some p => rw [hf] at hc; cases hc
        rw [z a hx, z b hy]
        exact ⟨rfl, rfl⟩
theorem ties_un {es : List Edg} : ∀ (ps : List (Int × Int)), (∀ p, p ∈ ps → p.2 ∈ nmE es) → ∀ K, TOk (nmE es) K [] → Un es K → Un es (tiesF es K ps)
  | [], _, K, _, hu => hu
  | p :: ps, hp, K, hK, hu => by
    show Un es (tiesF es (tieF (toL (es.map swp)) p.2 (nmE es).length K) ps)
    have hp1 := hp p List.mem_cons_self
    exact ties_un ps (fun q hq => hp q (List.mem_cons_of_mem _ hq)) _ (tie_ok (fun a b hb => (nmE_mem (mem_swp.1 hb)).1) hp1 _ hK) (hu.tie hp1 hK)
theorem tied_un (es : List Edg) (hn : es.length ≤ 900) : Un es (tiedF es) :=
  ties_un _ (fun p hp => (ordE_ok es hn).1 _ (bwd_mem hp)) _ ⟨List.nodup_nil, fun p hp => (by cases hp), fun a ha => (by cases ha)⟩ (fun a b _ _ => ⟨rfl, rfl⟩)
/-! Any. -/
theorem any_least (K : Fe) (es : List Edg) : anyF K es = leastL ((es.filter fun e => decide (dF K e.1 = dF K e.2)).map (·.1)) := by
  rw [← List.reverse_reverse es]
  generalize es.reverse = m
  induction m with
  | nil => rfl
  | cons x m ih =>
    rw [List.reverse_cons, anyF_snoc, List.filter_append, List.map_append, ih]
    unfold astep
    by_cases h : dF K x.1 = dF K x.2
    · have e : ([x].filter fun e => decide (dF K e.1 = dF K e.2)) = [x] := by simp [h]
      rw [e]
      show _ = leastL (_ ++ [x.1])
      rw [leastL_snoc]
      unfold lstep
      simp only [h, true_and]
    · have e : ([x].filter fun e => decide (dF K e.1 = dF K e.2)) = [] := by simp [h]
      rw [e, List.map_nil, List.append_nil, if_neg (fun c => h c.1)]
def rounders (es : List Edg) : List Int := (es.filter fun e => decide (rndL es e.1 ≠ [])).map (·.1)
theorem any_same (es : List Edg) (hn : es.length ≤ 900) : leastL (rounders es) = anyL es := by
  unfold anyL
  rw [any_least]
  refine leastL_congr fun x => ?_
  unfold rounders
  rw [List.mem_map, List.mem_map]
  constructor
  · rintro ⟨e, he, rfl⟩
    obtain ⟨h1, h2⟩ := List.mem_filter.1 he
    have h2 : rndL es e.1 ≠ [] := by simpa using h2
    have h3 : (nearL (farE es e.1) (toL es e.1)).2 = true := by
      cases hc : (nearL (farE es e.1) (toL es e.1)).2 with
      | true => rfl
      | false => exact absurd (rnd_none hc) h2
    rcases nearL_mem (farE es e.1) (toL es e.1) with h4 | ⟨-, h4, h5⟩
    · rw [h4] at h3; cases h3
    obtain ⟨n, -, hw, -⟩ := far_nat h5
    have h6 := mem_toL.1 h4
    exact ⟨_, List.mem_filter.2 ⟨h6, by simpa using (tied_un es hn _ _ (Way.one h6) hw.way).2⟩, rfl⟩
  · rintro ⟨e, he, rfl⟩
    obtain ⟨h1, h2⟩ := List.mem_filter.1 he
    have h2 : dF (tiedF es) e.1 = dF (tiedF es) e.2 := by simpa using h2
    exact ⟨e, List.mem_filter.2 ⟨h1, by simpa using rnd_way (b := e.2) h1 (knots_way h1 h2)⟩, rfl⟩
theorem maxL_le (l : List Int) : ∀ x, x ∈ l → x ≤ maxL l := by
  have gen : ∀ (m : List Int) (x : Int), x ≤ m.foldl maxI x ∧ ∀ y, y ∈ m → y ≤ m.foldl maxI x := by
    intro m
    induction m with
    | nil => exact fun x => ⟨Int.le_refl _, fun y hy => by cases hy⟩
    | cons z m ih =>
      intro x
      obtain ⟨h1, h2⟩ := ih (maxI x z)
      have h3 : x ≤ maxI x z ∧ z ≤ maxI x z := by unfold maxI; split <;> omega
      refine ⟨by show x ≤ m.foldl maxI (maxI x z); omega, fun y hy => ?_⟩
      show y ≤ m.foldl maxI (maxI x z)
      rcases List.mem_cons.1 hy with rfl | hy
      · omega
      · exact h2 y hy
  intro x hx
  cases l with
  | nil => cases hx
  | cons a l =>
    show x ≤ l.foldl maxI a
    rcases List.mem_cons.1 hx with rfl | hx
    · exact (gen l x).1
    · exact (gen l a).2 x hx
end Go.Proofs.Ytbcemognghkmcaa.Kt
