/- What far answers, and Round: plain. -/
import Derived.Test.YtbcemognghkmcaaKtD
namespace Go.Proofs.Ytbcemognghkmcaa.Kt
open Go.ChangeShapes Go.WideShapes Go.ChangeAt Go.RowKit Go.PlainAid Aid
set_option linter.unusedVariables false
set_option linter.unusedSimpArgs false
theorem fnd_cons (p : Int × Int) (F : Fe) (a : Int) : fnd (p :: F) a = if p.1 = a then some p else fnd F a := find_cons (fun p : Int × Int => p.1) p F a
theorem hasF_cons (p : Int × Int) (F : Fe) (a : Int) : hasF (p :: F) a = true ↔ p.1 = a ∨ hasF F a = true := by
  unfold hasF; rw [fnd_cons]; split <;> simp_all
theorem dF_cons (p : Int × Int) (F : Fe) (a : Int) : dF (p :: F) a = if p.1 = a then p.2 else dF F a := by
  unfold dF; rw [fnd_cons]; by_cases h : p.1 = a
  · rw [if_pos h, if_pos h]
  · rw [if_neg h, if_neg h]
/-- Who is in it was led to by one that is in it, one edge nearer. -/
structure Par (B : Int → List Int) (id : Int) (F : Fe) : Prop where
  hi : hasF F id = true
  di : dF F id = 0
  up : ∀ a, hasF F a = true → a = id ∨ ∃ r, hasF F r = true ∧ a ∈ B r ∧ dF F a = dF F r + 1
theorem Par.step {B : Int → List Int} {id : Int} {F : Fe} {q : List Int} {r tt : Int} (h : Par B id F) (hr : hasF F r = true) (ht : tt ∈ B r) : Par B id (fstep r (F, q) tt).1 := by
  unfold fstep
  cases hh : hasF F tt with
  | true => exact h
  | false =>
    rw [if_neg (by simp [hh])]
    show Par B id ((tt, dF F r + 1) :: F)
    have hn : ∀ a, hasF F a = true → ¬ tt = a := fun a ha e => by rw [e, ha] at hh; cases hh
    refine ⟨(hasF_cons _ _ _).2 (Or.inr h.hi), by rw [dF_cons, if_neg (hn _ h.hi)]; exact h.di, fun a ha => ?_⟩
    rcases (hasF_cons _ _ _).1 ha with e | ha
    · refine Or.inr ⟨r, (hasF_cons _ _ _).2 (Or.inr hr), by rw [← e]; exact ht, ?_⟩
      rw [dF_cons, if_pos e, dF_cons, if_neg (hn _ hr)]
    · rcases h.up a ha with e | ⟨s, hs, h1, h2⟩
      · exact Or.inl e
      · refine Or.inr ⟨s, (hasF_cons _ _ _).2 (Or.inr hs), h1, ?_⟩
        rw [dF_cons, if_neg (hn _ ha), dF_cons, if_neg (hn _ hs)]
        exact h2
/-- A property of all that is led to, told of a step, is one of the end. -/
theorem fin_go (r : Int) (tos : List Int) (I : Fe → List Int → Prop) (hs : ∀ F q tt, I F (r :: q) → tt ∈ tos → I (fstep r (F, r :: q) tt).1 (fstep r (F, r :: q) tt).2) {F : Fe} {q : List Int} (h : I F (r :: q)) : ∃ F' q', fin r tos (F, r :: q) = (F', r :: q') ∧ I F' (r :: q') := by
  induction tos generalizing F q with
  | nil => exact ⟨F, q, rfl, h⟩
  | cons tt tos ih =>
    have h1 := hs F q tt h List.mem_cons_self
    obtain ⟨q', hq⟩ := fstep_head r F q tt
    rw [hq] at h1
    obtain ⟨F2, q2, h2, h3⟩ := ih (fun F q t2 hI hm => hs F q t2 hI (List.mem_cons_of_mem _ hm)) h1
    refine ⟨F2, q2, ?_, h3⟩
    rw [← h2]
    show fin r tos (fstep r (F, r :: q) tt) = _
    rw [← hq]
theorem fbfs_go (B : Int → List Int) (I : Fe → List Int → Prop) (hs : ∀ F q r tt, I F (r :: q) → tt ∈ B r → I (fstep r (F, r :: q) tt).1 (fstep r (F, r :: q) tt).2) (ht : ∀ F r q, I F (r :: q) → I F q) (n : Nat) {F : Fe} {q : List Int} (h : I F q) : ∃ q', I (fbfs B n F q) q' := by
  induction n generalizing F q with
  | zero => exact ⟨q, h⟩
  | succ n ih =>
    cases q with
    | nil => exact ⟨[], h⟩
    | cons r q =>
      obtain ⟨F1, q1, h1, h2⟩ := fin_go r (B r) I (fun F q tt hI hm => hs F q r tt hI hm) h
      show ∃ q', I (fbfs B n (fin r (B r) (F, r :: q)).1 (fin r (B r) (F, r :: q)).2.tail) q'
      rw [h1]
      exact ih (ht _ _ _ h2)
theorem FOk.tail {NS : List Int} {F : Fe} {r : Int} {q : List Int} (h : FOk NS F (r :: q)) : FOk NS F q := ⟨h.nd, h.ns, h.ds, fun a ha => h.qf a (List.mem_cons_of_mem _ ha)⟩
theorem far_ok (B : Int → List Int) (NS : List Int) (id : Int) (hid : id ∈ NS) (hB : ∀ a b, b ∈ B a → b ∈ NS) (n : Nat) : Par B id (fbfs B n [(id, 0)] [id]) ∧ ∃ q, FOk NS (fbfs B n [(id, 0)] [id]) q := by
  obtain ⟨q, h1, h2⟩ := fbfs_go B (fun F q => FOk NS F q ∧ Par B id F) (fun F q r tt h ht => ⟨h.1.step List.mem_cons_self (hB r tt ht), h.2.step (h.1.qf r List.mem_cons_self) ht⟩) (fun F r q h => ⟨h.1.tail, h.2⟩) n (F := [(id, 0)]) (q := [id])
    ⟨⟨by simp, fun p hp => by rw [List.mem_singleton.1 hp]; exact hid, fun p hp => by rw [List.mem_singleton.1 hp]; simp, fun a ha => by rw [List.mem_singleton.1 ha, hasF_mem]; simp⟩,
      ⟨by rw [hasF_mem]; simp, by rw [dF_cons, if_pos rfl], fun a ha => by
        rcases (hasF_cons _ _ _).1 ha with e | ha
        · exact Or.inl e.symm
        · cases ha⟩⟩
  exact ⟨h2, q, h1⟩
/-! Who is nearest. -/
theorem nearL_min (F : Fe) (l : List Int) : ∀ a, a ∈ l → hasF F a = true → (nearL F l).2 = true ∧ (dF F (nearL F l).1 < dF F a ∨ (dF F (nearL F l).1 = dF F a ∧ (nearL F l).1 ≤ a)) := by
  rw [← List.reverse_reverse l]
  generalize l.reverse = m
  induction m with
  | nil => intro a ha; cases ha
  | cons x m ih =>
    intro a ha hf
    rw [List.reverse_cons] at ha ⊢
    rw [nearL_snoc]
    obtain ⟨st, hst⟩ : ∃ st, st = nearL F m.reverse := ⟨_, rfl⟩
    rw [← hst] at ih ⊢
    rcases List.mem_append.1 ha with ha | ha
    · obtain ⟨h1, h2⟩ := ih a ha hf
      unfold nstep
      split
      · rename_i hc
        obtain ⟨hc1, hc2⟩ := hc
        refine ⟨rfl, ?_⟩
        simp only
        rcases hc2 with hc2 | hc2 | hc2
        · rw [h1] at hc2; cases hc2
        · omega
        · omega
      · exact ⟨h1, h2⟩
    · obtain rfl := List.mem_singleton.1 ha
      unfold nstep
      split
      · exact ⟨rfl, Or.inr ⟨rfl, Int.le_refl _⟩⟩
      · rename_i hc
        cases h2 : st.2 with
        | false => exact absurd ⟨hf, Or.inl h2⟩ hc
        | true =>
          refine ⟨rfl, ?_⟩
          have h3 : ¬ dF F a < dF F st.1 := fun h => hc ⟨hf, Or.inr (Or.inl h)⟩
          have h4 : ¬ (dF F a = dF F st.1 ∧ a < st.1) := fun h => hc ⟨hf, Or.inr (Or.inr h)⟩
          omega
/-! Round. -/
def rgo (G : Int → List Int) (F : Fe) (id : Int) : Nat → Int → List Int
  | 0, _ => []
  | n + 1, at_ => if at_ = id then [] else at_ :: rgo G F id n (nearL F (G at_)).1
def rndF (G : Int → List Int) (F : Fe) (id : Int) (n : Nat) : List Int := if (nearL F (G id)).2 = true then id :: rgo G F id n (nearL F (G id)).1 else []
theorem rgo_id (G : Int → List Int) (F : Fe) (id : Int) (n : Nat) : rgo G F id n id = [] := by
  cases n with
  | zero => rfl
  | succ n => unfold rgo; rw [if_pos rfl]
/-- The next one is nearer. -/
theorem next_near {G B : Int → List Int} {F : Fe} {id a : Int} (hP : Par B id F) (hGB : ∀ r a, a ∈ B r → r ∈ G a) (ha : hasF F a = true) (hne : a ≠ id) : (nearL F (G a)).2 = true ∧ (nearL F (G a)).1 ∈ G a ∧ hasF F (nearL F (G a)).1 = true ∧ dF F (nearL F (G a)).1 < dF F a := by
  rcases hP.up a ha with e | ⟨r, h1, h2, h3⟩
  · exact absurd e hne
  · obtain ⟨h4, h5⟩ := nearL_min F (G a) r (hGB r a h2) h1
    rcases nearL_mem F (G a) with e | ⟨h6, h7, h8⟩
    · rw [e] at h4; cases h4
    · exact ⟨h4, h7, h8, by omega⟩
end Go.Proofs.Ytbcemognghkmcaa.Kt
