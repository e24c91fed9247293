/- Distances: what far tells is the fewest edges; the document's Far, Next and Round, plain. -/
import Derived.Test.YtbcemognghkmcaaKtS
namespace Go.Proofs.Ytbcemognghkmcaa.Kt
open Go.ChangeShapes Go.WideShapes Go.ChangeAt Go.RowKit Go.PlainAid Aid
set_option linter.unusedVariables false
set_option linter.unusedSimpArgs false
theorem fstep_old (r : Int) (F : Fe) (q : List Int) (t a : Int) (h : hasF F a = true) : dF (fstep r (F, q) t).1 a = dF F a := by
  unfold fstep
  cases hh : hasF F t with
  | true => rw [if_pos (by simp [hh])]
  | false =>
    rw [if_neg (by simp [hh])]
    show dF ((t, dF F r + 1) :: F) a = dF F a
    rw [dF_cons, if_neg (fun e => by have e : t = a := e; rw [e, h] at hh; cases hh)]
/-- The queue's ones rise, and differ by one at most; who is through leads to none that is farther than one edge more. -/
structure Bq (B : Int → List Int) (F : Fe) (q : List Int) : Prop where
  pw : q.Pairwise fun a b => dF F a ≤ dF F b
  hd : ∀ r q', q = r :: q' → ∀ a, hasF F a = true → dF F a ≤ dF F r + 1
  ed : ∀ a, hasF F a = true → a ∈ q ∨ ∀ t, t ∈ B a → hasF F t = true ∧ dF F t ≤ dF F a + 1
  le : ∀ a, hasF F a = true → a ∈ q ∨ ∀ b, b ∈ q → dF F a ≤ dF F b
  qf : ∀ a, a ∈ q → hasF F a = true
theorem Bq.step {B : Int → List Int} {F : Fe} {q : List Int} {r t : Int} (h : Bq B F (r :: q)) : Bq B (fstep r (F, r :: q) t).1 (fstep r (F, r :: q) t).2 := by
  cases hh : hasF F t with
  | true =>
    have : fstep r (F, r :: q) t = (F, r :: q) := by unfold fstep; rw [if_pos (by simp [hh])]
    rw [this]; exact h
  | false =>
    have e : fstep r (F, r :: q) t = ((t, dF F r + 1) :: F, r :: q ++ [t]) := by unfold fstep; rw [if_neg (by simp [hh])]
    rw [e]
    have hne : ∀ a, hasF F a = true → ¬ t = a := fun a ha x => by rw [x, ha] at hh; cases hh
    have hd : ∀ a, hasF F a = true → dF ((t, dF F r + 1) :: F) a = dF F a := fun a ha => by rw [dF_cons, if_neg (hne a ha)]
    have ht : dF ((t, dF F r + 1) :: F) t = dF F r + 1 := by rw [dF_cons, if_pos rfl]
    have hr := h.qf r List.mem_cons_self
    show Bq B ((t, dF F r + 1) :: F) (r :: q ++ [t])
    refine ⟨?_, ?_, fun a ha => ?_, fun a ha => ?_, fun a ha => ?_⟩
    · rw [List.pairwise_append]
      refine ⟨?_, List.pairwise_singleton _ _, fun a ha b hb => ?_⟩
      · refine List.Pairwise.imp_of_mem (fun {a b} ha hb hab => ?_) h.pw
        rw [hd a (h.qf a ha), hd b (h.qf b hb)]; exact hab
      · rw [List.mem_singleton.1 hb, ht, hd a (h.qf a ha)]
        exact h.hd r q rfl a (h.qf a ha)
    · intro r' q' he a ha
      obtain ⟨rfl, -⟩ := List.cons.inj he
      rw [hd r hr]
      rcases (hasF_cons _ _ _).1 ha with x | ha
      · rw [← x, ht]; exact Int.le_refl _
      · rw [hd a ha]; exact h.hd r q rfl a ha
    · rcases (hasF_cons _ _ _).1 ha with x | ha
      · exact Or.inl (by rw [← x]; simp)
      · rcases h.ed a ha with x | x
        · exact Or.inl (List.mem_append_left _ x)
        · refine Or.inr fun t' ht' => ?_
          obtain ⟨y1, y2⟩ := x t' ht'
          exact ⟨(hasF_cons _ _ _).2 (Or.inr y1), by rw [hd a ha, hd t' y1]; exact y2⟩
    · rcases (hasF_cons _ _ _).1 ha with x | ha
      · exact Or.inl (by rw [← x]; simp)
      · rcases h.le a ha with x | x
        · exact Or.inl (List.mem_append_left _ x)
        · refine Or.inr fun b hb => ?_
          rw [hd a ha]
          rcases List.mem_append.1 hb with hb | hb
          · rw [hd b (h.qf b hb)]; exact x b hb
          · rw [List.mem_singleton.1 hb, ht]
            have := x r List.mem_cons_self
            omega
    · rcases List.mem_append.1 ha with ha | ha
      · exact (hasF_cons _ _ _).2 (Or.inr (h.qf a ha))
      · rw [List.mem_singleton.1 ha]; exact (hasF_cons _ _ _).2 (Or.inl rfl)
theorem Bq.tail {B : Int → List Int} {F : Fe} {q : List Int} {r : Int} (h : Bq B F (r :: q)) (hB : ∀ t, t ∈ B r → hasF F t = true) : Bq B F q := by
  obtain ⟨p1, p2⟩ := List.pairwise_cons.1 h.pw
  refine ⟨p2, fun r' q' he a ha => ?_, fun a ha => ?_, fun a ha => ?_, fun a ha => h.qf a (List.mem_cons_of_mem _ ha)⟩
  · have h1 := h.hd r q rfl a ha
    have h2 := p1 r' (by rw [he]; exact List.mem_cons_self)
    omega
  · rcases h.ed a ha with x | x
    · rcases List.mem_cons.1 x with rfl | x
      · exact Or.inr fun t ht => ⟨hB t ht, h.hd a q rfl t (hB t ht)⟩
      · exact Or.inl x
    · exact Or.inr x
  · rcases h.le a ha with x | x
    · rcases List.mem_cons.1 x with rfl | x
      · exact Or.inr fun b hb => p1 b hb
      · exact Or.inl x
    · exact Or.inr fun b hb => x b (List.mem_cons_of_mem _ hb)
theorem fbfs_bq {B : Int → List Int} {NS : List Int} (hB : ∀ a b, b ∈ B a → b ∈ NS) (n : Nat) {F : Fe} {q : List Int} (hp : pot NS F q ≤ n) (hk : FOk NS F q) (hc : Bq B F q) : Bq B (fbfs B n F q) [] := by
  induction n generalizing F q with
  | zero =>
    have : q = [] := List.length_eq_zero_iff.1 (by unfold pot at hp; omega)
    subst this
    exact hc
  | succ n ih =>
    cases q with
    | nil => exact hc
    | cons r q =>
      obtain ⟨F1, q1, h1, h2, h3⟩ := fin_go r (B r) (fun F q => FOk NS F q ∧ Bq B F q) (fun F q t h ht => ⟨h.1.step List.mem_cons_self (hB r t ht), h.2.step⟩) ⟨hk, hc⟩
      have hpt := fin_pot r (B r) (F, r :: q)
      obtain ⟨f1, f2, f3, f4⟩ := fin_facts r (B r) (F, r :: q)
      rw [h1] at hpt f1 f2 f3 f4
      dsimp only at hpt f1 f2 f3 f4
      have hl1 := hk.len
      have hl2 := h2.len
      have := ih (F := F1) (q := q1) (by unfold pot at hp ⊢; rw [List.length_cons] at hp hpt; simp only [List.length_cons] at hpt; omega) h2.tail (h3.tail f2)
      show Bq B (fbfs B n (fin r (B r) (F, r :: q)).1 (fin r (B r) (F, r :: q)).2.tail) []
      rw [h1]
      exact this
theorem farE_ed {es : List Edg} {id a b : Int} (hb : hasF (farE es id) b = true) (he : (a, b) ∈ es) : hasF (farE es id) a = true ∧ dF (farE es id) a ≤ dF (farE es id) b + 1 := by
  have hid : id ∈ nsE id es := List.mem_cons_self
  have hc := fbfs_bq (B := toL (es.map swp)) (NS := nsE id es) (fun a b h => (nsE_mem (mem_swp.1 h)).1) (nsE id es).length (F := [(id, 0)]) (q := [id])
    (by unfold pot; have := List.length_pos_of_mem hid; simp; omega)
    ⟨by simp, fun p hp => (by rw [List.mem_singleton.1 hp]; exact hid), fun p hp => (by rw [List.mem_singleton.1 hp]; simp), fun a ha => (by rw [List.mem_singleton.1 ha, hasF_mem]; simp)⟩
    (by
      have h1 : ∀ a, hasF [(id, (0 : Int))] a = true → a = id := fun a ha => by
        rcases (hasF_cons _ _ _).1 ha with e | ha
        · exact e.symm
        · cases ha
      refine ⟨List.pairwise_singleton _ _, fun r q' he a ha => ?_, fun a ha => Or.inl (by rw [h1 a ha]; simp), fun a ha => Or.inl (by rw [h1 a ha]; simp), fun a ha => by rw [List.mem_singleton.1 ha, hasF_mem]; simp⟩
      obtain ⟨rfl, -⟩ := List.cons.inj he
      rw [h1 a ha]; omega)
  rcases hc.ed b hb with x | x
  · cases x
  · exact x a (mem_swp.2 he)
/-- Just so many edges. -/
inductive Wn (es : List Edg) : Nat → Int → Int → Prop
  | zero (a : Int) : Wn es 0 a a
  | succ {n : Nat} {a b c : Int} : (a, b) ∈ es → Wn es n b c → Wn es (n + 1) a c
theorem Wn.way {es : List Edg} {n : Nat} {a b : Int} (h : Wn es n a b) : Way es a b := by
  induction h with
  | zero a => exact Way.refl _
  | succ e _ ih => exact Way.step e ih
theorem Wn.snoc {es : List Edg} {n : Nat} {a b c : Int} (h : Wn es n a b) (e : (b, c) ∈ es) : Wn es (n + 1) a c := by
  induction h with
  | zero a => exact Wn.succ e (Wn.zero _)
  | succ e2 _ ih => exact Wn.succ e2 (ih e)
theorem Wn.last {es : List Edg} : ∀ {n : Nat} {a c : Int}, Wn es (n + 1) a c → ∃ b, Wn es n a b ∧ (b, c) ∈ es
  | 0, a, c, h => by
    cases h with
    | succ e h => cases h with
      | zero => exact ⟨a, Wn.zero a, e⟩
  | n + 1, a, c, h => by
    cases h with
    | succ e h =>
      obtain ⟨b, h1, h2⟩ := Wn.last h
      exact ⟨b, Wn.succ e h1, h2⟩
theorem far_min {es : List Edg} {id a : Int} {n : Nat} (h : Wn es n a id) : hasF (farE es id) a = true ∧ dF (farE es id) a ≤ n := by
  generalize hg : id = g at h
  induction h with
  | zero a => subst hg; exact ⟨(farE_ok es id).1.hi, by rw [(farE_ok es id).1.di]; exact Int.le_refl _⟩
  | succ e _ ih =>
    obtain ⟨h1, h2⟩ := ih hg
    obtain ⟨h3, h4⟩ := farE_ed h1 e
    exact ⟨h3, by omega⟩
theorem far_is {es : List Edg} {id : Int} : ∀ (n : Nat) (a : Int), hasF (farE es id) a = true → dF (farE es id) a = n → Wn es n a id := by
  intro n
  induction n with
  | zero =>
    intro a ha hd
    rcases (farE_ok es id).1.up a ha with e | ⟨r, h1, h2, h3⟩
    · rw [e]; exact Wn.zero _
    · have := (farE_le es id r h1).1
      omega
  | succ n ih =>
    intro a ha hd
    rcases (farE_ok es id).1.up a ha with e | ⟨r, h1, h2, h3⟩
    · rw [e, (farE_ok es id).1.di] at hd; omega
    · exact Wn.succ (mem_swp.1 h2) (ih r h1 (by omega))
theorem far_nat {es : List Edg} {id a : Int} (ha : hasF (farE es id) a = true) : ∃ n : Nat, dF (farE es id) a = n ∧ Wn es n a id ∧ ∀ m, Wn es m a id → n ≤ m := by
  have h0 := (farE_le es id a ha).1
  obtain ⟨n, hn⟩ := Int.eq_ofNat_of_zero_le h0
  refine ⟨n, hn, far_is n a ha hn, fun m hm => ?_⟩
  have := (far_min hm).2
  omega
/-- Who is in it begins an edge, but for the one itself. -/
theorem far_len (es : List Edg) (id : Int) : (farE es id).length ≤ es.length + 1 ∧ ((∃ b, (id, b) ∈ es) → (farE es id).length ≤ es.length) := by
  obtain ⟨q, hq⟩ := (farE_ok es id).2
  have hs : ∀ a, a ∈ (farE es id).map Prod.fst → a = id ∨ a ∈ es.map (·.1) := fun a ha => by
    rcases (farE_ok es id).1.up a (hasF_mem.2 ha) with e | ⟨r, h1, h2, h3⟩
    · exact Or.inl e
    · exact Or.inr (List.mem_map.2 ⟨_, mem_swp.1 h2, rfl⟩)
  constructor
  · have := nodup_le (m := id :: es.map (·.1)) hq.nd (fun a ha => by
      rcases hs a ha with e | e
      · rw [e]; exact List.mem_cons_self
      · exact List.mem_cons_of_mem _ e)
    simpa using this
  · rintro ⟨b, hb⟩
    have := nodup_le (m := es.map (·.1)) hq.nd (fun a ha => by
      rcases hs a ha with e | e
      · rw [e]; exact List.mem_map.2 ⟨_, hb, rfl⟩
      · exact e)
    simpa using this
theorem far_lt {es : List Edg} {id a : Int} (ha : hasF (farE es id) a = true) : dF (farE es id) a ≤ es.length ∧ ((∃ b, (id, b) ∈ es) → dF (farE es id) a < es.length) := by
  obtain ⟨q, hq⟩ := (farE_ok es id).2
  have h1 := dF_lt2 hq a ha
  obtain ⟨h2, h3⟩ := far_len es id
  exact ⟨by omega, fun h => by have := h3 h; omega⟩
end Go.Proofs.Ytbcemognghkmcaa.Kt
