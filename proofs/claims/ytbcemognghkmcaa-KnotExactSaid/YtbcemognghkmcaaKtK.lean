/- tied. -/
import Derived.Test.YtbcemognghkmcaaKtJ
namespace Go.Proofs.Ytbcemognghkmcaa.Kt
open Go.ChangeShapes Go.WideShapes Go.ChangeAt Go.RowKit Go.PlainAid Aid
open Go.Shelf
set_option linter.unusedVariables false
set_option linter.unusedSimpArgs false
attribute [local go_sem] Oper.semAt_some
/-! What is left of one's names stays so. -/
theorem lgo_os {l : Int → List Int} {NS : List Int} {N : Nat} (hl : ∀ a b, b ∈ l a → b ∈ NS) (n : Nat) {K : Fe} {S O : List Int} (h : LOk l NS N n K S O) : (∀ a, a ∈ lgo l n K S O → a ∈ NS) ∧ (lgo l n K S O).length ≤ N := by
  induction n generalizing K S O with
  | zero => exact ⟨h.os, by have := h.ol; simp at this; exact this⟩
  | succ n ih =>
    cases S with
    | nil => exact ⟨h.os, by have := h.ol; show O.length ≤ N; omega⟩
    | cons a S =>
      unfold lgo
      by_cases h1 : dF (bump K a) a = 1
      · simp only [if_pos h1]
        exact ih (h.first hl h1)
      · simp only [if_neg h1]
        by_cases h2 : dF (bump K a) a = 2
        · simp only [if_pos h2]
          exact ih h.out
        · simp only [if_neg h2]
          exact ih h.pop
theorem tin_ok {NS : List Int} {id : Int} {tos : List Int} (ht : ∀ b, b ∈ tos → b ∈ NS) {K : Fe} {S : List Int} (h : TOk NS K S) : TOk NS (tin id tos (K, S)).1 (tin id tos (K, S)).2 := by
  induction tos generalizing K S with
  | nil => exact h
  | cons tt tos ih =>
    show TOk NS (tin id tos (tstep id (K, S) tt)).1 (tin id tos (tstep id (K, S) tt)).2
    unfold tstep
    cases hh : hasF K tt with
    | true => exact ih (fun b hb => ht b (List.mem_cons_of_mem _ hb)) h
    | false => exact ih (fun b hb => ht b (List.mem_cons_of_mem _ hb)) (h.push hh (ht _ List.mem_cons_self))
theorem tgo_ok {NS : List Int} {l : Int → List Int} (hl : ∀ a b, b ∈ l a → b ∈ NS) (id : Int) (n : Nat) {K : Fe} {S : List Int} (h : TOk NS K S) : TOk NS (tgo l id n K S) [] := by
  induction n generalizing K S with
  | zero => exact ⟨h.nd, h.ns, fun a ha => by cases ha⟩
  | succ n ih =>
    cases S with
    | nil => exact h
    | cons a S => exact ih (tin_ok (hl a) h.pop)
theorem tie_ok {NS : List Int} {l : Int → List Int} (hl : ∀ a b, b ∈ l a → b ∈ NS) {id : Int} (hid : id ∈ NS) (n : Nat) {K : Fe} (h : TOk NS K []) : TOk NS (tieF l id n K) [] := by
  unfold tieF
  cases hh : hasF K id with
  | true => exact h
  | false =>
    rw [if_neg (by simp)]
    exact tgo_ok hl id n (h.push hh hid)
def nmE (es : List Edg) : List Int := es.map (·.1) ++ es.map (·.2)
def ordE (es : List Edg) : List Int := leftL (toL es) (nmE es) es
def tiesF (es : List Edg) (K : Fe) (ps : List (Int × Int)) : Fe := ps.foldl (fun K p => tieF (toL (es.map swp)) p.2 (nmE es).length K) K
def tiedF (es : List Edg) : Fe := tiesF es [] (bwd (ordE es))
theorem nmE_mem {es : List Edg} {a b : Int} (h : (a, b) ∈ es) : a ∈ nmE es ∧ b ∈ nmE es :=
  ⟨List.mem_append_left _ (List.mem_map.2 ⟨(a, b), h, rfl⟩), List.mem_append_right _ (List.mem_map.2 ⟨(a, b), h, rfl⟩)⟩
theorem nmE_len (es : List Edg) : (nmE es).length = 2 * es.length := by unfold nmE; simp; omega
theorem nmE_64 {es : List Edg} (hw : Wf es) : ∀ a, a ∈ nmE es → I64w a := by
  intro a ha
  rcases List.mem_append.1 ha with ha | ha
  · obtain ⟨e, he, rfl⟩ := List.mem_map.1 ha
    exact (hw e he).1
  · obtain ⟨e, he, rfl⟩ := List.mem_map.1 ha
    exact (hw e he).2
theorem left_ok (l : Int → List Int) (NS : List Int) (es : List Edg) (hl : ∀ a b, b ∈ l a → b ∈ NS) (hes : ∀ e, e ∈ es → e.1 ∈ NS) : LOk l NS (potL l NS [] (es.map (·.1)).reverse) (potL l NS [] (es.map (·.1)).reverse) [] (es.map (·.1)).reverse [] :=
  ⟨Nat.le_refl _, Nat.le_refl _, fun b => ⟨by rw [show dF [] b = 0 from rfl]; simp, by rw [show dF [] b = 0 from rfl]; simp⟩, by simp, by simp, fun a ha => by
    obtain ⟨e, he, rfl⟩ := List.mem_map.1 (List.mem_reverse.1 ha)
    exact hes e he, fun a ha => by cases ha⟩
theorem ordE_ok (es : List Edg) (hn : es.length ≤ 900) : (∀ a, a ∈ ordE es → a ∈ nmE es) ∧ (ordE es).length ≤ 3000000 := by
  have h := lgo_os (l := toL es) (NS := nmE es) (fun a b h => (nmE_mem (mem_toL.1 h)).2) _ (left_ok (toL es) (nmE es) es (fun a b h => (nmE_mem (mem_toL.1 h)).2) (fun e he => (nmE_mem (b := e.2) he).1))
  refine ⟨h.1, Nat.le_trans h.2 ?_⟩
  have h1 := sumN_const (f := wgt (toL es) []) (d := 1001) (nmE es) (fun b => by
    have := toL_len es b
    unfold wgt
    split <;> omega)
  rw [nmE_len] at h1
  unfold potL
  rw [List.length_reverse, List.length_map]
  omega
theorem bwd_mem {l : List Int} {p : Int × Int} (h : p ∈ bwd l) : p.2 ∈ l := by
  unfold bwd at h
  obtain ⟨q, hq, rfl⟩ := List.mem_map.1 (List.mem_reverse.1 h)
  have := List.mem_zipIdx hq
  simp at this
  rw [this.2]
  exact List.getElem_mem _
theorem ties_ok (es : List Edg) (ps : List (Int × Int)) (hps : ∀ p, p ∈ ps → p.2 ∈ nmE es) : TOk (nmE es) (tiesF es [] ps) [] := by
  have gen : ∀ (ps : List (Int × Int)) (K : Fe), (∀ p, p ∈ ps → p.2 ∈ nmE es) → TOk (nmE es) K [] → TOk (nmE es) (tiesF es K ps) [] := by
    intro ps
    induction ps with
    | nil => intro K _ h; exact h
    | cons p ps ih =>
      intro K hp h
      exact ih _ (fun q hq => hp q (List.mem_cons_of_mem _ hq)) (tie_ok (fun a b h => (nmE_mem (mem_swp.1 h)).1) (hp p List.mem_cons_self) _ h)
  exact gen _ _ hps ⟨by simp, fun p hp => (by cases hp), fun a ha => (by cases ha)⟩
theorem ties_snoc (es : List Edg) (K : Fe) (ps : List (Int × Int)) (p : Int × Int) : tiesF es K (ps ++ [p]) = tieF (toL (es.map swp)) p.2 (nmE es).length (tiesF es K ps) := by unfold tiesF; rw [List.foldl_append]; rfl
end Go.Proofs.Ytbcemognghkmcaa.Kt
