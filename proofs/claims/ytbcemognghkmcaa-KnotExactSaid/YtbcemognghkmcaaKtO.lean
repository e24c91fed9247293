/- A round is one: plain. -/
import Derived.Test.YtbcemognghkmcaaKtN
namespace Go.Proofs.Ytbcemognghkmcaa.Kt
open Go.ChangeShapes Go.WideShapes Go.ChangeAt Go.RowKit Go.PlainAid Aid
set_option linter.unusedVariables false
set_option linter.unusedSimpArgs false
/-- Each waits for the next one, the last one for a given one. -/
def ch (es : List Edg) (id : Int) : Int → List Int → Prop
  | y, [] => (y, id) ∈ es
  | y, a :: L => (y, a) ∈ es ∧ ch es id a L
theorem rgo_ch (es : List Edg) (id : Int) (n : Nat) {x y : Int} (hx : hasF (farE es id) x = true) (hd : dF (farE es id) x ≤ (n : Int)) (hy : (y, x) ∈ es) : ch es id y (rgo (toL es) (farE es id) id n x) := by
  induction n generalizing x y with
  | zero =>
    by_cases h : x = id
    · subst h; exact hy
    · have h1 := farE_next es id x hx h
      have := (farE_le es id _ h1.2.2.1).1
      omega
  | succ n ih =>
    unfold rgo
    by_cases h : x = id
    · rw [if_pos h]; subst h; exact hy
    · rw [if_neg h]
      have h1 := farE_next es id x hx h
      exact ⟨hy, ih h1.2.2.1 (by omega) (mem_toL.1 h1.2.1)⟩
theorem rgo_nd (es : List Edg) (id : Int) (n : Nat) {x : Int} (hx : hasF (farE es id) x = true) : (rgo (toL es) (farE es id) id n x).Nodup ∧ ∀ a, a ∈ rgo (toL es) (farE es id) id n x → a ≠ id ∧ dF (farE es id) a ≤ dF (farE es id) x := by
  induction n generalizing x with
  | zero => exact ⟨List.nodup_nil, fun a ha => by cases ha⟩
  | succ n ih =>
    unfold rgo
    by_cases h : x = id
    · rw [if_pos h]; exact ⟨List.nodup_nil, fun a ha => by cases ha⟩
    · rw [if_neg h]
      have h1 := farE_next es id x hx h
      obtain ⟨h2, h3⟩ := ih h1.2.2.1
      refine ⟨List.nodup_cons.2 ⟨fun hm => ?_, h2⟩, fun a ha => ?_⟩
      · have := (h3 x hm).2; omega
      · rcases List.mem_cons.1 ha with rfl | ha
        · exact ⟨h, Int.le_refl _⟩
        · exact ⟨(h3 a ha).1, by have := (h3 a ha).2; omega⟩
theorem ch_at {es : List Edg} {id : Int} : ∀ {y : Int} {L : List Int}, ch es id y L → ∀ (i : Nat) (a : Int), (y :: L)[i]? = some a → (a, ((y :: L)[i + 1]?).getD id) ∈ es
  | y, [], h, 0, a, ha => by cases ha; exact h
  | y, [], h, i + 1, a, ha => by cases ha
  | y, b :: L, h, 0, a, ha => by cases ha; exact h.1
  | y, b :: L, h, i + 1, a, ha => ch_at h.2 i a ha
theorem rnd_some {es : List Edg} {id : Int} (h : (nearL (farE es id) (toL es id)).2 = true) : rndL es id = id :: rgo (toL es) (farE es id) id (nsE id es).length (nearL (farE es id) (toL es id)).1 := by
  unfold rndL rndF; rw [if_pos h]
theorem rnd_none {es : List Edg} {id : Int} (h : (nearL (farE es id) (toL es id)).2 = false) : rndL es id = [] := by
  unfold rndL rndF; rw [if_neg (by simp [h])]
/-- A round begins with the one, each is in it once, each waits for the next one. -/
theorem rnd_ok (es : List Edg) (id : Int) : rndL es id = [] ∨ (∃ L, rndL es id = id :: L ∧ (id :: L).Nodup ∧ ∀ (i : Nat) (a : Int), (id :: L)[i]? = some a → (a, ((id :: L)[i + 1]?).getD id) ∈ es) := by
  cases h : (nearL (farE es id) (toL es id)).2 with
  | false => exact Or.inl (rnd_none h)
  | true =>
    refine Or.inr ⟨_, rnd_some h, ?_, ?_⟩
    · rcases nearL_mem (farE es id) (toL es id) with e | ⟨-, -, h2⟩
      · rw [e] at h; cases h
      · obtain ⟨h3, h4⟩ := rgo_nd es id (nsE id es).length h2
        exact List.nodup_cons.2 ⟨fun hm => (h4 id hm).1 rfl, h3⟩
    · rcases nearL_mem (farE es id) (toL es id) with e | ⟨-, h1, h2⟩
      · rw [e] at h; cases h
      · exact ch_at (rgo_ch es id _ h2 (by have := (farE_le es id _ h2).2; omega) (mem_toL.1 h1))
theorem rnd_len (es : List Edg) (id : Int) : (rndL es id).length ≤ 2 * es.length + 2 := by
  have hg : ∀ (G : Int → List Int) (F : Fe) (n : Nat) (x : Int), (rgo G F id n x).length ≤ n := by
    intro G F n
    induction n with
    | zero => intro x; exact Nat.le_refl _
    | succ n ih =>
      intro x
      unfold rgo
      split
      · exact Nat.zero_le _
      · rw [List.length_cons]
        have := ih (nearL F (G x)).1
        omega
  cases h : (nearL (farE es id) (toL es id)).2 with
  | false => rw [rnd_none h]; exact Nat.zero_le _
  | true =>
    rw [rnd_some h, List.length_cons]
    have := hg (toL es) (farE es id) (nsE id es).length (nearL (farE es id) (toL es id)).1
    rw [nsE_len] at this
    rw [nsE_len]
    omega
theorem rnd_64 {es : List Edg} {id : Int} (hid : I64w id) (hw : Wf es) : ∀ a, a ∈ rndL es id → I64w a := by
  intro a ha
  rcases rnd_ok es id with e | ⟨L, e, -, h⟩
  · rw [e] at ha; cases ha
  · rw [e] at ha
    obtain ⟨i, hi, he⟩ := List.mem_iff_getElem.1 ha
    exact (hw _ (h i a (by rw [List.getElem?_eq_getElem hi, he]))).1
/-- Whether two are an edge. -/
def hitB (es : List Edg) (a b : Int) : Bool := es.any fun e => decide (e.1 = a) && decide (e.2 = b)
theorem hitB_snoc (es : List Edg) (e : Edg) (a b : Int) : hitB (es ++ [e]) a b = (hitB es a b || (decide (e.1 = a) && decide (e.2 = b))) := by
  unfold hitB; rw [List.any_append]; simp
theorem hitB_mem {es : List Edg} {a b : Int} (h : (a, b) ∈ es) : hitB es a b = true := by
  unfold hitB; rw [List.any_eq_true]; exact ⟨(a, b), h, by simp⟩
end Go.Proofs.Ytbcemognghkmcaa.Kt
