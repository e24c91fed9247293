/- What DiaryKeeps looks at. -/
import Derived.Test.YtciamgggblajoaaDoorDyN
namespace Go.Proofs.YtciamgggblajoaaDoor.Nt
open Go.ChangeShapes Go.WideShapes Go.ChangeAt Go.RowKit Go.PlainAid Aid Cr
set_option linter.unusedVariables false
set_option linter.unusedSimpArgs false
theorem told_len (n : Nat) (M : List (Rec × Q3)) : (told n M).length = M.length * 12 := by
  induction M generalizing n with
  | nil => rfl
  | cons x t ih =>
    obtain ⟨r, q⟩ := x
    have : (recCells r q.1 q.2.1 q.2.2).toList.length = 11 := rfl
    simp only [told, List.length_cons, List.length_append, this, ih]; omega
theorem told_at (n : Nat) (M : List (Rec × Q3)) (i : Nat) (r : Rec) (q : Q3) (h : M[i]? = some (r, q)) (j : Nat) (v : Value) (hj : (recCells r q.1 q.2.1 q.2.2)[j]? = some v) : (told n M)[i * 12 + (j + 1)]? = some v := by
  have hj11 : j < 11 := (Array.getElem?_eq_some_iff.1 hj).1
  induction M generalizing n i with
  | nil => cases h
  | cons x t ih =>
    obtain ⟨a, b⟩ := x
    have hl : (recCells a b.1 b.2.1 b.2.2).toList.length = 11 := rfl
    cases i with
    | zero =>
      simp only [List.getElem?_cons_zero, Option.some.injEq, Prod.mk.injEq] at h
      obtain ⟨rfl, rfl⟩ := h
      rw [Nat.zero_mul, Nat.zero_add]
      simp only [told, List.getElem?_cons_succ]
      rw [List.getElem?_append_left (by rw [hl]; exact hj11), Array.getElem?_toList]
      exact hj
    | succ i =>
      simp only [List.getElem?_cons_succ] at h
      have h2 := ih (n + (bytes a).length) i h
      rw [show (i + 1) * 12 + (j + 1) = (11 + (i * 12 + (j + 1))) + 1 by omega]
      simp only [told, List.getElem?_cons_succ]
      rw [List.getElem?_append_right (by rw [hl]; omega), hl, show 11 + (i * 12 + (j + 1)) - 11 = i * 12 + (j + 1) by omega]
      exact h2
theorem recs_at {w0 w : World} {O0 : Nat → Prop} (M : List (Rec × Q3)) (i : Nat) (r : Rec) (q : Q3) (h : M[i]? = some (r, q)) (hO : Own w0 O0 w (aRecs M)) : Own w0 O0 w (aLists r q) := by
  induction M generalizing i with
  | nil => cases h
  | cons x t ih =>
    obtain ⟨a, b⟩ := x
    cases i with
    | zero =>
      simp only [List.getElem?_cons_zero, Option.some.injEq, Prod.mk.injEq] at h
      obtain ⟨rfl, rfl⟩ := h
      exact hO.left
    | succ i => exact ih i (by simpa using h) hO.right
theorem flat_small (M : List Rec) (h : ∀ r, r ∈ M → goodB r = true) : (flat M).length ≤ 4271 * M.length := by
  induction M with
  | nil => exact Nat.zero_le _
  | cons x t ih =>
    have h1 := (small_bytes (h x List.mem_cons_self)).1
    have h2 := ih (fun r hr => h r (List.mem_cons_of_mem _ hr))
    rw [flat_cons, List.length_append, List.length_cons]
    omega
/-- The record of a row of those that were told, in memory. -/
theorem told_cells {w0 w : World} {O0 : Nat → Prop} {b c : Nat} {L : List Rec} {M : List (Rec × Q3)} {C : Asn} (hM : recsOf M = L) (hO : Own w0 O0 w (Asn.vec 73 12 (.slice (some ⟨b, 0, none⟩) L.length c) L.length (told 0 M) * (aRecs M * C))) (i : Nat) (r : Rec) (hr : L[i]? = some r) :
    ∃ A1 m1 A2 m2 A3 m3, RecAt w (.agg (recCells r (.slice A1 r.pages.length m1) (.slice A2 r.opn.length m2) (.slice A3 r.dty.length m3))) r ∧
      (w.cell? ⟨b, i * 12 + 1, none⟩ = some (.int .i64 r.kind) ∧ w.cell? ⟨b, i * 12 + 2, none⟩ = some (.int .i64 r.deal) ∧ w.cell? ⟨b, i * 12 + 3, none⟩ = some (.int .i64 r.prev) ∧ w.cell? ⟨b, i * 12 + 4, none⟩ = some (.int .i64 r.next) ∧ w.cell? ⟨b, i * 12 + 5, none⟩ = some (.slice A1 r.pages.length m1) ∧
      w.cell? ⟨b, i * 12 + 6, none⟩ = some (.int .i64 r.und.kind) ∧ w.cell? ⟨b, i * 12 + 7, none⟩ = some (.int .i64 r.und.tree) ∧ w.cell? ⟨b, i * 12 + 8, none⟩ = some (.string (ofL r.und.key)) ∧ w.cell? ⟨b, i * 12 + 9, none⟩ = some (.string (ofL r.und.val)) ∧ w.cell? ⟨b, i * 12 + 10, none⟩ = some (.slice A2 r.opn.length m2) ∧ w.cell? ⟨b, i * 12 + 11, none⟩ = some (.slice A3 r.dty.length m3)) := by
  have hi : i < M.length := by have := (List.getElem?_eq_some_iff.1 hr).1; rw [← hM] at this; simpa [recsOf] using this
  obtain ⟨⟨r', q1, q2, q3⟩, hq⟩ : ∃ x, M[i]? = some x := ⟨_, List.getElem?_eq_getElem hi⟩
  have : r' = r := by
    have h1 : (recsOf M)[i]? = some r' := by simp [recsOf, hq]
    rw [hM, hr] at h1
    exact (Option.some.inj h1).symm
  subst this
  have hl := recs_at M i r' _ hq hO.right.left
  obtain ⟨A1, m1, rfl⟩ := hl.vec.slice
  obtain ⟨A2, m2, rfl⟩ := hl.right.vec.slice
  obtain ⟨A3, m3, rfl⟩ := hl.right.vecR.slice
  have hv := hO.vec
  have hc : ∀ j v, (recCells r' (.slice A1 r'.pages.length m1) (.slice A2 r'.opn.length m2) (.slice A3 r'.dty.length m3))[j]? = some v → w.cell? ⟨b, i * 12 + (j + 1), none⟩ = some v := fun j v hj => hv.cell (told_at 0 M i r' _ hq j v hj)
  exact ⟨A1, m1, A2, m2, A3, m3, lists_at hl, hc 0 _ rfl, hc 1 _ rfl, hc 2 _ rfl, hc 3 _ rfl, hc 4 _ rfl, hc 5 _ rfl, hc 6 _ rfl, hc 7 _ rfl, hc 8 _ rfl, hc 9 _ rfl, hc 10 _ rfl⟩
end Go.Proofs.YtciamgggblajoaaDoor.Nt
