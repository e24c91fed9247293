/- KnotBreaks, walked. -/
import Derived.Test.YtbcemognghkmcaaKtS
namespace Go.Proofs.Ytbcemognghkmcaa.Kt
open Go.ChangeShapes Go.WideShapes Go.ChangeAt Go.RowKit Go.PlainAid Aid
set_option linter.unusedVariables false
set_option linter.unusedSimpArgs false
theorem info_pair : (Try.prog.info? 30).map (fun i => (i.zero, i.size, i.bytes)) = some (some (.agg #[.int .i64 0, .int .i64 0]), 2, 16) := by kernel_rfl
/-- Without one. -/
def wo (v : Int) (es : List Edg) : List Edg := es.filter fun e => !decide (e.1 = v) && !decide (e.2 = v)
theorem wo_snoc (v : Int) (es : List Edg) (e : Edg) : wo v (es ++ [e]) = if e.1 = v ∨ e.2 = v then wo v es else wo v es ++ [e] := by
  unfold wo
  rw [List.filter_append]
  by_cases h1 : e.1 = v
  · simp [h1]
  · by_cases h2 : e.2 = v
    · simp [h2]
    · simp [h1, h2]
theorem wo_len (v : Int) (es : List Edg) (e : Edg) (he : e ∈ es) (h : e.1 = v) : (wo v es).length < es.length := by
  unfold wo
  refine List.length_filter_lt_length_iff_exists.2 ⟨e, he, ?_⟩
  simp [h]
theorem wo_away (v : Int) (es : List Edg) : rndL (wo v es) v = [] := rnd_away fun e he => by
  have := (List.mem_filter.1 he).2
  intro h
  simp [h] at this
theorem wo_wf {v : Int} {es : List Edg} (h : Wf es) : Wf (wo v es) := fun e he => h e (List.mem_filter.1 he).1
/-- Who is in a round leads. -/
theorem rnd_lead {es : List Edg} {n v : Int} (h : v ∈ rndL es n) : ∃ e, e ∈ es ∧ e.1 = v := by
  rcases rnd_ok es n with e | ⟨L, e, -, h2⟩
  · rw [e] at h; cases h
  · rw [e] at h
    obtain ⟨i, hi, he⟩ := List.mem_iff_getElem.1 h
    exact ⟨_, h2 i v (by rw [List.getElem?_eq_getElem hi, he]), rfl⟩
theorem any_64 {es : List Edg} (hw : Wf es) (h : (anyL es).2 = true) : I64w (anyL es).1 := by
  obtain ⟨e, h1, h2, -⟩ := any_some _ _ h
  rw [show (anyL es).1 = e.1 from h2.symm]
  exact (hw e h1).1
end Go.Proofs.Ytbcemognghkmcaa.Kt
