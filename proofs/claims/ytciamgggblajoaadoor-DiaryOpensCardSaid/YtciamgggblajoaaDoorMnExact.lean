import Derived.Test.YtciamgggblajoaaDoorMnC
namespace Go.Proofs.YtciamgggblajoaaDoor.Mn
open Go.ChangeShapes Go.WideShapes Go.ChangeAt Go.RowKit Go.PlainAid Aid
set_option linter.unusedVariables false
set_option linter.unusedSimpArgs false

/-- The program's power and the document's are alike: a fuse below 0 is none. -/
def Sim (p q : Pw) : Prop := p.on = q.on ∧ p.boots = q.boots ∧ (p.fuse = q.fuse ∨ (p.fuse < 0 ∧ q.fuse < 0))
theorem sim_use {p q : Pw} (h : Sim p q) : Sim p.use q.use ∧ p.ans = q.ans := by
  obtain ⟨o, f, b⟩ := p
  obtain ⟨o', f', b'⟩ := q
  obtain ⟨h1, h2, h3⟩ := h
  simp only at h1 h2 h3
  subst h1; subst h2
  rcases h3 with rfl | ⟨h3, h4⟩
  · exact ⟨⟨rfl, rfl, Or.inl rfl⟩, rfl⟩
  · have a1 : ¬ f = 0 := by omega
    have a2 : ¬ f' = 0 := by omega
    have a3 : ¬ 0 < f := by omega
    have a4 : ¬ 0 < f' := by omega
    cases o <;> simp [Pw.use, Pw.ans, a1, a2, a3, a4, Sim, h3, h4]
theorem sim_lay {p q : Pw} (h : Sim p q) (n : Int) : Sim (p.lay n) (q.lay (if n < 0 then -1 else n)) := by
  refine ⟨h.1, h.2.1, ?_⟩
  show n = (if n < 0 then -1 else n) ∨ (n < 0 ∧ (if n < 0 then -1 else n) < 0)
  by_cases hn : n < 0
  · rw [if_pos hn]; omega
  · rw [if_neg hn]; exact Or.inl rfl
theorem sim_off {p q : Pw} (h : Sim p q) : Sim p.off q.off := ⟨rfl, h.2.1, h.2.2⟩
theorem sim_come {p q : Pw} (h : Sim p q) : Sim p.come q.come := by
  obtain ⟨o, f, b⟩ := p
  obtain ⟨o', f', b'⟩ := q
  obtain ⟨h1, h2, h3⟩ := h
  simp only at h1 h2 h3
  subst h1; subst h2
  cases o
  · exact ⟨rfl, rfl, Or.inl rfl⟩
  · exact ⟨rfl, rfl, h3⟩

end Go.Proofs.YtciamgggblajoaaDoor.Mn
