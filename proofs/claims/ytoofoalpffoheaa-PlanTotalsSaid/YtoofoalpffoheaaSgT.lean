import Derived.Test.YtoofoalpffoheaaSgS
namespace Go.Proofs.Ytoofoalpffoheaa.Sg
open Go.ChangeShapes Go.WideShapes Go.ChangeAt Go.RowKit Go.PlainAid
set_option linter.unusedVariables false

theorem VReads_own {w : World} {base : Nat} {v : Value} {l : List V} (h : w.ownsRow base 53 3 v l.length (cellsV l)) (hv : v = .slice none 0 0 ↔ l = []) :
    ∃ A c, v = .slice A l.length c ∧ VReads w A l := by
  by_cases hl : l = []
  · subst hl
    exact ⟨none, 0, hv.2 rfl, fun h => absurd rfl h⟩
  · obtain ⟨g, c, rfl, hg1, hg2, hg3, hg4⟩ := own_form h (fun e => hl (hv.1 e))
    refine ⟨_, c, rfl, fun _ => ⟨g, 0, rfl, hg2, fun i v hv => ?_⟩⟩
    have hi : i < l.length := (List.getElem?_eq_some_iff.1 hv).1
    have hc : ∀ (l : List V) (i : Nat) (v : V), l[i]? = some v → (cellsV l)[i * 3]? = some (.int .i64 v.1) ∧ (cellsV l)[i * 3 + 1]? = some (.int .i64 v.2.1) ∧ (cellsV l)[i * 3 + 2]? = some (.string v.2.2) := by
      intro l
      induction l with
      | nil => intro i v hv; cases hv
      | cons a l ih =>
        intro i v hv
        cases i with
        | zero => cases hv; exact ⟨rfl, rfl, rfl⟩
        | succ i =>
          have := ih i v hv
          have e : cellsV (a :: l) = [Value.int .i64 a.1, .int .i64 a.2.1, .string a.2.2] ++ cellsV l := rfl
          rw [e]
          refine ⟨?_, ?_, ?_⟩
          · rw [List.getElem?_append_right (by simp; omega)]; simpa [Nat.succ_mul] using this.1
          · rw [List.getElem?_append_right (by simp; omega)]
            rw [show (i + 1) * 3 + 1 - [Value.int .i64 a.1, .int .i64 a.2.1, .string a.2.2].length = i * 3 + 1 from by simp; omega]; exact this.2.1
          · rw [List.getElem?_append_right (by simp; omega)]
            rw [show (i + 1) * 3 + 2 - [Value.int .i64 a.1, .int .i64 a.2.1, .string a.2.2].length = i * 3 + 2 from by simp; omega]; exact this.2.2
    obtain ⟨h1, h2, h3⟩ := hc l i v hv
    refine ⟨?_, ?_, ?_⟩
    · rw [Nat.zero_add, h.cellAt _ (by omega)]; exact h1
    · rw [Nat.zero_add, h.cellAt _ (by omega)]; exact h2
    · rw [Nat.zero_add, h.cellAt _ (by omega)]; exact h3

end Go.Proofs.Ytoofoalpffoheaa.Sg
