/- KnotRounds, walked. -/
import Derived.Test.YtbcemognghkmcaaKtO
namespace Go.Proofs.Ytbcemognghkmcaa.Kt
open Go.ChangeShapes Go.WideShapes Go.ChangeAt Go.RowKit Go.PlainAid Aid
set_option linter.unusedVariables false
set_option linter.unusedSimpArgs false
theorem Prs.at {w : World} {A : Option Addr} {es : List Edg} (h : Prs w A es) (hne : 0 < es.length) : ∃ b o, A = some ⟨b, o, none⟩ ∧ ∀ (k : Nat) (x : Edg), es[k]? = some x → w.cell? ⟨b, o + k * 2, none⟩ = some (.int .i64 x.1) ∧ w.cell? ⟨b, o + k * 2 + 1, none⟩ = some (.int .i64 x.2) := by
  rcases h with rfl | ⟨b, o, hA, hb, hc⟩
  · simp at hne
  · exact ⟨b, o, hA, fun k x hx => hc k x hx⟩
theorem nd_get {l : List Int} (h : l.Nodup) {i j : Nat} {a : Int} (hi : l[i]? = some a) (hj : l[j]? = some a) : i = j := by
  induction l generalizing i j with
  | nil => simp at hi
  | cons b l ih =>
    obtain ⟨h1, h2⟩ := List.nodup_cons.1 h
    cases i with
    | zero =>
      cases j with
      | zero => rfl
      | succ j =>
        have e1 : b = a := by simpa using hi
        exact absurd (List.mem_of_getElem? (show l[j]? = some a from hj)) (e1 ▸ h1)
    | succ i =>
      cases j with
      | zero =>
        have e1 : b = a := by simpa using hj
        exact absurd (List.mem_of_getElem? (show l[i]? = some a from hi)) (e1 ▸ h1)
      | succ j => rw [ih h2 hi hj]
end Go.Proofs.Ytbcemognghkmcaa.Kt
