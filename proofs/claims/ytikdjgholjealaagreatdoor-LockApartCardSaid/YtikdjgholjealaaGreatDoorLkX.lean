/- Having, and leaving a line, in all cases. -/
import Derived.Test.YtikdjgholjealaaGreatDoorLkG
namespace Go.Proofs.YtikdjgholjealaaGreatDoor.Lk
open Go.ChangeShapes Go.WideShapes Go.ChangeAt Go.RowKit Go.PlainAid Aid Md
set_option linter.unusedVariables false
set_option linter.unusedSimpArgs false
/-- The lines behind one's leaving. -/
def lvB (L : List Lin) (id : Int) (name : By) (v : Value) : List Lin := if (ids L name).length = 1 then offL L name else (name, v, lvL (ids L name) id) :: offL L name
section
variable {bb h l wt : Nat} {H : List Hol} {L : List Lin} {W : List Wan}
theorem hold_any (id mode : Int) (name : By) (w0 w : World) (C : Asn) (hS : Aid.Own w0 No w (aBk bb h l wt H L W * C)) (hi : I64w id) (hn : name.length ≤ 1000) (hl : ∀ x, x ∈ H → x.2.2.length ≤ 100000) (hH : H.length ≤ 100000) :
    Calls Tryz.prog 24 #[bPtr bb, .int .i64 id, .agg #[.string (ofL name), .int .i64 mode]] w fun e w' => e = .returned (.tuple #[]) ∧ ∃ nb, Aid.Own w0 No w' (aBk bb h l wt (setH H id name mode nb) L W * C) := by
  cases hx : holL H name with
  | none =>
    refine (hold_none id mode name w0 w C hS hi hn hx hH).mono ?_
    rintro e w' ⟨rfl, nb, h1⟩
    refine ⟨rfl, nb, ?_⟩
    unfold setH; rw [hx]
    exact h1
  | some x =>
    refine (hold_some x id mode name w0 w C hS hi hn hx (hl x (List.mem_of_find?_eq_some hx))).mono ?_
    rintro e w' ⟨rfl, h1⟩
    refine ⟨rfl, 0, ?_⟩
    unfold setH; rw [hx]
    exact h1
theorem leave_any (y : Wan) (id : Int) (w0 w : World) (C : Asn) (hS : Aid.Own w0 No w (aBk bb h l wt H L W * C)) (hi : I64w id) (hw : wanL W id = some y) (hn : y.2.1.length ≤ 1000) (hl : (ids L y.2.1).length ≤ 100000) (hL : L.length ≤ 100000) (hm : id ∈ ids L y.2.1) :
    Calls Tryz.prog 30 #[bPtr bb, .int .i64 id] w fun e w' => e = .returned (.tuple #[]) ∧ ∃ v, Aid.Own w0 No w' (aBk bb h l wt H (lvB L id y.2.1 v) (offW W id) * C) := by
  cases hx : linL L y.2.1 with
  | none => rw [show ids L y.2.1 = [] by unfold ids; rw [hx]] at hm; cases hm
  | some x =>
    have h2 : ids L y.2.1 = x.2.2 := by unfold ids; rw [hx]
    rw [h2] at hl hm
    by_cases h1 : x.2.2.length = 1
    · refine (leave_one x y id w0 w C hS hi hw hn hx h1).mono ?_
      rintro e w' ⟨rfl, h3⟩
      refine ⟨rfl, .int .i64 0, ?_⟩
      unfold lvB; rw [h2, if_pos h1]
      exact h3
    · refine (leave_more x y id w0 w C hS hi hw hn hx h1 hl hL hm).mono ?_
      rintro e w' ⟨rfl, v, h3⟩
      refine ⟨rfl, v, ?_⟩
      unfold lvB; rw [h2, if_neg h1]
      exact h3
end
end Go.Proofs.YtikdjgholjealaaGreatDoor.Lk
