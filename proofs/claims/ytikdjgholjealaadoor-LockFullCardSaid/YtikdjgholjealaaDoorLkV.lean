/- Whether anybody has, or waits for, something of a name. -/
import Derived.Test.YtikdjgholjealaaDoorLkJ
namespace Go.Proofs.YtikdjgholjealaaDoor.Lk
open Go.ChangeShapes Go.WideShapes Go.ChangeAt Go.RowKit Go.PlainAid Aid Md
set_option linter.unusedVariables false
set_option linter.unusedSimpArgs false
section
variable {bb h l wt : Nat} {H : List Hol} {L : List Lin} {W : List Wan}
set_option maxRecDepth 100000 in
set_option maxHeartbeats 2000000 in
theorem Used_any (name : By) (w : World) (k : Bk w bb h l wt H L W) (hn : name.length ≤ 1000) :
    Calls Tryd.prog 12 #[bPtr bb, .string (ofL name)] w fun e w' => e = .returned (.bool (decide (0 < (holE H name).length) || decide (0 < (ids L name).length))) ∧ w' = w := by
  have e1 := k.look_h name hn
  have e2 := k.look_l name hn
  have hv := k.line name
  have c0 : w.cell? ⟨bb, 0, none⟩ = some (.map (some h)) := k.blk.cell 0
  have c1 : w.cell? ⟨bb, 1, none⟩ = some (.map (some l)) := k.blk.cell 1
  obtain ⟨A, c, hvs⟩ := hv.slice
  rw [hvs] at e2
  clear hv
  unfold bPtr
  cases hx : holL H name with
  | none =>
    have h1 : hV H name = .map none := by unfold hV; rw [hx]
    have h2 : holE H name = [] := by unfold holE; rw [hx]
    rw [h1] at e1
    rw [h2]
    clear k
    by_cases hz : 0 < (ids L name).length
    · have hb : (0 : Int) < ((ids L name).length : Int) := by omega
      go_enter Tryd.func12, Tryd.ntmps12
      go_wp2_with fail
      go_returns
      exact ⟨by simp [hz], rfl⟩
    · have hb : ¬ (0 : Int) < ((ids L name).length : Int) := by omega
      go_enter Tryd.func12, Tryd.ntmps12
      go_wp2_with fail
      go_returns
      exact ⟨by simp [hz], rfl⟩
  | some x =>
    have h1 : hV H name = .map (some x.2.1) := by unfold hV; rw [hx]
    have h2 : holE H name = x.2.2 := by unfold holE; rw [hx]
    rw [h1] at e1
    rw [h2]
    have hlen := fun ty => (k.hi x (List.mem_of_find?_eq_some hx)).len (t := 52) Tryd.underlying52 ty
    rw [show (iE x.2.2).length = x.2.2.length from List.length_map _] at hlen
    clear k
    by_cases hy : 0 < x.2.2.length
    · have hb : (0 : Int) < (x.2.2.length : Int) := by omega
      go_enter Tryd.func12, Tryd.ntmps12
      go_wp2_with (at_builtin; refine list_known rfl .len Builtin.len_ (fun _ _ _ _ => rfl) _ #[52] rfl #[.map (some x.2.1)] (by simp [Act.eval, Act.put]) (hlen _) ?_)
      go_returns
      exact ⟨by simp [hy], rfl⟩
    · have hb : ¬ (0 : Int) < (x.2.2.length : Int) := by omega
      by_cases hz : 0 < (ids L name).length
      · have hb2 : (0 : Int) < ((ids L name).length : Int) := by omega
        go_enter Tryd.func12, Tryd.ntmps12
        go_wp2_with (at_builtin; refine list_known rfl .len Builtin.len_ (fun _ _ _ _ => rfl) _ #[52] rfl #[.map (some x.2.1)] (by simp [Act.eval, Act.put]) (hlen _) ?_)
        go_returns
        exact ⟨by simp [hz], rfl⟩
      · have hb2 : ¬ (0 : Int) < ((ids L name).length : Int) := by omega
        go_enter Tryd.func12, Tryd.ntmps12
        go_wp2_with (at_builtin; refine list_known rfl .len Builtin.len_ (fun _ _ _ _ => rfl) _ #[52] rfl #[.map (some x.2.1)] (by simp [Act.eval, Act.put]) (hlen _) ?_)
        go_returns
        exact ⟨by simp [hz, hy], rfl⟩
end
end Go.Proofs.YtikdjgholjealaaDoor.Lk
