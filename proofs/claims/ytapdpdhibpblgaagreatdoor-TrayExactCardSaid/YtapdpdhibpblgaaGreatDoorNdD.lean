/- The document's reading of a node. -/
import Derived.Test.YtapdpdhibpblgaaGreatDoorNdY
import Derived.Test.YtapdpdhibpblgaaGreatDoorTrZ
import Derived.Test.YtapdpdhibpblgaaGreatDoorNtB
import Derived.Deep.CutBlock
namespace Go.Proofs.YtapdpdhibpblgaaGreatDoor.Nd
open Go.ChangeShapes Go.WideShapes Go.ChangeAt Go.RowKit Go.PlainAid Aid Cr Nt
set_option linter.unusedVariables false
set_option linter.unusedSimpArgs false
def dV (o : Option Nod) (v : Value) : Value := match o with
  | none => .tuple #[v, .bool false]
  | some _ => .tuple #[v, .bool true]
theorem zero_cells {w : World} {g : Nat} {T : TypeId} (h : Blk w g T zero7) : True := trivial
set_option maxRecDepth 100000 in
set_option maxHeartbeats 8000000 in
theorem refRead_shut (s : By) (w : World) (hs : s.length ≤ 140737488355328) (hq : (sealedL s && decide (s.length = 256)) = false) :
    Calls Tryz.prog 52 #[.string (ofL s)] w fun e w' => ∃ v, e = .returned (dV none (.agg (nodCells (rN none) v))) ∧ Own w No w' (aEnts (rN none) v) := by
  have S := Lib.hid ((Own.none w).alloc zero7 31)
  have HO := Lib.hid (fun w' => refOpen_any (ofL s) w' hs)
  have hop : openV (ofL s) = if sealedL s then .tuple #[.string (ofL (s.take (s.length - 4))), .bool true] else .tuple #[.string ⟨#[]⟩, .bool false] := by
    unfold openV; rw [sealed_ofL, body_ofL]
  rw [hop] at HO
  have hlen : sealedL s = true → ¬ ((ofL (s.take (s.length - 4))).size : Int) = 252 := fun h => by
    rw [h, Bool.true_and] at hq
    have h2 := of_decide_eq_false hq
    rw [ofL_sz, List.length_take]
    have h4 : 4 ≤ s.length := by
      unfold sealedL at h
      simp only [Bool.and_eq_true, decide_eq_true_eq] at h
      exact h.1
    omega
  clear hop hq hs
  unfold zero7 at *
  generalize ofL (s.take (s.length - 4)) = y at *
  generalize ofL s = x at *
  go_enter Tryz.func52, Tryz.ntmps52
  go_wp2_with fail
  obtain ⟨g2, hgz⟩ : ∃ g, g = w.heap.size := ⟨_, rfl⟩
  rw [← hgz] at S ⊢
  clear hgz
  generalize w.alloc _ = w1 at *
  refine (HO.out _).mono ?_
  rintro e w2 ⟨rfl, hX⟩
  have S1 := Lib.hid (S.out.below hX)
  clear hX S HO
  obtain ⟨⟨d0, d1, d2, d3, d4, d5, d6⟩, f0, f1, f2, f3, f4, f5, f6⟩ := seven (S1.out.has (Has.l (has_blk _ _ _)))
  cases hsl : sealedL s with
  | false =>
    rw [if_neg (by decide)]
    clear hsl hlen
    go_wp2_with fail
    have T1 := Lib.hid (own_seven S1.out (.int .i64 0) (.int .i64 0) (.int .i64 0) (.bool false) (.string ⟨#[]⟩) (.int .i64 0) (.slice none 0 0))
    clear S1 d0 d1 d2 d3 d4 d5 d6 f0 f1 f2 f3 f4 f5 f6
    generalize World.setCell (World.setCell (World.setCell (World.setCell (World.setCell (World.setCell (World.setCell w2 _ _) _ _) _ _) _ _) _ _) _ _) _ _ = w6 at *
    obtain ⟨⟨c0, c1, c2, c3, c4, c5, c6⟩, -⟩ := seven (T1.out.has (Has.l (has_blk _ _ _)))
    have TN : Hid (Own w No w6 (aEnts Nod.none (.slice none 0 0))) := Lib.hid (none_ents T1.out).left
    exact bodyPost_ret (v := .tuple #[.agg #[.int .i64 0, .int .i64 0, .int .i64 0, .bool false, .string ⟨#[]⟩, .int .i64 0, .slice none 0 0], .bool false]) (by simp [results, Tryz.results52, go_sem, c0, c1, c2, c3, c4, c5, c6]) rfl ⟨.slice none 0 0, rfl, TN.out⟩
  | true =>
    rw [if_pos rfl]
    have hl := hlen hsl
    clear hsl hlen
    go_wp2_with fail
    have T1 := Lib.hid (own_seven S1.out (.int .i64 0) (.int .i64 0) (.int .i64 0) (.bool false) (.string ⟨#[]⟩) (.int .i64 0) (.slice none 0 0))
    clear S1 d0 d1 d2 d3 d4 d5 d6 f0 f1 f2 f3 f4 f5 f6
    generalize World.setCell (World.setCell (World.setCell (World.setCell (World.setCell (World.setCell (World.setCell w2 _ _) _ _) _ _) _ _) _ _) _ _) _ _ = w6 at *
    obtain ⟨⟨c0, c1, c2, c3, c4, c5, c6⟩, -⟩ := seven (T1.out.has (Has.l (has_blk _ _ _)))
    have TN : Hid (Own w No w6 (aEnts Nod.none (.slice none 0 0))) := Lib.hid (none_ents T1.out).left
    exact bodyPost_ret (v := .tuple #[.agg #[.int .i64 0, .int .i64 0, .int .i64 0, .bool false, .string ⟨#[]⟩, .int .i64 0, .slice none 0 0], .bool false]) (by simp [results, Tryz.results52, go_sem, c0, c1, c2, c3, c4, c5, c6]) rfl ⟨.slice none 0 0, rfl, TN.out⟩
end Go.Proofs.YtapdpdhibpblgaaGreatDoor.Nd
