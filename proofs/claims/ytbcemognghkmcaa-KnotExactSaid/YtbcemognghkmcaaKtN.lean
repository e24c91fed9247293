/- The document's example (awake). -/
import Derived.Test.YtbcemognghkmcaaKtM
import Derived.Test.YtbcemognghkmcaaInts
namespace Go.Proofs.Ytbcemognghkmcaa.Kt
open Go.ChangeShapes Go.WideShapes Go.ChangeAt Go.RowKit Go.PlainAid Aid
set_option linter.unusedVariables false
set_option linter.unusedSimpArgs false
def exE : List Edg := [(1, 2), (2, 3), (3, 1), (2, 1)]
theorem ex1 : rndL exE 1 = [1, 2] := by decide +kernel
theorem ex3 : rndL exE 3 = [3, 1, 2] := by decide +kernel
theorem exA : anyL exE = (1, true) := by decide +kernel
theorem exB : (anyL (exE.take 2)).2 = false := by decide +kernel
theorem exV : maxL [3, 1, 2] = 3 := by decide +kernel
theorem ex_64 : Wf exE := by
  intro e he
  simp [exE] at he
  rcases he with rfl | rfl | rfl | rfl <;> exact ⟨by unfold I64w; decide, by unfold I64w; decide⟩
theorem Prs.take {w : World} {A : Option Addr} {es : List Edg} (h : Prs w A es) (k : Nat) : Prs w A (es.take k) := by
  rcases h with rfl | ⟨b, o, hA, hb, hc⟩
  · exact Or.inl (by simp)
  · refine Or.inr ⟨b, o, hA, hb, fun j x hj => hc j x ?_⟩
    rw [List.getElem?_take] at hj
    split at hj
    · exact hj
    · cases hj
theorem w64_1 : I64w 1 := by unfold I64w; decide
theorem w64_3 : I64w 3 := by unfold I64w; decide
theorem at_row {w : World} {g : Nat} {T : TypeId} {l : List Int} (h : Blk w g T (numsK l).toArray) : IntsAt w (some ⟨g, 0, none⟩) l := by
  refine Or.inr ⟨g, 0, rfl, h.lt, fun j x hj => ?_⟩
  rw [Nat.zero_add, h.cell]
  unfold numsK
  simp [hj]
theorem cells_agg2 (a b : Value) : (Value.agg #[a, b]).cells = #[a, b] := rfl
set_option maxRecDepth 100000 in
set_option maxHeartbeats 16000000 in
theorem awake_any (w : World) :
    Calls Try.prog 4 #[] w fun e w' => e = .returned (.bool true) ∧ Below w.heap.size w w' := by
  have S0 := Lib.hid ((Aid.Own.none w).alloc #[.int .i64 1, .int .i64 2, .int .i64 2, .int .i64 3, .int .i64 3, .int .i64 1, .int .i64 2, .int .i64 1] 30)
  have hp0 : Prs (w.alloc (.cells #[.int .i64 1, .int .i64 2, .int .i64 2, .int .i64 3, .int .i64 3, .int .i64 1, .int .i64 2, .int .i64 1] 30)) (some ⟨w.heap.size, 0, none⟩) exE :=
    Prs.of_vec (c := 4) (T := 30) ((S0.out.imp (Imp.l (blk_vec (cs := [.int .i64 1, .int .i64 2, .int .i64 2, .int .i64 3, .int .i64 3, .int .i64 1, .int .i64 2, .int .i64 1]) 4 2 rfl (by decide)))).vec)
  have HP0 := Lib.hid hp0
  clear hp0
  go_enter Try.func4, Try.ntmps4
  go_wp2_with fail
  refine (edges_any (some ⟨w.heap.size, 0, none⟩) 4 exE _ HP0.out (by decide)).mono ?_
  rintro e w2 ⟨v, rfl, hX⟩
  have hB1 : Below w.heap.size w (w.alloc (.cells #[.int .i64 1, .int .i64 2, .int .i64 2, .int .i64 3, .int .i64 3, .int .i64 1, .int .i64 2, .int .i64 1] 30)) := (Below.refl _ w).alloc (Nat.le_refl _) _
  obtain ⟨w1, hw1⟩ : ∃ w1, w1 = w.alloc (.cells #[.int .i64 1, .int .i64 2, .int .i64 2, .int .i64 3, .int .i64 3, .int .i64 1, .int .i64 2, .int .i64 1] 30) := ⟨_, rfl⟩
  rw [← hw1] at hX hB1
  have HX := Lib.hid hX
  have HB1 := Lib.hid hB1
  clear hX hB1 hw1 S0 HP0
  obtain ⟨A, c, he⟩ := HX.out.vec.slice
  subst he
  have HP : Hid (∀ W X, Aid.Own w1 No W (X * (Asn.vec 36 2 (.slice A exE.length c) exE.length (cellsE exE) * Asn.emp)) → Prs W A exE) := Lib.hid (fun W X h => Prs.of_vec h.right.vec)
  obtain ⟨CC, hCC⟩ : ∃ CC, CC = Asn.vec 36 2 (.slice A exE.length c) exE.length (cellsE exE) * Asn.emp := ⟨_, rfl⟩
  rw [← hCC] at HX HP
  rcases HX.out.re (show _ = Asn.vec 36 2 (.slice A exE.length c) exE.length (cellsE exE) * Asn.emp from hCC) |>.vec.forms with ⟨-, hz⟩ | ⟨ga, ca, hea, -, hnc, -⟩
  · cases hz
  cases hea
  have hc2 : 2 ≤ c := by have : exE.length = 4 := rfl; omega
  clear hCC hnc
  have h4 : exE.length = 4 := rfl
  rw [h4]
  go_wp2_with fail
  refine (Any_any _ c exE w1 w2 CC HX.out HP.out (by decide) ex_64).mono ?_
  rintro e w3 ⟨rfl, S3⟩
  have S3 := Lib.hid S3
  rw [exA]
  clear HX
  go_wp2_with fail
  refine (Any_any _ c (exE.take 2) w1 w3 CC S3.out (fun W X h => (HP.out W X h).take 2) (by decide) (fun e he => ex_64 e (List.mem_of_mem_take he))).mono ?_
  rintro e w4 ⟨rfl, S4⟩
  have S4 := Lib.hid S4
  rw [exB]
  generalize (anyL (exE.take 2)).1 = b0
  clear S3
  go_wp2_with fail
  refine (Round_any _ c exE 1 w1 w4 CC S4.out HP.out (by decide) ex_64 w64_1).mono ?_
  rintro e w5 ⟨v1, rfl, S5⟩
  rw [ex1] at S5
  obtain ⟨A1, c1, he⟩ := S5.vec.slice
  subst he
  have S6 := Lib.hid (S5.alloc #[.int .i64 1, .int .i64 2] 3)
  clear S4 S5
  go_wp2_with fail
  refine (Ints_any A1 (some ⟨w5.heap.size, 0, none⟩) c1 2 [1, 2] [1, 2] _ (IntsAt.of_vec S6.out.right.vec) (at_row (S6.out.has (Has.l (has_blk _ _ _)))) (by decide) (by decide)).mono ?_
  rintro e w6 ⟨rfl, hB6⟩
  have S7 := Lib.hid (S6.out.right.right.below hB6)
  clear S6 hB6
  rw [show decide (([1, 2] : List Int) = [1, 2]) = true from rfl]
  go_wp2_with fail
  refine (Round_any _ c exE 3 w1 w6 CC S7.out HP.out (by decide) ex_64 w64_3).mono ?_
  rintro e w7 ⟨v1, rfl, S8⟩
  rw [ex3] at S8
  obtain ⟨A3, c3, he⟩ := S8.vec.slice
  subst he
  have S9 := Lib.hid (S8.alloc #[.int .i64 3, .int .i64 1, .int .i64 2] 3)
  clear S7 S8
  go_wp2_with fail
  refine (Ints_any A3 (some ⟨w7.heap.size, 0, none⟩) c3 3 [3, 1, 2] [3, 1, 2] _ (IntsAt.of_vec S9.out.right.vec) (at_row (S9.out.has (Has.l (has_blk _ _ _)))) (by decide) (by decide)).mono ?_
  rintro e w8 ⟨rfl, hB8⟩
  have S10 := Lib.hid (S9.out.right.right.below hB8)
  clear S9 hB8
  rw [show decide (([3, 1, 2] : List Int) = [3, 1, 2]) = true from rfl]
  have S11 := Lib.hid ((S10.out.alloc #[.int .i64 3, .int .i64 1, .int .i64 2] 3).imp (Imp.l (blk_vec (cs := [.int .i64 3, .int .i64 1, .int .i64 2]) 3 1 rfl (by decide))))
  clear S10
  go_wp2_with fail
  refine (Victim_any (some ⟨w8.heap.size, 0, none⟩) 3 [3, 1, 2] _ S11.out.vec (by decide)).mono ?_
  rintro e w9 ⟨rfl, hw9⟩
  rw [hw9, exV]
  clear hw9 w9
  go_wp2_with fail
  refine (Victim_any none 0 [] _ (Vec.nil _ _ _) (by decide)).mono ?_
  rintro e w9 ⟨rfl, hw9⟩
  rw [hw9, show maxL [] = 0 from rfl]
  clear hw9 w9
  go_wp2_with fail
  go_returns
  exact ⟨rfl, HB1.out.trans (S11.out.bel.mono HB1.out.size)⟩
end Go.Proofs.Ytbcemognghkmcaa.Kt
