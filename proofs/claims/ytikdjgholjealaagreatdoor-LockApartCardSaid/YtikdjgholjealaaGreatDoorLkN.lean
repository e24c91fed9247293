/- The functions of no book (nil), and the new book. -/
import Derived.Test.YtikdjgholjealaaGreatDoorLkC
namespace Go.Proofs.YtikdjgholjealaaGreatDoor.Lk
open Go.ChangeShapes Go.WideShapes Go.ChangeAt Go.RowKit Go.PlainAid Aid Md
set_option linter.unusedVariables false
set_option linter.unusedSimpArgs false
def noB : Value := .pointer none
section
variable (id mode : Int) (s s2 : ByteArray) (w : World)
theorem ask_nil : Calls Tryz.prog 8 #[noB, .int .i64 id, .string s, .int .i64 mode] w fun e w' => e = .returned (.int .i64 2) ∧ w' = w := by
  unfold noB
  go_enter Tryz.func8, Tryz.ntmps8
  go_wp2_with fail
  go_returns
  exact ⟨rfl, rfl⟩
theorem drop_nil : Calls Tryz.prog 12 #[noB, .int .i64 id] w fun e w' => e = .returned (.slice none 0 0) ∧ w' = w := by
  unfold noB
  go_enter Tryz.func12, Tryz.ntmps12
  go_wp2_with fail
  go_returns
  exact ⟨rfl, rfl⟩
theorem cancel_nil : Calls Tryz.prog 14 #[noB, .int .i64 id] w fun e w' => e = .returned (.slice none 0 0) ∧ w' = w := by
  unfold noB
  go_enter Tryz.func14, Tryz.ntmps14
  go_wp2_with fail
  go_returns
  exact ⟨rfl, rfl⟩
theorem held_nil : Calls Tryz.prog 13 #[noB, .int .i64 id] w fun e w' => e = .returned (.slice none 0 0) ∧ Below w.heap.size w w' := by
  unfold noB
  go_enter Tryz.func13, Tryz.ntmps13
  go_wp2_with fail
  go_returns
  exact ⟨rfl, Below.refl _ _⟩
theorem mode_nil : Calls Tryz.prog 11 #[noB, .int .i64 id, .string s] w fun e w' => e = .returned (.int .i64 0) ∧ w' = w := by
  unfold noB
  go_enter Tryz.func11, Tryz.ntmps11
  go_wp2_with fail
  go_returns
  exact ⟨rfl, rfl⟩
theorem count_nil : Calls Tryz.prog 18 #[noB] w fun e w' => e = .returned (.int .i64 0) ∧ w' = w := by
  unfold noB
  go_enter Tryz.func18, Tryz.ntmps18
  go_wp2_with fail
  go_returns
  exact ⟨rfl, rfl⟩
theorem used_nil : Calls Tryz.prog 19 #[noB, .string s] w fun e w' => e = .returned (.bool false) ∧ w' = w := by
  unfold noB
  go_enter Tryz.func19, Tryz.ntmps19
  go_wp2_with fail
  go_returns
  exact ⟨rfl, rfl⟩
theorem inherit_nil : Calls Tryz.prog 17 #[noB, .string s, .string s2] w fun e w' => e = .returned (.tuple #[]) ∧ w' = w := by
  unfold noB
  go_enter Tryz.func17, Tryz.ntmps17
  go_wp2_with fail
  go_returns
  exact ⟨rfl, rfl⟩
end
theorem waits_nil (id : Int) (w : World) : Calls Tryz.prog 9 #[noB, .int .i64 id] w fun e w' => e = .returned (.tuple #[.agg #[.string ⟨#[]⟩, .int .i64 0], .bool false]) ∧ Below w.heap.size w w' := by
  have S0 := Lib.hid ((Own.none w).alloc #[.string ⟨#[]⟩, .int .i64 0] 32)
  unfold noB
  go_enter Tryz.func9, Tryz.ntmps9
  go_upto_region 1 with fail
  obtain ⟨g4, hgz⟩ : ∃ g, g = w.heap.size := ⟨_, rfl⟩
  rw [← hgz] at S0 ⊢
  clear hgz
  generalize w.alloc _ = w1 at *
  obtain ⟨⟨d0, d1⟩, f0, f1⟩ := two_of (S0.out.has (Has.l (has_blk g4 _ _)))
  have S3 := Lib.hid (own_2 S0.out (.string ⟨#[]⟩) (.int .i64 0))
  go_wp2_with fail
  refine bodyPost_ret (resH (x := 4) (y := 5) (v1 := .bool false) rfl rfl rfl (S3.out.has (Has.l (has_blk g4 _ _)))) rfl ?_
  exact ⟨rfl, S3.out.bel⟩
theorem blockers_nil (id : Int) (w : World) : Calls Tryz.prog 15 #[noB, .int .i64 id] w fun e w' => e = .returned (.slice none 0 0) ∧ Below w.heap.size w w' := by
  have HW := Lib.hid (fun w => waits_nil id w)
  have B0 := Lib.hid (Below.refl w.heap.size w)
  unfold noB at *
  go_enter Tryz.func15, Tryz.ntmps15
  go_wp2_with fail
  refine (HW.out _).mono ?_
  rintro e w1 ⟨rfl, hX⟩
  have B1 := Lib.hid (bl B0.out hX)
  have S1 := Lib.hid ((Own.none w1).alloc #[.string ⟨#[]⟩, .int .i64 0] 32)
  clear hX B0
  go_wp2_with fail
  go_returns
  exact ⟨rfl, bl B1.out S1.out.bel⟩
theorem emp_mul (A : Asn) : Asn.emp * A = A := Asn.same fun w O => ⟨fun ⟨X, Y, hX, hA, _, hO⟩ => by
    have e : O = Y := funext fun k => propext ⟨fun h => ((hO k).1 h).elim (fun x => (hX k x).elim) id, fun h => (hO k).2 (Or.inr h)⟩
    rw [e]; exact hA, fun hA => ⟨fun _ => False, O, fun _ h => h, hA, fun _ h _ => h, fun k => ⟨Or.inr, fun h => h.elim False.elim id⟩⟩⟩
set_option maxRecDepth 100000 in
theorem new_any (w0 w : World) (C : Asn) (hS : Aid.Own w0 No w C) :
    Calls Tryz.prog 6 #[] w fun e w' => ∃ bb h l wt, e = .returned (bPtr bb) ∧ Aid.Own w0 No w' (aBk bb h l wt [] [] [] * C) := by
  have hmm := @run_makeMap Tryz.prog
  have S1 := hS.mapNew Tryz.prog 9
  have S2 := S1.mapNew Tryz.prog 9
  have S3 := S2.mapNew Tryz.prog 3
  have S4 := Lib.hid (S3.alloc #[.map (some w.heap.size), .map (some (w.alloc (.map #[] 0)).heap.size), .map (some ((w.alloc (.map #[] 0)).alloc (.map #[] 0)).heap.size)] 52)
  clear S1 S2 S3
  go_enter Tryz.func6, Tryz.ntmps6
  go_wp2_with fail
  go_returns
  have S5 := S4.out
  simp only [World.size_alloc] at S5
  refine ⟨_, w.heap.size, w.heap.size + 1, w.heap.size + 1 + 1, rfl, S5.re ?_⟩
  unfold aBk
  show _ = _ * (aMap _ _ _ [] * (aMap _ _ _ [] * (aMap _ _ _ [] * (Asn.emp * Asn.emp)))) * _
  rw [emp_mul]
  have e : ∀ A : Asn, A * Asn.emp = A := fun A => (Asn.comm _ _).trans (emp_mul A)
  rw [e]
  ac_rfl
end Go.Proofs.YtikdjgholjealaaGreatDoor.Lk
