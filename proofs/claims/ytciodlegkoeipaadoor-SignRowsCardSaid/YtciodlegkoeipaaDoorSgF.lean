import Derived.Test.YtciodlegkoeipaaDoorSgE
import Derived.Test.YtciodlegkoeipaaDoorSgN
import Derived.StillTailTactics


namespace Go.Proofs.YtciodlegkoeipaaDoor.Sg
open Go.ChangeShapes Go.WideShapes Go.ChangeAt Go.RowKit Go.PlainAid
set_option linter.unusedVariables false

theorem Or_any (a b c : Int) (w : World) (g : Nat) (h0 : w.cell? ⟨g, 0, none⟩ = some (.int .i64 a)) (h1 : w.cell? ⟨g, 1, none⟩ = some (.int .i64 b)) (h2 : w.cell? ⟨g, 2, none⟩ = some (.int .i64 c)) (r : Int)
    (hr : r = if a ≠ 0 then a else if b ≠ 0 then b else c) :
    Calls Tryd.prog 25 #[.slice (some ⟨g, 0, none⟩) 3 3] w fun e w' => e = .returned (.int .i64 r) ∧ w = w' := by
  by_cases ha : a = 0
  · subst ha
    by_cases hb : b = 0
    · subst hb
      by_cases hc : c = 0
      · subst hc
        obtain rfl : r = 0 := by simpa using hr
        clear hr
        go_enter Tryd.func25, Tryd.ntmps25
        go_wp2
        go_rounds 4
        go_returns
        exact ⟨rfl, rfl⟩
      · obtain rfl : r = c := by simpa using hr
        clear hr
        have hc' : (r != 0) = true := bne_iff_ne.2 hc
        go_enter Tryd.func25, Tryd.ntmps25
        go_wp2
        go_rounds 4
        go_returns
        exact ⟨rfl, rfl⟩
    · obtain rfl : r = b := by simpa [hb] using hr
      clear hr
      have hc' : (r != 0) = true := bne_iff_ne.2 hb
      go_enter Tryd.func25, Tryd.ntmps25
      go_wp2
      go_rounds 4
      go_returns
      exact ⟨rfl, rfl⟩
  · obtain rfl : r = a := by simpa [ha] using hr
    clear hr
    have hc' : (r != 0) = true := bne_iff_ne.2 ha
    go_enter Tryd.func25, Tryd.ntmps25
    go_wp2
    go_rounds 4
    go_returns
    exact ⟨rfl, rfl⟩

set_option maxHeartbeats 400000 in
theorem Compare_bad1 (k1 n1 : Int) (s1 : ByteArray) (k2 n2 : Int) (s2 : ByteArray) (w : World) (hs1 : s1.size ≤ maxLen) (hs2 : s2.size ≤ maxLen) (hg1 : goodB k1 n1 s1 = false) :
    Calls Tryd.prog 14 #[.agg #[.int .i64 k1, .int .i64 n1, .string s1], .agg #[.int .i64 k2, .int .i64 n2, .string s2]] w fun e w' => e = .returned (.int .i64 0) ∧ Below w.heap.size w w' := by
  have G := fun w => Good_any k1 n1 s1 w hs1
  rw [hg1] at G
  have HG := Lib.hid G
  clear hg1 G
  go_enter Tryd.func14, Tryd.ntmps14
  go_wp2_with fail
  refine (HG.out _).mono ?_
  rintro e w1 ⟨rfl, hb⟩
  go_wp2_with fail
  go_returns
  exact ⟨rfl, bl (blA (blA (Below.refl _ _) _) _) hb⟩
theorem Compare_bad2 (k1 n1 : Int) (s1 : ByteArray) (k2 n2 : Int) (s2 : ByteArray) (w : World) (hs1 : s1.size ≤ maxLen) (hs2 : s2.size ≤ maxLen) (hg1 : goodB k1 n1 s1 = true) (hg2 : goodB k2 n2 s2 = false) :
    Calls Tryd.prog 14 #[.agg #[.int .i64 k1, .int .i64 n1, .string s1], .agg #[.int .i64 k2, .int .i64 n2, .string s2]] w fun e w' => e = .returned (.int .i64 0) ∧ Below w.heap.size w w' := by
  have G := fun w => Good_any k1 n1 s1 w hs1
  rw [hg1] at G
  have HG := Lib.hid G
  have G2 := fun w => Good_any k2 n2 s2 w hs2
  rw [hg2] at G2
  have HG2 := Lib.hid G2
  clear hg1 G hg2 G2
  go_enter Tryd.func14, Tryd.ntmps14
  go_wp2_with fail
  refine (HG.out _).mono ?_
  rintro e w1 ⟨rfl, hb⟩
  obtain ⟨hc, hf⟩ := bcell hb
  have c0 : w1.cell? ⟨w.heap.size + 1, 0, none⟩ = some (.int .i64 k2) := by rw [hc _ _ (by simp)]; go_simp
  have c1 : w1.cell? ⟨w.heap.size + 1, 1, none⟩ = some (.int .i64 n2) := by rw [hc _ _ (by simp)]; go_simp
  have c2 : w1.cell? ⟨w.heap.size + 1, 2, none⟩ = some (.string s2) := by rw [hc _ _ (by simp)]; go_simp
  clear hc hf
  go_wp2_with fail
  refine (HG2.out _).mono ?_
  rintro e w2 ⟨rfl, hb2⟩
  go_wp2_with fail
  go_returns
  exact ⟨rfl, bl (bl (blA (blA (Below.refl _ _) _) _) hb) hb2⟩
theorem Compare_good (k1 n1 : Int) (s1 : ByteArray) (k2 n2 : Int) (s2 : ByteArray) (w : World) (hs1 : s1.size ≤ maxLen) (hs2 : s2.size ≤ maxLen) (hg1 : goodB k1 n1 s1 = true) (hg2 : goodB k2 n2 s2 = true) :
    Calls Tryd.prog 14 #[.agg #[.int .i64 k1, .int .i64 n1, .string s1], .agg #[.int .i64 k2, .int .i64 n2, .string s2]] w fun e w' => e = .returned (.int .i64 (cmpV k1 n1 s1 k2 n2 s2)) ∧ Below w.heap.size w w' := by
  have G := fun w => Good_any k1 n1 s1 w hs1
  rw [hg1] at G
  have HG := Lib.hid G
  have G2 := fun w => Good_any k2 n2 s2 w hs2
  rw [hg2] at G2
  have HG2 := Lib.hid G2
  clear hg1 G hg2 G2
  go_enter Tryd.func14, Tryd.ntmps14
  go_wp2_with fail
  refine (HG.out _).mono ?_
  rintro e w1 ⟨rfl, hb⟩
  obtain ⟨hc, hf⟩ := bcell hb
  have c0 : w1.cell? ⟨w.heap.size + 1, 0, none⟩ = some (.int .i64 k2) := by rw [hc _ _ (by simp)]; go_simp
  have c1 : w1.cell? ⟨w.heap.size + 1, 1, none⟩ = some (.int .i64 n2) := by rw [hc _ _ (by simp)]; go_simp
  have c2 : w1.cell? ⟨w.heap.size + 1, 2, none⟩ = some (.string s2) := by rw [hc _ _ (by simp)]; go_simp
  have d0 : w1.cell? ⟨w.heap.size, 0, none⟩ = some (.int .i64 k1) := by rw [hc _ _ (by simp; omega)]; go_simp
  have d1 : w1.cell? ⟨w.heap.size, 1, none⟩ = some (.int .i64 n1) := by rw [hc _ _ (by simp; omega)]; go_simp
  have d2 : w1.cell? ⟨w.heap.size, 2, none⟩ = some (.string s1) := by rw [hc _ _ (by simp; omega)]; go_simp
  have hz1 := hb.size
  simp at hz1
  clear hc hf
  go_wp2_with fail
  refine (HG2.out _).mono ?_
  rintro e w2 ⟨rfl, hb2⟩
  obtain ⟨hc, hf⟩ := bcell hb2
  have c0' : w2.cell? ⟨w.heap.size + 1, 0, none⟩ = some (.int .i64 k2) := by rw [hc _ _ (by omega)]; exact c0
  have c1' : w2.cell? ⟨w.heap.size + 1, 1, none⟩ = some (.int .i64 n2) := by rw [hc _ _ (by omega)]; exact c1
  have c2' : w2.cell? ⟨w.heap.size + 1, 2, none⟩ = some (.string s2) := by rw [hc _ _ (by omega)]; exact c2
  have d0' : w2.cell? ⟨w.heap.size, 0, none⟩ = some (.int .i64 k1) := by rw [hc _ _ (by omega)]; exact d0
  have d1' : w2.cell? ⟨w.heap.size, 1, none⟩ = some (.int .i64 n1) := by rw [hc _ _ (by omega)]; exact d1
  have d2' : w2.cell? ⟨w.heap.size, 2, none⟩ = some (.string s1) := by rw [hc _ _ (by omega)]; exact d2
  clear hc hf c0 c1 c2 d0 d1 d2
  go_wp2_with fail
  refine wp_region_still_tail 15 (by kernel_rfl) (by kernel_rfl) ?_
  simp only [List.take_succ_cons, List.take_zero, List.drop_succ_cons, List.drop_zero]
  change wpStill _ _ w2.drew _ _ _
  repeat still_step
  still_call (Tryd.cmp_Compare_int _ _ _)
  repeat still_step
  still_call (Tryd.cmp_Compare_int _ _ _)
  repeat still_step
  still_call (Tryd.strings_Compare _ _ _)
  refine wpStill_nil ?_
  change wpList _ _ _ _ _ w2.drew
  generalize hw3 : w2.drew = w3
  have HW := Lib.hid hw3
  clear hw3
  go_wp2_with fail
  refine (Or_any _ _ _ _ _ (by go_simp) (by go_simp) (by go_simp) (cmpV k1 n1 s1 k2 n2 s2) rfl).mono ?_
  rintro e w4 ⟨rfl, rfl⟩
  go_wp2_with fail
  go_returns
  refine ⟨rfl, blA ?_ _⟩
  rw [← HW.out]
  exact Below.drew (bl (bl (blA (blA (Below.refl _ _) _) _) hb) hb2)

theorem compareInt_self (a : Int) : Lib.compareInt a a = 0 := by unfold Lib.compareInt; simp
/-- What Compare answers. -/
def cmpA (k1 n1 : Int) (s1 : ByteArray) (k2 n2 : Int) (s2 : ByteArray) : Int :=
  if goodB k1 n1 s1 = true ∧ goodB k2 n2 s2 = true then cmpV k1 n1 s1 k2 n2 s2 else 0
theorem Compare_any (k1 n1 : Int) (s1 : ByteArray) (k2 n2 : Int) (s2 : ByteArray) (w : World) (hs1 : s1.size ≤ maxLen) (hs2 : s2.size ≤ maxLen) :
    Calls Tryd.prog 14 #[.agg #[.int .i64 k1, .int .i64 n1, .string s1], .agg #[.int .i64 k2, .int .i64 n2, .string s2]] w fun e w' => e = .returned (.int .i64 (cmpA k1 n1 s1 k2 n2 s2)) ∧ Below w.heap.size w w' := by
  by_cases h1 : goodB k1 n1 s1 = true
  · by_cases h2 : goodB k2 n2 s2 = true
    · unfold cmpA; rw [if_pos ⟨h1, h2⟩]; exact Compare_good k1 n1 s1 k2 n2 s2 w hs1 hs2 h1 h2
    · unfold cmpA; rw [if_neg (fun h => h2 h.2)]; exact Compare_bad2 k1 n1 s1 k2 n2 s2 w hs1 hs2 h1 (by simpa using h2)
  · unfold cmpA; rw [if_neg (fun h => h1 h.1)]; exact Compare_bad1 k1 n1 s1 k2 n2 s2 w hs1 hs2 (by simpa using h1)
end Go.Proofs.YtciodlegkoeipaaDoor.Sg
