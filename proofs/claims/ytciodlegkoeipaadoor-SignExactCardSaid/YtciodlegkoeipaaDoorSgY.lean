import Derived.Test.YtciodlegkoeipaaDoorSgX


namespace Go.Proofs.YtciodlegkoeipaaDoor.Sg
open Go.ChangeShapes Go.WideShapes Go.ChangeAt Go.RowKit Go.PlainAid
set_option linter.unusedVariables false
set_option linter.unusedSimpArgs false

set_option maxHeartbeats 400000 in
theorem refCompare_bad1 (k1 n1 : Int) (s1 : ByteArray) (k2 n2 : Int) (s2 : ByteArray) (w : World) (hs1 : s1.size ≤ maxLen) (hs2 : s2.size ≤ maxLen) (hg1 : goodB k1 n1 s1 = false) :
    Calls Tryd.prog 15 #[.agg #[.int .i64 k1, .int .i64 n1, .string s1], .agg #[.int .i64 k2, .int .i64 n2, .string s2]] w fun e w' => e = .returned (.int .i64 0) ∧ Below w.heap.size w w' := by
  have G := fun w => refGood_any k1 n1 s1 w hs1
  rw [hg1] at G
  have HG := Lib.hid G
  clear hg1 G
  go_enter Tryd.func15, Tryd.ntmps15
  go_wp2_with fail
  refine (HG.out _).mono ?_
  rintro e w1 ⟨rfl, hb⟩
  go_wp2_with fail
  go_returns
  exact ⟨rfl, bl (blA (blA (Below.refl _ _) _) _) hb⟩
theorem refCompare_bad2 (k1 n1 : Int) (s1 : ByteArray) (k2 n2 : Int) (s2 : ByteArray) (w : World) (hs1 : s1.size ≤ maxLen) (hs2 : s2.size ≤ maxLen) (hg1 : goodB k1 n1 s1 = true) (hg2 : goodB k2 n2 s2 = false) :
    Calls Tryd.prog 15 #[.agg #[.int .i64 k1, .int .i64 n1, .string s1], .agg #[.int .i64 k2, .int .i64 n2, .string s2]] w fun e w' => e = .returned (.int .i64 0) ∧ Below w.heap.size w w' := by
  have G := fun w => refGood_any k1 n1 s1 w hs1
  rw [hg1] at G
  have HG := Lib.hid G
  have G2 := fun w => refGood_any k2 n2 s2 w hs2
  rw [hg2] at G2
  have HG2 := Lib.hid G2
  clear hg1 G hg2 G2
  go_enter Tryd.func15, Tryd.ntmps15
  go_wp2_with fail
  refine (HG.out _).mono ?_
  rintro e w1 ⟨rfl, hb⟩
  obtain ⟨hc, hf⟩ := bcell hb
  have c0 : w1.cell? ⟨w.heap.size + 1, 0, none⟩ = some (.int .i64 k2) := by rw [hc _ _ (by simp)]; go_simp
  have c1 : w1.cell? ⟨w.heap.size + 1, 1, none⟩ = some (.int .i64 n2) := by rw [hc _ _ (by simp)]; go_simp
  have c2 : w1.cell? ⟨w.heap.size + 1, 2, none⟩ = some (.string s2) := by rw [hc _ _ (by simp)]; go_simp
  clear hc hf
  go_wp2_with fail
  refine (HG2.out _).mono ?_
  rintro e w2 ⟨rfl, hb2⟩
  go_wp2_with fail
  go_returns
  exact ⟨rfl, bl (bl (blA (blA (Below.refl _ _) _) _) hb) hb2⟩

set_option maxHeartbeats 1000000 in
theorem refCompare_good (k1 n1 : Int) (s1 : ByteArray) (k2 n2 : Int) (s2 : ByteArray) (w : World) (hs1 : s1.size ≤ maxLen) (hs2 : s2.size ≤ maxLen) (hg1 : goodB k1 n1 s1 = true) (hg2 : goodB k2 n2 s2 = true) :
    Calls Tryd.prog 15 #[.agg #[.int .i64 k1, .int .i64 n1, .string s1], .agg #[.int .i64 k2, .int .i64 n2, .string s2]] w fun e w' => e = .returned (.int .i64 (cmpV k1 n1 s1 k2 n2 s2)) ∧ Below w.heap.size w w' := by
  have G := fun w => refGood_any k1 n1 s1 w hs1
  rw [hg1] at G
  have HG := Lib.hid G
  have G2 := fun w => refGood_any k2 n2 s2 w hs2
  rw [hg2] at G2
  have HG2 := Lib.hid G2
  have HT := Lib.hid (fun w => Texts_any s1 s2 w hs1 hs2)
  have g1 := of_decide_eq_true hg1
  have g2 := of_decide_eq_true hg2
  have hv : (k1 = 1 ∧ k2 = 2 → cmpV k1 n1 s1 k2 n2 s2 = -1) ∧ (k1 = 2 ∧ k2 = 1 → cmpV k1 n1 s1 k2 n2 s2 = 1) ∧ (k1 = 2 ∧ k2 = 2 → cmpV k1 n1 s1 k2 n2 s2 = Lib.compareBytes s1.data.toList s2.data.toList) ∧ (k1 = 1 ∧ k2 = 1 → cmpV k1 n1 s1 k2 n2 s2 = Lib.compareInt n1 n2) := by
    refine ⟨?_, ?_, ?_, ?_⟩
    · rintro ⟨rfl, rfl⟩; rfl
    · rintro ⟨rfl, rfl⟩; rfl
    · rintro ⟨rfl, rfl⟩
      obtain rfl : n1 = 0 := by omega
      obtain rfl : n2 = 0 := by omega
      rfl
    · rintro ⟨rfl, rfl⟩
      obtain rfl : s1 = ⟨#[]⟩ := size_zero (by omega)
      obtain rfl : s2 = ⟨#[]⟩ := size_zero (by omega)
      unfold cmpV
      rw [show Lib.compareInt 1 1 = 0 from rfl, if_neg (by decide)]
      by_cases a : Lib.compareInt n1 n2 = 0
      · rw [if_neg (by simpa using a), a]; rfl
      · rw [if_pos a]
  have HV := Lib.hid hv
  have hk1 : k1 = 1 ∨ k1 = 2 := by omega
  have hk2 : k2 = 1 ∨ k2 = 2 := by omega
  clear hg1 G hg2 G2 hv g1 g2
  rcases hk1 with rfl | rfl <;> rcases hk2 with rfl | rfl
  · go_enter Tryd.func15, Tryd.ntmps15
    go_wp2_with fail
    refine (HG.out _).mono ?_
    rintro e w1 ⟨rfl, hb⟩
    have t1 : Two w1 w.heap.size 1 n1 s1 1 n2 s2 := Two.keep (by unfold Two; simp) hb
    have T1 := Lib.hid t1
    obtain ⟨h0, h1, h2, h3, h4, h5, h6⟩ := t1
    go_wp2_with fail
    refine (HG2.out _).mono ?_
    rintro e w2 ⟨rfl, hb2⟩
    clear h0 h1 h2 h3 h4 h5 h6
    have t2 := T1.out.keep hb2
    obtain ⟨h0, h1, h2, h3, h4, h5, h6⟩ := t2
    have HB := Lib.hid (bl (bl (blA (blA (Below.refl _ _) _) _) hb) hb2)
    clear hb hb2
    go_wp2_with fail
    all_goals go_returns
    all_goals refine ⟨ret_int ?_, HB.out⟩
    all_goals (rw [HV.out.2.2.2 (by simp)]; unfold Lib.compareInt)
    all_goals first | (rw [if_pos (by omega)]; done) | (rw [if_neg (by omega), if_pos (by omega)]; done) | (rw [if_neg (by omega), if_neg (by omega)]; done)
  · go_enter Tryd.func15, Tryd.ntmps15
    go_wp2_with fail
    refine (HG.out _).mono ?_
    rintro e w1 ⟨rfl, hb⟩
    have t1 : Two w1 w.heap.size 1 n1 s1 2 n2 s2 := Two.keep (by unfold Two; simp) hb
    have T1 := Lib.hid t1
    obtain ⟨h0, h1, h2, h3, h4, h5, h6⟩ := t1
    go_wp2_with fail
    refine (HG2.out _).mono ?_
    rintro e w2 ⟨rfl, hb2⟩
    clear h0 h1 h2 h3 h4 h5 h6
    have t2 := T1.out.keep hb2
    obtain ⟨h0, h1, h2, h3, h4, h5, h6⟩ := t2
    have HB := Lib.hid (bl (bl (blA (blA (Below.refl _ _) _) _) hb) hb2)
    clear hb hb2
    go_wp2_with fail
    go_returns
    exact ⟨ret_int (HV.out.1 (by simp)).symm, HB.out⟩
  · go_enter Tryd.func15, Tryd.ntmps15
    go_wp2_with fail
    refine (HG.out _).mono ?_
    rintro e w1 ⟨rfl, hb⟩
    have t1 : Two w1 w.heap.size 2 n1 s1 1 n2 s2 := Two.keep (by unfold Two; simp) hb
    have T1 := Lib.hid t1
    obtain ⟨h0, h1, h2, h3, h4, h5, h6⟩ := t1
    go_wp2_with fail
    refine (HG2.out _).mono ?_
    rintro e w2 ⟨rfl, hb2⟩
    clear h0 h1 h2 h3 h4 h5 h6
    have t2 := T1.out.keep hb2
    obtain ⟨h0, h1, h2, h3, h4, h5, h6⟩ := t2
    have HB := Lib.hid (bl (bl (blA (blA (Below.refl _ _) _) _) hb) hb2)
    clear hb hb2
    go_wp2_with fail
    go_returns
    exact ⟨ret_int (HV.out.2.1 (by simp)).symm, HB.out⟩
  · go_enter Tryd.func15, Tryd.ntmps15
    go_wp2_with fail
    refine (HG.out _).mono ?_
    rintro e w1 ⟨rfl, hb⟩
    have t1 : Two w1 w.heap.size 2 n1 s1 2 n2 s2 := Two.keep (by unfold Two; simp) hb
    have T1 := Lib.hid t1
    obtain ⟨h0, h1, h2, h3, h4, h5, h6⟩ := t1
    go_wp2_with fail
    refine (HG2.out _).mono ?_
    rintro e w2 ⟨rfl, hb2⟩
    clear h0 h1 h2 h3 h4 h5 h6
    have t2 := T1.out.keep hb2
    obtain ⟨h0, h1, h2, h3, h4, h5, h6⟩ := t2
    have HB := Lib.hid (bl (bl (blA (blA (Below.refl _ _) _) _) hb) hb2)
    clear hb hb2
    go_wp2_with fail
    refine (HT.out _).mono ?_
    rintro e w3 ⟨rfl, hb3⟩
    go_wp2_with fail
    go_returns
    exact ⟨ret_int (HV.out.2.2.1 (by simp)).symm, bl HB.out hb3⟩
theorem refCompare_any (k1 n1 : Int) (s1 : ByteArray) (k2 n2 : Int) (s2 : ByteArray) (w : World) (hs1 : s1.size ≤ maxLen) (hs2 : s2.size ≤ maxLen) :
    Calls Tryd.prog 15 #[.agg #[.int .i64 k1, .int .i64 n1, .string s1], .agg #[.int .i64 k2, .int .i64 n2, .string s2]] w fun e w' => e = .returned (.int .i64 (cmpA k1 n1 s1 k2 n2 s2)) ∧ Below w.heap.size w w' := by
  by_cases h1 : goodB k1 n1 s1 = true
  · by_cases h2 : goodB k2 n2 s2 = true
    · unfold cmpA; rw [if_pos ⟨h1, h2⟩]; exact refCompare_good k1 n1 s1 k2 n2 s2 w hs1 hs2 h1 h2
    · unfold cmpA; rw [if_neg (fun h => h2 h.2)]; exact refCompare_bad2 k1 n1 s1 k2 n2 s2 w hs1 hs2 h1 (by simpa using h2)
  · unfold cmpA; rw [if_neg (fun h => h1 h.1)]; exact refCompare_bad1 k1 n1 s1 k2 n2 s2 w hs1 hs2 (by simpa using h1)
end Go.Proofs.YtciodlegkoeipaaDoor.Sg
