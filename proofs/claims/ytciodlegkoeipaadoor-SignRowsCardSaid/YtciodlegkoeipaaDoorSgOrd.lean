import Derived.Test.YtciodlegkoeipaaDoorSgG
namespace Go.Proofs.YtciodlegkoeipaaDoor.Sg
open Go.ChangeShapes Go.WideShapes Go.ChangeAt Go.RowKit Go.PlainAid
set_option linter.unusedVariables false

set_option maxHeartbeats 400000 in
theorem order_bad1 (k1 n1 : Int) (s1 : ByteArray) (k2 n2 : Int) (s2 : ByteArray) (w : World) (hs1 : s1.size ≤ maxLen) (hs2 : s2.size ≤ maxLen) (hg1 : goodB k1 n1 s1 = false) :
    Calls Tryd.prog 5 #[.agg #[.int .i64 k1, .int .i64 n1, .string s1], .agg #[.int .i64 k2, .int .i64 n2, .string s2]] w fun e w' => e = .returned (.bool true) ∧ Below w.heap.size w w' := by
  have G := fun w => Good_any k1 n1 s1 w hs1
  rw [hg1] at G
  have HG := Lib.hid G
  clear hg1 G
  go_enter Tryd.func5, Tryd.ntmps5
  go_wp2_with fail
  refine (awake_any _).mono ?_
  rintro e w1 ⟨rfl, hb1⟩
  obtain ⟨hc, hf⟩ := bcell hb1
  have hz1 := hb1.size
  simp at hz1
  have d0 : w1.cell? ⟨w.heap.size, 0, none⟩ = some (.int .i64 k1) := by rw [hc _ _ (by simp; omega)]; go_simp
  have d1 : w1.cell? ⟨w.heap.size, 1, none⟩ = some (.int .i64 n1) := by rw [hc _ _ (by simp; omega)]; go_simp
  have d2 : w1.cell? ⟨w.heap.size, 2, none⟩ = some (.string s1) := by rw [hc _ _ (by simp; omega)]; go_simp
  clear hc hf
  go_wp2_with fail
  refine (HG.out _).mono ?_
  rintro e w2 ⟨rfl, hb2⟩
  go_wp2_with fail
  go_returns
  exact ⟨rfl, bl (bl (blA (blA (Below.refl _ _) _) _) hb1) hb2⟩

set_option maxHeartbeats 400000 in
theorem order_bad2 (k1 n1 : Int) (s1 : ByteArray) (k2 n2 : Int) (s2 : ByteArray) (w : World) (hs1 : s1.size ≤ maxLen) (hs2 : s2.size ≤ maxLen) (hg1 : goodB k1 n1 s1 = true) (hg2 : goodB k2 n2 s2 = false) :
    Calls Tryd.prog 5 #[.agg #[.int .i64 k1, .int .i64 n1, .string s1], .agg #[.int .i64 k2, .int .i64 n2, .string s2]] w fun e w' => e = .returned (.bool true) ∧ Below w.heap.size w w' := by
  have G := fun w => Good_any k1 n1 s1 w hs1
  rw [hg1] at G
  have HG := Lib.hid G
  have G2 := fun w => Good_any k2 n2 s2 w hs2
  rw [hg2] at G2
  have HG2 := Lib.hid G2
  clear hg1 G hg2 G2
  go_enter Tryd.func5, Tryd.ntmps5
  go_wp2_with fail
  refine (awake_any _).mono ?_
  rintro e w1 ⟨rfl, hb1⟩
  obtain ⟨hc, hf⟩ := bcell hb1
  have hz1 := hb1.size
  simp at hz1
  have d0 : w1.cell? ⟨w.heap.size, 0, none⟩ = some (.int .i64 k1) := by rw [hc _ _ (by simp; omega)]; go_simp
  have d1 : w1.cell? ⟨w.heap.size, 1, none⟩ = some (.int .i64 n1) := by rw [hc _ _ (by simp; omega)]; go_simp
  have d2 : w1.cell? ⟨w.heap.size, 2, none⟩ = some (.string s1) := by rw [hc _ _ (by simp; omega)]; go_simp
  have c0 : w1.cell? ⟨w.heap.size + 1, 0, none⟩ = some (.int .i64 k2) := by rw [hc _ _ (by simp)]; go_simp
  have c1 : w1.cell? ⟨w.heap.size + 1, 1, none⟩ = some (.int .i64 n2) := by rw [hc _ _ (by simp)]; go_simp
  have c2 : w1.cell? ⟨w.heap.size + 1, 2, none⟩ = some (.string s2) := by rw [hc _ _ (by simp)]; go_simp
  clear hc hf
  go_wp2_with fail
  refine (HG.out _).mono ?_
  rintro e w2 ⟨rfl, hb2⟩
  obtain ⟨hc, hf⟩ := bcell hb2
  have c0' : w2.cell? ⟨w.heap.size + 1, 0, none⟩ = some (.int .i64 k2) := by rw [hc _ _ (by omega)]; exact c0
  have c1' : w2.cell? ⟨w.heap.size + 1, 1, none⟩ = some (.int .i64 n2) := by rw [hc _ _ (by omega)]; exact c1
  have c2' : w2.cell? ⟨w.heap.size + 1, 2, none⟩ = some (.string s2) := by rw [hc _ _ (by omega)]; exact c2
  clear hc hf
  go_wp2_with fail
  refine (HG2.out _).mono ?_
  rintro e w3 ⟨rfl, hb3⟩
  go_wp2_with fail
  go_returns
  exact ⟨rfl, bl (bl (bl (blA (blA (Below.refl _ _) _) _) hb1) hb2) hb3⟩

theorem toList_inj {a b : ByteArray} (h : a.toList = b.toList) : a = b := by
  rw [ByteArray.toList_eq, ByteArray.toList_eq] at h; exact ByteArray.ext (Array.toList_inj.1 h)
/-- Two values that lie at two places. -/
def Two (W : World) (g : Nat) (k1 n1 : Int) (s1 : ByteArray) (k2 n2 : Int) (s2 : ByteArray) : Prop :=
  g + 1 < W.heap.size ∧ W.cell? ⟨g, 0, none⟩ = some (.int .i64 k1) ∧ W.cell? ⟨g, 1, none⟩ = some (.int .i64 n1) ∧ W.cell? ⟨g, 2, none⟩ = some (.string s1) ∧
  W.cell? ⟨g + 1, 0, none⟩ = some (.int .i64 k2) ∧ W.cell? ⟨g + 1, 1, none⟩ = some (.int .i64 n2) ∧ W.cell? ⟨g + 1, 2, none⟩ = some (.string s2)
theorem Two.keep {W W' : World} {g : Nat} {k1 n1 : Int} {s1 : ByteArray} {k2 n2 : Int} {s2 : ByteArray} (h : Two W g k1 n1 s1 k2 n2 s2) (hb : Below W.heap.size W W') : Two W' g k1 n1 s1 k2 n2 s2 := by
  obtain ⟨h0, h1, h2, h3, h4, h5, h6⟩ := h
  obtain ⟨hc, hf⟩ := bcell hb
  have hz := hb.size
  refine ⟨by omega, ?_, ?_, ?_, ?_, ?_, ?_⟩
  all_goals (rw [hc _ _ (by omega)]; assumption)

set_option maxHeartbeats 1000000 in
theorem order_good (k1 n1 : Int) (s1 : ByteArray) (k2 n2 : Int) (s2 : ByteArray) (w : World) (hs1 : s1.size ≤ maxLen) (hs2 : s2.size ≤ maxLen) (hg1 : goodB k1 n1 s1 = true) (hg2 : goodB k2 n2 s2 = true)
    (r1 : -9223372036854775808 ≤ n1 ∧ n1 ≤ 9223372036854775807) (r2 : -9223372036854775808 ≤ n2 ∧ n2 ≤ 9223372036854775807) :
    Calls Tryd.prog 5 #[.agg #[.int .i64 k1, .int .i64 n1, .string s1], .agg #[.int .i64 k2, .int .i64 n2, .string s2]] w fun e w' => e = .returned (.bool true) ∧ Below w.heap.size w w' := by
  have G := fun w => Good_any k1 n1 s1 w hs1
  rw [hg1] at G
  have HG := Lib.hid G
  have G2 := fun w => Good_any k2 n2 s2 w hs2
  rw [hg2] at G2
  have HG2 := Lib.hid G2
  have HC := Lib.hid (fun w => Code_yes k1 n1 s1 w hs1 r1.1 r1.2 hg1)
  have HC2 := Lib.hid (fun w => Code_yes k2 n2 s2 w hs2 r2.1 r2.2 hg2)
  have HT := Lib.hid (fun w => Texts_any (codeS k1 n1 s1) (codeS k2 n2 s2) w (by rw [codeS_size]; decide) (by rw [codeS_size]; decide))
  have HP := Lib.hid (fun w => Compare_good k1 n1 s1 k2 n2 s2 w hs1 hs2 hg1 hg2)
  have HP2 := Lib.hid (fun w => Compare_good k2 n2 s2 k1 n1 s1 w hs2 hs1 hg2 hg1)
  have e1 : Lib.compareBytes (codeS k1 n1 s1).data.toList (codeS k2 n2 s2).data.toList = cmpV k1 n1 s1 k2 n2 s2 := code_order k1 n1 s1 k2 n2 s2 hg1 hg2 r1 r2
  rw [e1] at HT
  have z1 := codeS_size k1 n1 s1
  have z2 := codeS_size k2 n2 s2
  have l1 : (((codeS k1 n1 s1).size : Int) == 9) = true := by rw [z1]; rfl
  have l2 : (((codeS k2 n2 s2).size : Int) == 9) = true := by rw [z2]; rfl
  clear hg1 G hg2 G2 e1 z1 z2
  generalize codeS k1 n1 s1 = a at *
  generalize codeS k2 n2 s2 = b at *
  have hn := cmpV_neg k1 n1 s1 k2 n2 s2
  have hr := cmpV_range k1 n1 s1 k2 n2 s2
  have hz := cmpV_zero k1 n1 s1 k2 n2 s2
  rw [hn] at HP2
  generalize cmpV k1 n1 s1 k2 n2 s2 = c at *
  obtain ⟨hr1, hr2⟩ := hr
  have HZ := Lib.hid hz
  clear hn hz
  go_enter Tryd.func5, Tryd.ntmps5
  go_wp2_with fail
  refine (awake_any _).mono ?_
  rintro e w1 ⟨rfl, hb1⟩
  have t1 : Two w1 w.heap.size k1 n1 s1 k2 n2 s2 := Two.keep (by unfold Two; simp) hb1
  have T1 := Lib.hid t1
  obtain ⟨h0, h1, h2, h3, h4, h5, h6⟩ := t1
  go_wp2_with fail
  refine (HG.out _).mono ?_
  rintro e w2 ⟨rfl, hb2⟩
  clear h0 h1 h2 h3 h4 h5 h6
  have t2 := T1.out.keep hb2
  have T2 := Lib.hid t2
  obtain ⟨h0, h1, h2, h3, h4, h5, h6⟩ := t2
  go_wp2_with fail
  refine (HG2.out _).mono ?_
  rintro e w3 ⟨rfl, hb3⟩
  clear h0 h1 h2 h3 h4 h5 h6
  have t3 := T2.out.keep hb3
  have T3 := Lib.hid t3
  obtain ⟨h0, h1, h2, h3, h4, h5, h6⟩ := t3
  go_wp2_with fail
  refine (HC.out _).mono ?_
  rintro e w4 ⟨rfl, hb4⟩
  clear h0 h1 h2 h3 h4 h5 h6
  have t4 := T3.out.keep hb4
  have T4 := Lib.hid t4
  obtain ⟨h0, h1, h2, h3, h4, h5, h6⟩ := t4
  go_wp2_with fail
  refine (HC2.out _).mono ?_
  rintro e w5 ⟨rfl, hb5⟩
  clear h0 h1 h2 h3 h4 h5 h6
  have t5 := T4.out.keep hb5
  have T5 := Lib.hid t5
  obtain ⟨h0, h1, h2, h3, h4, h5, h6⟩ := t5
  go_wp2_with fail
  refine (HT.out _).mono ?_
  rintro e w6 ⟨rfl, hb6⟩
  clear h0 h1 h2 h3 h4 h5 h6
  have t6 := T5.out.keep hb6
  have T6 := Lib.hid t6
  obtain ⟨h0, h1, h2, h3, h4, h5, h6⟩ := t6
  go_wp2_with fail
  refine (HP.out _).mono ?_
  rintro e w7 ⟨rfl, hb7⟩
  clear h0 h1 h2 h3 h4 h5 h6
  have t7 := T6.out.keep hb7
  have T7 := Lib.hid t7
  obtain ⟨h0, h1, h2, h3, h4, h5, h6⟩ := t7
  go_wp2_with fail
  refine (HP2.out _).mono ?_
  rintro e w8 ⟨rfl, hb8⟩
  clear h0 h1 h2 h3 h4 h5 h6
  have t8 := T7.out.keep hb8
  have T8 := Lib.hid t8
  obtain ⟨h0, h1, h2, h3, h4, h5, h6⟩ := t8
  go_wp2_with fail
  all_goals go_returns
  all_goals refine ⟨ret_bool ?_, bl (bl (bl (bl (bl (bl (bl (bl (blA (blA (Below.refl _ _) _) _) hb1) hb2) hb3) hb4) hb5) hb6) hb7) hb8⟩
  all_goals (have hz := HZ.out; clear HZ HG HG2 HC HC2 HT HP HP2 T1 T2 T3 T4 T5 T6 T7 T8 h0 h1 h2 h3 h4 h5 h6 hb1 hb2 hb3 hb4 hb5 hb6 hb7 hb8)
  · rw [beq_iff_eq, hz]; exact ⟨by assumption, by assumption, toList_inj (by assumption)⟩
  · rw [Bool.not_eq_true', beq_eq_false_iff_ne, Ne, hz]; rintro ⟨-, -, rfl⟩; exact absurd rfl (by assumption)
  · rw [Bool.not_eq_true', beq_eq_false_iff_ne, Ne, hz]; rintro ⟨-, e, -⟩; exact absurd e (by assumption)
  · rw [Bool.not_eq_true', beq_eq_false_iff_ne, Ne, hz]; rintro ⟨e, -, -⟩; exact absurd e (by assumption)
end Go.Proofs.YtciodlegkoeipaaDoor.Sg
