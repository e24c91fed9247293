import Derived.Test.YtciodlegkoeipaaDoorSgF


namespace Go.Proofs.YtciodlegkoeipaaDoor.Sg
open Go.ChangeShapes Go.WideShapes Go.ChangeAt Go.RowKit Go.PlainAid
set_option linter.unusedVariables false

theorem codeS_zero : codeS 1 0 ⟨#[]⟩ = ⟨#[1, 128, 0, 0, 0, 0, 0, 0, 0]⟩ := by decide +kernel
theorem codeS_a : codeS 2 0 ⟨#[97]⟩ = ⟨#[2, 97, 0, 0, 0, 0, 0, 0, 1]⟩ := by decide +kernel
theorem rd_a : rd ⟨#[2, 97, 0, 0, 0, 0, 0, 0, 1]⟩ = some (2, 0, ⟨#[97]⟩) := by
  rw [← codeS_a]; exact rd_code 2 0 ⟨#[97]⟩ (by decide) (by decide) (by decide)

set_option maxHeartbeats 400000 in
theorem awake_any (w : World) :
    Calls Tryd.prog 7 #[] w fun e w' => e = .returned (.bool true) ∧ Below w.heap.size w w' := by
  have C0 := fun w => Code_yes 1 0 ⟨#[]⟩ w (by decide) (by decide) (by decide) (by decide)
  have C1 := fun w => Code_yes 2 0 ⟨#[97]⟩ w (by decide) (by decide) (by decide) (by decide)
  have C2 := fun w => Read_some _ w _ _ _ rd_a
  rw [codeS_zero] at C0
  rw [codeS_a] at C1
  go_enter Tryd.func7, Tryd.ntmps7
  go_wp2_with fail
  refine (C0 _).mono ?_
  rintro e w1 ⟨rfl, hb⟩
  go_wp2_with fail
  refine (C1 _).mono ?_
  rintro e w2 ⟨rfl, hb2⟩
  go_wp2_with fail
  refine (C2 _).mono ?_
  rintro e w3 ⟨rfl, hb3⟩
  go_wp2_with fail
  go_returns
  exact ⟨rfl, blA (bl (bl hb hb2) hb3) _⟩

set_option maxHeartbeats 400000 in
theorem refGood_any (k n : Int) (s : ByteArray) (w : World) (hs : s.size ≤ maxLen) :
    Calls Tryd.prog 8 #[.agg #[.int .i64 k, .int .i64 n, .string s]] w fun e w' => e = .returned (.bool (goodB k n s)) ∧ Below w.heap.size w w' := by
  unfold maxLen at hs
  by_cases h1 : k = 1
  · subst h1
    go_enter Tryd.func8, Tryd.ntmps8
    go_wp2
    go_returns
    exact ⟨ret_bool (by rw [toList_isEmpty]; unfold goodB; rw [decide_eq_decide]; omega), by go_grown⟩
  · by_cases h2 : k = 2
    · subst h2
      by_cases h3 : n = 0
      · subst h3
        go_enter Tryd.func8, Tryd.ntmps8
        go_wp2
        all_goals go_returns
        all_goals refine ⟨ret_bool ?_, by go_grown⟩
        unfold goodB; rw [decide_eq_decide]; omega
      · have h4 : (n == 0) = false := beq_eq_false_iff_ne.2 h3
        go_enter Tryd.func8, Tryd.ntmps8
        go_wp2
        all_goals go_returns
        all_goals refine ⟨ret_bool ?_, by go_grown⟩
        symm; unfold goodB; rw [decide_eq_false_iff_not]; omega
    · have h4 : (k == 2) = false := beq_eq_false_iff_ne.2 h2
      go_enter Tryd.func8, Tryd.ntmps8
      go_wp2
      go_returns
      refine ⟨ret_bool ?_, by go_grown⟩
      symm; unfold goodB; rw [decide_eq_false_iff_not]; omega

theorem cb_step (a b : ByteArray) (k : Nat) (h1 : k < a.size) (h2 : k < b.size) : Lib.compareBytes (a.data.toList.drop k) (b.data.toList.drop k) = if bt a k < bt b k then -1 else if bt b k < bt a k then 1 else Lib.compareBytes (a.data.toList.drop (k + 1)) (b.data.toList.drop (k + 1)) := by
  have la : k < a.data.toList.length := by rw [← Lib.size_eq]; exact h1
  have lb : k < b.data.toList.length := by rw [← Lib.size_eq]; exact h2
  rw [List.drop_eq_getElem_cons la, List.drop_eq_getElem_cons lb, Lib.compareBytes, bt_list, bt_list, List.getD, List.getD, List.getElem?_eq_getElem la, List.getElem?_eq_getElem lb]
  simp only [UInt8.lt_iff_toNat_lt, Option.getD_some, Int.ofNat_lt]
theorem cb_end (a b : ByteArray) (k : Nat) (h1 : k ≤ a.size) (h2 : k ≤ b.size) (h : k = a.size ∨ k = b.size) : Lib.compareBytes (a.data.toList.drop k) (b.data.toList.drop k) = if a.size < b.size then -1 else if b.size < a.size then 1 else 0 := by
  have la : (a.data.toList.drop k).length = a.size - k := by rw [List.length_drop, ← Lib.size_eq]
  have lb : (b.data.toList.drop k).length = b.size - k := by rw [List.length_drop, ← Lib.size_eq]
  generalize a.data.toList.drop k = x at *
  generalize b.data.toList.drop k = y at *
  cases x with
  | nil =>
    simp only [List.length_nil] at la
    cases y with
    | nil => simp only [List.length_nil] at lb; rw [if_neg (by omega), if_neg (by omega)]; rfl
    | cons c y => simp only [List.length_cons] at lb; rw [if_pos (by omega)]; rfl
  | cons c x =>
    simp only [List.length_cons] at la
    cases y with
    | nil => simp only [List.length_nil] at lb; rw [if_neg (by omega), if_pos (by omega)]; rfl
    | cons d y => simp only [List.length_cons] at lb; omega

set_option maxHeartbeats 400000 in
theorem Texts_any (a b : ByteArray) (w : World) (ha : a.size ≤ maxLen) (hb : b.size ≤ maxLen) :
    Calls Tryd.prog 21 #[.string a, .string b] w fun e w' => e = .returned (.int .i64 (Lib.compareBytes a.data.toList b.data.toList)) ∧ Below w.heap.size w w' := by
  unfold maxLen at ha hb
  have ga := get_bt a
  have gb := get_bt b
  have hR : Lib.compareBytes a.data.toList b.data.toList = Lib.compareBytes (a.data.toList.drop 0) (b.data.toList.drop 0) := rfl
  generalize Lib.compareBytes a.data.toList b.data.toList = R at *
  have HR := Lib.hid hR
  clear hR
  go_enter Tryd.func21, Tryd.ntmps21
  go_wp2
  go_loopw [5] (fun i wr => ∃ k : Nat, k ≤ a.size ∧ k ≤ b.size ∧ i = .int .i64 k ∧ R = Lib.compareBytes (a.data.toList.drop k) (b.data.toList.drop k) ∧ Below w.heap.size w wr) (fun i _ => a.size - (intOf i).toNat)
  case atStart => exact ⟨0, by omega, by omega, rfl, HR.out, Below.refl _ _⟩
  case round =>
    obtain ⟨k, hk1, hk2, rfl, hr, hbl⟩ := hrel
    have HR2 := Lib.hid hr
    clear hr HR
    by_cases h1 : k < a.size
    · by_cases h2 : k < b.size
      · have hs := cb_step a b k h1 h2
        have HS := Lib.hid hs
        have kk : (0 : Int) ≤ (k : Int) := by omega
        have kt : (k : Int).toNat = k := by simp
        clear hs
        by_cases hl : bt a k < bt b k
        · go_wp2
          go_quiet (fail)
          go_wp2
          go_returns
          refine ⟨ret_int ?_, blN hbl _⟩
          rw [HR2.out, HS.out, if_pos hl]
        · by_cases hg : bt b k < bt a k
          · go_wp2
            go_quiet (fail)
            go_wp2
            go_quiet (fail)
            go_wp2
            go_returns
            refine ⟨ret_int ?_, blN (blN hbl _) _⟩
            rw [HR2.out, HS.out, if_neg (by omega), if_pos (by omega)]
          · go_wp2
            go_quiet (fail)
            go_wp2
            go_quiet (fail)
            go_wp2
            go_roundw
            case rel => exact ⟨k + 1, by omega, by omega, by go_num, by rw [HR2.out, HS.out, if_neg (by omega), if_neg (by omega)], blN hbl _⟩
            case measure => simp [intOf]; omega
      · have he := cb_end a b k hk1 hk2 (by omega)
        have HE := Lib.hid he
        clear he
        go_wp2
        all_goals go_returns
        all_goals refine ⟨ret_int ?_, hbl⟩
        all_goals rw [HR2.out, HE.out]
        all_goals first | (rw [if_pos (by omega)]; done) | (rw [if_neg (by omega), if_pos (by omega)]; done) | (rw [if_neg (by omega), if_neg (by omega)]; done)
    · have he := cb_end a b k hk1 hk2 (by omega)
      have HE := Lib.hid he
      clear he
      go_wp2
      all_goals go_returns
      all_goals refine ⟨ret_int ?_, hbl⟩
      all_goals rw [HR2.out, HE.out]
      all_goals first | (rw [if_pos (by omega)]; done) | (rw [if_neg (by omega), if_pos (by omega)]; done) | (rw [if_neg (by omega), if_neg (by omega)]; done)
end Go.Proofs.YtciodlegkoeipaaDoor.Sg
