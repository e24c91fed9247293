/- Which text stands ahead, the document's; the place of a key. -/
import Derived.Test.YtapdpdhibpblgaaGreatDoorNdW
import Derived.Deep.CutBlock
import Derived.Deep.Draws
namespace Go.Proofs.YtapdpdhibpblgaaGreatDoor.Nd
open Go.ChangeShapes Go.WideShapes Go.ChangeAt Go.RowKit Go.PlainAid Aid Cr Nt
set_option linter.unusedVariables false
set_option linter.unusedSimpArgs false
theorem cb_step (a b : ByteArray) (k : Nat) (h1 : k < a.size) (h2 : k < b.size) : Lib.compareBytes (a.data.toList.drop k) (b.data.toList.drop k) = if bt a k < bt b k then -1 else if bt b k < bt a k then 1 else Lib.compareBytes (a.data.toList.drop (k + 1)) (b.data.toList.drop (k + 1)) := by
  have la : k < a.data.toList.length := by rw [← Lib.size_eq]; exact h1
  have lb : k < b.data.toList.length := by rw [← Lib.size_eq]; exact h2
  rw [List.drop_eq_getElem_cons la, List.drop_eq_getElem_cons lb, Lib.compareBytes, bt_list, bt_list, List.getD, List.getD, List.getElem?_eq_getElem la, List.getElem?_eq_getElem lb]
  simp only [UInt8.lt_iff_toNat_lt, Option.getD_some, Int.ofNat_lt]
theorem cb_end (a b : ByteArray) (k : Nat) (h1 : k ≤ a.size) (h2 : k ≤ b.size) (h : k = a.size ∨ k = b.size) : Lib.compareBytes (a.data.toList.drop k) (b.data.toList.drop k) = if a.size < b.size then -1 else if b.size < a.size then 1 else 0 := by
  have la : (a.data.toList.drop k).length = a.size - k := by rw [List.length_drop, ← Lib.size_eq]
  have lb : (b.data.toList.drop k).length = b.size - k := by rw [List.length_drop, ← Lib.size_eq]
  generalize a.data.toList.drop k = x at *
  generalize b.data.toList.drop k = y at *
  cases x with
  | nil =>
    simp only [List.length_nil] at la
    cases y with
    | nil => simp only [List.length_nil] at lb; rw [if_neg (by omega), if_neg (by omega)]; rfl
    | cons c y => simp only [List.length_cons] at lb; rw [if_pos (by omega)]; rfl
  | cons c x =>
    simp only [List.length_cons] at la
    cases y with
    | nil => simp only [List.length_nil] at lb; rw [if_neg (by omega), if_pos (by omega)]; rfl
    | cons d y => simp only [List.length_cons] at lb; omega
theorem cmp_swap (a b : By) : Lib.compareBytes a b = - Lib.compareBytes b a := by
  induction a generalizing b with
  | nil => cases b <;> rfl
  | cons x a ih =>
    cases b with
    | nil => rfl
    | cons y b =>
      rw [Lib.compareBytes, Lib.compareBytes]
      by_cases h1 : x < y
      · have h2 : ¬ y < x := by rw [UInt8.lt_iff_toNat_lt] at *; omega
        simp [h1, h2]
      · by_cases h2 : y < x
        · simp [h1, h2]
        · simp [h1, h2, ih b]
set_option maxHeartbeats 1000000 in
theorem Texts_q (a b : ByteArray) (w : World) (ha : a.size ≤ maxLen) (hb : b.size ≤ maxLen) :
    Calls Tryz.prog 38 #[.string a, .string b] w fun e w' => e = .returned (.int .i64 (Lib.compareBytes a.data.toList b.data.toList)) ∧ ∃ n, w' = w.drewN n := by
  unfold maxLen at ha hb
  have ga := get_bt a
  have gb := get_bt b
  have hR : Lib.compareBytes a.data.toList b.data.toList = Lib.compareBytes (a.data.toList.drop 0) (b.data.toList.drop 0) := rfl
  generalize Lib.compareBytes a.data.toList b.data.toList = R at *
  have HR := Lib.hid hR
  clear hR
  go_enter Tryz.func38, Tryz.ntmps38
  go_wp2_with fail
  go_loopw [5] (fun i wr => ∃ k : Nat, k ≤ a.size ∧ k ≤ b.size ∧ i = .int .i64 k ∧ Hid (R = Lib.compareBytes (a.data.toList.drop k) (b.data.toList.drop k)) ∧ Hid (∃ n, wr = w.drewN n)) (fun i _ => a.size - (intOf i).toNat)
  case atStart => exact ⟨0, by omega, by omega, rfl, HR, Lib.hid ⟨0, rfl⟩⟩
  case round =>
    obtain ⟨k, hk1, hk2, rfl, HR2, hN⟩ := hrel
    clear HR
    by_cases h1 : k < a.size
    · by_cases h2 : k < b.size
      · have hs := cb_step a b k h1 h2
        have HS := Lib.hid hs
        have kk : (0 : Int) ≤ (k : Int) := by omega
        have kt : (k : Int).toNat = k := by simp
        clear hs
        by_cases hl : bt a k < bt b k
        · go_wp2_with fail
          go_quiet (fail)
          go_wp2_with fail
          go_returns
          obtain ⟨n, rfl⟩ := hN.out
          exact ⟨ret_int (by rw [HR2.out, HS.out, if_pos hl]), _, World.drewN_drewN _ _ _⟩
        · by_cases hg : bt b k < bt a k
          · go_wp2_with fail
            go_quiet (fail)
            go_wp2_with fail
            go_quiet (fail)
            go_wp2_with fail
            go_returns
            obtain ⟨n, rfl⟩ := hN.out
            exact ⟨ret_int (by rw [HR2.out, HS.out, if_neg (by omega), if_pos (by omega)]), _, by rw [World.drewN_drewN, World.drewN_drewN]⟩
          · go_wp2_with fail
            go_quiet (fail)
            go_wp2_with fail
            go_quiet (fail)
            go_wp2_with fail
            go_roundw
            case rel => exact ⟨k + 1, by omega, by omega, by go_num, Lib.hid (by rw [HR2.out, HS.out, if_neg (by omega), if_neg (by omega)]), by obtain ⟨n, hn⟩ := hN.out; exact Lib.hid ⟨_, by rw [hn]; first | rw [World.drewN_drewN, World.drewN_drewN] | rw [World.drewN_drewN]⟩⟩
            case measure => simp [intOf]; omega
      · have he := cb_end a b k hk1 hk2 (by omega)
        have HE := Lib.hid he
        clear he
        go_wp2_with fail
        all_goals go_returns
        all_goals obtain ⟨n, rfl⟩ := hN.out
        all_goals refine ⟨ret_int ?_, n, rfl⟩
        all_goals rw [HR2.out, HE.out]
        all_goals first | (rw [if_pos (by omega)]; done) | (rw [if_neg (by omega), if_pos (by omega)]; done) | (rw [if_neg (by omega), if_neg (by omega)]; done)
    · have he := cb_end a b k hk1 hk2 (by omega)
      have HE := Lib.hid he
      clear he
      go_wp2_with fail
      all_goals go_returns
      all_goals obtain ⟨n, rfl⟩ := hN.out
      all_goals refine ⟨ret_int ?_, n, rfl⟩
      all_goals rw [HR2.out, HE.out]
      all_goals first | (rw [if_pos (by omega)]; done) | (rw [if_neg (by omega), if_pos (by omega)]; done) | (rw [if_neg (by omega), if_neg (by omega)]; done)
end Go.Proofs.YtapdpdhibpblgaaGreatDoor.Nd
