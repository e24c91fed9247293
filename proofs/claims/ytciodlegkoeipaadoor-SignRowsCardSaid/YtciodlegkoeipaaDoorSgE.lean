import Derived.Test.YtciodlegkoeipaaDoorSgD

namespace Go.Proofs.YtciodlegkoeipaaDoor.Sg
open Go.ChangeShapes Go.WideShapes Go.ChangeAt Go.RowKit Go.PlainAid
set_option linter.unusedVariables false

theorem rd_size {s : ByteArray} (h : ¬ s.size = 9) : rd s = none := by unfold rd; rw [if_neg h]
set_option maxHeartbeats 400000 in
theorem Read_size (s : ByteArray) (w : World) (hm : s.size ≤ maxLen) (hs : ¬ s.size = 9) :
    Calls Tryd.prog 12 #[.string s] w fun e w' => e = .returned (.tuple #[.agg #[.int .i64 0, .int .i64 0, .string ⟨#[]⟩], .int .i64 3]) ∧ Below w.heap.size w w' := by
  unfold maxLen at hm
  have h9 : ((s.size : Int) == 9) = false := beq_eq_false_iff_ne.2 (by omega)
  have h9' : ((s.size : Int) != 9) = true := bne_iff_ne.2 (by omega)
  go_enter Tryd.func12, Tryd.ntmps12
  go_wp2_with fail
  go_returns
  refine ⟨rfl, ?_⟩
  go_grown
theorem Read_kind (s : ByteArray) (w : World) (hs : s.size = 9) (h1 : ¬ bt s 0 = 1) (h2 : ¬ bt s 0 = 2) :
    Calls Tryd.prog 12 #[.string s] w fun e w' => e = .returned (.tuple #[.agg #[.int .i64 0, .int .i64 0, .string ⟨#[]⟩], .int .i64 3]) ∧ Below w.heap.size w w' := by
  have h9 : ((s.size : Int) == 9) = true := beq_iff_eq.2 (by omega)
  have h9' : ((s.size : Int) != 9) = false := by rw [hs]; rfl
  have hb := get_bt s
  have ha : (bt s 0 == 1) = false := beq_eq_false_iff_ne.2 h1
  have hc : (bt s 0 == 2) = false := beq_eq_false_iff_ne.2 h2
  have hs1 : s.size ≤ 9 := by omega
  have hs2 : 9 ≤ s.size := by omega
  clear hs h1 h2
  go_enter Tryd.func12, Tryd.ntmps12
  go_wp2_with fail
  go_returns
  refine ⟨rfl, ?_⟩
  go_grown
theorem Read_num (s : ByteArray) (w : World) (hs : s.size = 9) (h1 : bt s 0 = 1) :
    Calls Tryd.prog 12 #[.string s] w fun e w' => e = .returned (.tuple #[.agg #[.int .i64 1, .int .i64 (numS (s.extract 1 s.size) 8 - 9223372036854775808), .string ⟨#[]⟩], .int .i64 0]) ∧ Below w.heap.size w w' := by
  have h9 : ((s.size : Int) == 9) = true := beq_iff_eq.2 (by omega)
  have h9' : ((s.size : Int) != 9) = false := by rw [hs]; rfl
  have hb := get_bt s
  have ha : (bt s 0 == 1) = true := beq_iff_eq.2 h1
  have hr := fun w => readNumber_any (s.extract 1 s.size) w (size_tail s hs)
  have hs1 : s.size ≤ 9 := by omega
  have hs2 : 9 ≤ s.size := by omega
  have H1 := Lib.hid h1
  generalize numS (s.extract 1 s.size) 8 - 9223372036854775808 = N at *
  have HR := Lib.hid hr
  clear hs h1 hr
  go_enter Tryd.func12, Tryd.ntmps12
  go_wp2_with fail
  refine (HR.out _).mono ?_
  rintro e w1 ⟨rfl, rfl⟩
  go_wp2_with fail
  go_returns
  refine ⟨rfl, ?_⟩
  go_grown
theorem Read_txt (s : ByteArray) (w : World) (hs : s.size = 9) (h1 : bt s 0 = 2) (v0 v1 v3 : Int) (v2 : ByteArray)
    (hr : ∀ w, Calls Tryd.prog 24 #[.string (s.extract 1 s.size)] w fun e w' => e = .returned (.tuple #[.agg #[.int .i64 v0, .int .i64 v1, .string v2], .int .i64 v3]) ∧ Below w.heap.size w w') :
    Calls Tryd.prog 12 #[.string s] w fun e w' => e = .returned (.tuple #[.agg #[.int .i64 v0, .int .i64 v1, .string v2], .int .i64 v3]) ∧ Below w.heap.size w w' := by
  have h9 : ((s.size : Int) == 9) = true := beq_iff_eq.2 (by omega)
  have h9' : ((s.size : Int) != 9) = false := by rw [hs]; rfl
  have hb := get_bt s
  have ha : (bt s 0 == 2) = true := beq_iff_eq.2 h1
  have ha2 : (bt s 0 == 1) = false := by rw [h1]; rfl
  have hs1 : s.size ≤ 9 := by omega
  have hs2 : 9 ≤ s.size := by omega
  have H1 := Lib.hid h1
  have HR := Lib.hid hr
  clear hs h1 hr
  go_enter Tryd.func12, Tryd.ntmps12
  go_wp2_with fail
  refine (HR.out _).mono ?_
  rintro e w1 ⟨rfl, hb1⟩
  obtain ⟨hc, hf⟩ := bcell hb1
  have c0 : w1.cell? ⟨w.heap.size, 0, none⟩ = some (.int .i64 0) := by rw [hc _ _ (by simp)]; go_simp
  have c1 : w1.cell? ⟨w.heap.size, 1, none⟩ = some (.int .i64 0) := by rw [hc _ _ (by simp)]; go_simp
  have c2 : w1.cell? ⟨w.heap.size, 2, none⟩ = some (.string ⟨#[]⟩) := by rw [hc _ _ (by simp)]; go_simp
  have f0 : ∀ o, w1.frozen? ⟨w.heap.size, o, none⟩ = false := by intro o; rw [hf _ _ (by simp)]; go_simp
  have hz1 := hb1.size
  simp at hz1
  clear hc hf
  go_wp2_with fail
  refine bodyPost_ret (v := .tuple #[.agg #[.int .i64 v0, .int .i64 v1, .string v2], .int .i64 v3]) (by simp [results, Tryd.results12, go_sem, c0, c1, c2]) rfl ⟨rfl, ?_⟩
  (repeat' (first | (with_reducible exact Below.refl _ _) | (with_reducible refine blN ?_ _) | (with_reducible refine Below.drew ?_) | (with_reducible refine blA ?_ _) | (with_reducible refine blC ?_ ?_ _) | (with_reducible refine bl ?_ (by assumption)) | (show _ ≤ _; first | omega | (simp; done) | (simp; omega))))

theorem Read_none (s : ByteArray) (w : World) (hm : s.size ≤ maxLen) (h : rd s = none) :
    Calls Tryd.prog 12 #[.string s] w fun e w' => e = .returned (.tuple #[.agg #[.int .i64 0, .int .i64 0, .string ⟨#[]⟩], .int .i64 3]) ∧ Below w.heap.size w w' := by
  by_cases h9 : s.size = 9
  · by_cases h1 : bt s 0 = 1
    · unfold rd at h; rw [if_pos h9, if_pos h1] at h; cases h
    · by_cases h2 : bt s 0 = 2
      · unfold rd at h; rw [if_pos h9, if_neg h1] at h
        have h3 : ¬ (bt s 0 = 2 ∧ bt s 8 ≤ 7 ∧ ∀ i, (bt s 8).toNat ≤ i → i < 7 → bt s (1 + i) = 0) := by
          intro h4; rw [if_pos h4] at h; cases h
        refine Read_txt s w h9 h2 0 0 3 ⟨#[]⟩ fun w => ?_
        have e7 : bt (s.extract 1 s.size) 7 = bt s 8 := bt_tail s 7
        by_cases h5 : bt s 8 ≤ 7
        · refine readText_bad _ w (size_tail s h9) (by rw [e7]; exact h5) ?_
          intro hz
          rw [zeros_iff _ _ (size_tail s h9), e7] at hz
          refine h3 ⟨h2, h5, fun i a b => ?_⟩
          rw [← bt_tail]; exact hz i a b
        · exact readText_long _ w (size_tail s h9) (by rw [e7]; omega)
      · exact Read_kind s w h9 h1 h2
  · exact Read_size s w hm h9
theorem Read_some (s : ByteArray) (w : World) (k n : Int) (t : ByteArray) (h : rd s = some (k, n, t)) :
    Calls Tryd.prog 12 #[.string s] w fun e w' => e = .returned (.tuple #[.agg #[.int .i64 k, .int .i64 n, .string t], .int .i64 0]) ∧ Below w.heap.size w w' := by
  unfold rd at h
  by_cases h9 : s.size = 9
  · rw [if_pos h9] at h
    by_cases h1 : bt s 0 = 1
    · rw [if_pos h1] at h; obtain ⟨rfl, rfl, rfl⟩ := Option.some.inj h
      exact Read_num s w h9 h1
    · rw [if_neg h1] at h
      by_cases h3 : bt s 0 = 2 ∧ bt s 8 ≤ 7 ∧ ∀ i, (bt s 8).toNat ≤ i → i < 7 → bt s (1 + i) = 0
      · rw [if_pos h3] at h; obtain ⟨rfl, rfl, rfl⟩ := Option.some.inj h
        obtain ⟨h2, h5, hz⟩ := h3
        have e7 : bt (s.extract 1 s.size) 7 = bt s 8 := bt_tail s 7
        have n8 := bt_nonneg s 8
        refine Read_txt s w h9 h2 2 0 0 _ fun w => ?_
        have := readText_good _ w (size_tail s h9) (by rw [e7]; exact h5) (by
          rw [zeros_iff _ _ (size_tail s h9), e7]
          intro i a b; rw [bt_tail]; exact hz i a b)
        rw [e7, txt_tail s _ h9 (by omega)] at this
        exact this
      · rw [if_neg h3] at h; cases h
  · rw [if_neg h9] at h; cases h
end Go.Proofs.YtciodlegkoeipaaDoor.Sg
