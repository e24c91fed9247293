import Derived.Test.YtciodlegkoeipaaDoorSgC
import Derived.Test.YtciodlegkoeipaaDoorShelf


namespace Go.Proofs.YtciodlegkoeipaaDoor.Sg
open Go.ChangeShapes Go.WideShapes Go.ChangeAt Go.RowKit Go.PlainAid
set_option linter.unusedVariables false

theorem dropWhile_zero (l : List UInt8) : (l.dropWhile (· == 0) = []) ↔ ∀ x ∈ l, x = 0 := by
  induction l with
  | nil => simp
  | cons a l ih =>
    by_cases h : a = 0
    · subst h; simp [ih]
    · rw [List.dropWhile_cons, if_neg (by simpa using h)]; simp [h]
theorem trimB_zero (l : List UInt8) : (Lib.trimB l 0 = []) ↔ ∀ x ∈ l, x = 0 := by
  unfold Lib.trimB Lib.trimLeftB Lib.trimRightB
  rw [dropWhile_zero]
  constructor
  · intro h
    have h2 : (l.reverse.dropWhile (· == 0)) = [] := by
      rw [← List.reverse_eq_nil_iff]
      generalize hm : (l.reverse.dropWhile (· == 0)).reverse = m at *
      cases m with
      | nil => rfl
      | cons a m' =>
        exfalso
        have hne : l.reverse.dropWhile (· == 0) ≠ [] := by intro e; rw [e] at hm; simp at hm
        have hd := List.head_dropWhile_not (fun x : UInt8 => x == 0) (l := l.reverse) hne
        have hmem : (l.reverse.dropWhile (· == 0)).head hne ∈ a :: m' := by rw [← hm]; simp
        rw [h _ hmem] at hd; simp at hd
    have := (dropWhile_zero l.reverse).1 h2
    intro x hx; exact this x (by simpa using hx)
  · intro h
    have : l.reverse.dropWhile (· == 0) = [] := (dropWhile_zero _).2 (by intro x hx; exact h x (by simpa using hx))
    rw [this]; simp

theorem Trim_zero (t : ByteArray) (w : World) (hs : t.size ≤ 9223372036854775807) (h : ∀ x ∈ t.data.toList, x = 0) :
    Calls Tryd.prog 28 #[.string t, .string ⟨#[0]⟩] w fun e w' => e = .returned (.string ⟨#[]⟩) ∧ Below w.heap.size w w' := by
  refine (Tryd.strings_Trim_one t 0 (by decide) w hs).mono ?_
  rintro e w' ⟨rfl, hw⟩
  rw [(trimB_zero _).2 h]
  refine ⟨rfl, ?_⟩
  rcases hw with rfl | rfl
  · exact Below.refl _ _
  · exact (Below.refl _ _).drew
theorem Trim_not (t : ByteArray) (w : World) (hs : t.size ≤ 9223372036854775807) (h : ¬ ∀ x ∈ t.data.toList, x = 0) :
    Calls Tryd.prog 28 #[.string t, .string ⟨#[0]⟩] w fun e w' => ∃ r : ByteArray, e = .returned (.string r) ∧ r.toList.isEmpty = false ∧ Below w.heap.size w w' := by
  refine (Tryd.strings_Trim_one t 0 (by decide) w hs).mono ?_
  rintro e w' ⟨rfl, hw⟩
  refine ⟨_, rfl, ?_, ?_⟩
  · rw [ByteArray.toList_eq]
    have := mt (trimB_zero t.data.toList).1 h
    simpa using this
  rcases hw with rfl | rfl
  · exact Below.refl _ _
  · exact (Below.refl _ _).drew

set_option maxHeartbeats 400000 in
theorem Clone_any (s : ByteArray) (w : World) (hs : s.size ≤ 281474976710656) :
    Calls Tryd.prog 29 #[.string s] w fun e w' => e = .returned (.string s) ∧ Below w.heap.size w w' := by
  go_enter Tryd.func29, Tryd.ntmps29
  go_wp2_with fail
  refine (Tryd.stringslite_Clone s _ hs).mono ?_
  rintro e w1 ⟨rfl, hb1⟩
  go_wp2_with fail
  go_returns
  exact ⟨rfl, hb1⟩

set_option maxHeartbeats 400000 in
theorem readText_long (s : ByteArray) (w : World) (hs : s.size = 8) (h : 7 < bt s 7) :
    Calls Tryd.prog 24 #[.string s] w fun e w' => e = .returned (.tuple #[.agg #[.int .i64 0, .int .i64 0, .string ⟨#[]⟩], .int .i64 3]) ∧ Below w.heap.size w w' := by
  have hb := get_bt s
  have hs1 : s.size ≤ 8 := by omega
  have hs2 : 8 ≤ s.size := by omega
  have h9 := bt_le s 7
  have HS := Lib.hid hs
  clear hs
  go_enter Tryd.func24, Tryd.ntmps24
  go_wp2_with fail
  go_quiet (fail)
  go_wp2_with fail
  go_returns
  refine ⟨rfl, ?_⟩
  (repeat' (first | (with_reducible exact Below.refl _ _) | (with_reducible refine blN ?_ _) | (with_reducible refine Below.drew ?_) | (with_reducible refine blA ?_ _) | (with_reducible refine blC ?_ ?_ _) | (with_reducible refine bl ?_ (by assumption)) | (show _ ≤ _; first | omega | (simp; done) | (simp; omega))))
theorem readText_bad (s : ByteArray) (w : World) (hs : s.size = 8) (h : bt s 7 ≤ 7) (hz : ¬ ∀ x ∈ ((s.extract 0 7).extract (bt s 7).toNat 7).data.toList, x = 0) :
    Calls Tryd.prog 24 #[.string s] w fun e w' => e = .returned (.tuple #[.agg #[.int .i64 0, .int .i64 0, .string ⟨#[]⟩], .int .i64 3]) ∧ Below w.heap.size w w' := by
  have hb := get_bt s
  have hs1 : s.size ≤ 8 := by omega
  have hs2 : 8 ≤ s.size := by omega
  have h9 := bt_nonneg s 7
  have hm : min 7 s.size = 7 := by omega
  have HM := Lib.hid hm
  have HS := Lib.hid hs
  have HZ := Lib.hid hz
  clear hs hm hz
  go_enter Tryd.func24, Tryd.ntmps24
  go_wp2_with fail
  go_quiet (fail)
  go_wp2_with fail
  rw [HM.out]
  refine (Trim_not _ _ ?_ HZ.out).mono ?_
  · simp [ByteArray.size_extract]; omega
  rintro e w1 ⟨r, rfl, hr, hb1⟩
  obtain ⟨hc, hf⟩ := bcell hb1
  have c0 : w1.cell? ⟨w.heap.size, 0, none⟩ = some (.int .i64 0) := by rw [hc _ _ (by simp)]; go_simp
  have c1 : w1.cell? ⟨w.heap.size, 1, none⟩ = some (.int .i64 0) := by rw [hc _ _ (by simp)]; go_simp
  have c2 : w1.cell? ⟨w.heap.size, 2, none⟩ = some (.string ⟨#[]⟩) := by rw [hc _ _ (by simp)]; go_simp
  have f0 : ∀ o, w1.frozen? ⟨w.heap.size, o, none⟩ = false := by intro o; rw [hf _ _ (by simp)]; go_simp
  have hz1 := hb1.size
  simp at hz1
  clear hc hf
  go_wp2_with fail
  refine bodyPost_ret (v := .tuple #[.agg #[.int .i64 0, .int .i64 0, .string ⟨#[]⟩], .int .i64 3]) (by simp [results, Tryd.results24, go_sem, c0, c1, c2]) rfl ⟨rfl, ?_⟩
  (repeat' (first | (with_reducible exact Below.refl _ _) | (with_reducible refine blN ?_ _) | (with_reducible refine Below.drew ?_) | (with_reducible refine blA ?_ _) | (with_reducible refine blC ?_ ?_ _) | (with_reducible refine bl ?_ (by assumption)) | (show _ ≤ _; first | omega | (simp; done) | (simp; omega))))
theorem readText_good (s : ByteArray) (w : World) (hs : s.size = 8) (h : bt s 7 ≤ 7) (hz : ∀ x ∈ ((s.extract 0 7).extract (bt s 7).toNat 7).data.toList, x = 0) :
    Calls Tryd.prog 24 #[.string s] w fun e w' => e = .returned (.tuple #[.agg #[.int .i64 2, .int .i64 0, .string ((s.extract 0 7).extract 0 (bt s 7).toNat)], .int .i64 0]) ∧ Below w.heap.size w w' := by
  have hb := get_bt s
  have hs1 : s.size ≤ 8 := by omega
  have hs2 : 8 ≤ s.size := by omega
  have h9 := bt_nonneg s 7
  have hm : min 7 s.size = 7 := by omega
  have HM := Lib.hid hm
  have HS := Lib.hid hs
  have HZ := Lib.hid hz
  clear hs hm hz
  go_enter Tryd.func24, Tryd.ntmps24
  go_wp2_with fail
  go_quiet (fail)
  go_wp2_with fail
  rw [HM.out]
  refine (Trim_zero _ _ ?_ HZ.out).mono ?_
  · simp [ByteArray.size_extract]; omega
  rintro e w1 ⟨rfl, hb1⟩
  obtain ⟨hc, hf⟩ := bcell hb1
  have c0 : w1.cell? ⟨w.heap.size, 0, none⟩ = some (.int .i64 0) := by rw [hc _ _ (by simp)]; go_simp
  have c1 : w1.cell? ⟨w.heap.size, 1, none⟩ = some (.int .i64 0) := by rw [hc _ _ (by simp)]; go_simp
  have c2 : w1.cell? ⟨w.heap.size, 2, none⟩ = some (.string ⟨#[]⟩) := by rw [hc _ _ (by simp)]; go_simp
  have f0 : ∀ o, w1.frozen? ⟨w.heap.size, o, none⟩ = false := by intro o; rw [hf _ _ (by simp)]; go_simp
  have hz1 := hb1.size
  simp at hz1
  clear hc hf
  go_wp2_with fail
  refine (Clone_any _ _ ?_).mono ?_
  · simp [ByteArray.size_extract]; omega
  rintro e w2 ⟨rfl, hb2⟩
  obtain ⟨hc, hf⟩ := bcell hb2
  have d0 : w2.cell? ⟨w.heap.size, 0, none⟩ = some (.int .i64 0) := by rw [hc _ _ (by omega)]; exact c0
  have d1 : w2.cell? ⟨w.heap.size, 1, none⟩ = some (.int .i64 0) := by rw [hc _ _ (by omega)]; exact c1
  have d2 : w2.cell? ⟨w.heap.size, 2, none⟩ = some (.string ⟨#[]⟩) := by rw [hc _ _ (by omega)]; exact c2
  have e0 : ∀ o, w2.frozen? ⟨w.heap.size, o, none⟩ = false := by intro o; rw [hf _ _ (by omega)]; exact f0 o
  have hz2 := hb2.size
  clear hc hf c0 c1 c2 f0
  go_wp2_with fail
  refine bodyPost_ret (v := .tuple #[.agg #[.int .i64 2, .int .i64 0, .string ((s.extract 0 7).extract 0 (bt s 7).toNat)], .int .i64 0]) (by simp [results, Tryd.results24, go_sem, d0, d1, d2]) rfl ⟨rfl, ?_⟩
  (repeat' (first | (with_reducible exact Below.refl _ _) | (with_reducible refine blN ?_ _) | (with_reducible refine Below.drew ?_) | (with_reducible refine blA ?_ _) | (with_reducible refine blC ?_ ?_ _) | (with_reducible refine bl ?_ (by assumption)) | (show _ ≤ _; first | omega | (simp; done) | (simp; omega))))
end Go.Proofs.YtciodlegkoeipaaDoor.Sg
