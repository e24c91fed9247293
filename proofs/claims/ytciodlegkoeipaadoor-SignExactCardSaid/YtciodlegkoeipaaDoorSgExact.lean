import Derived.Test.YtciodlegkoeipaaDoorSgY
import Derived.Deep.RegionHeld3
namespace Go.Proofs.YtciodlegkoeipaaDoor.Sg
open Go.ChangeShapes Go.WideShapes Go.ChangeAt Go.RowKit Go.PlainAid
set_option linter.unusedVariables false
set_option linter.unusedSimpArgs false

theorem Two.drewN {W : World} {g : Nat} {k1 n1 : Int} {s1 : ByteArray} {k2 n2 : Int} {s2 : ByteArray} (h : Two W g k1 n1 s1 k2 n2 s2) (q : Nat) : Two (W.drewN q) g k1 n1 s1 k2 n2 s2 := h
theorem Two.allocs {W : World} {g : Nat} {k1 n1 : Int} {s1 : ByteArray} {k2 n2 : Int} {s2 : ByteArray} (h : Two W g k1 n1 s1 k2 n2 s2) (o : Obj) : Two (W.alloc o) g k1 n1 s1 k2 n2 s2 := h.keep ((Below.refl _ _).alloc (Nat.le_refl _) o)

set_option maxHeartbeats 400000 in
theorem exact_long (k1 n1 : Int) (s1 : ByteArray) (k2 n2 : Int) (s2 : ByteArray) (s : ByteArray) (w : World) (hs1 : s1.size ≤ maxLen) (hs2 : s2.size ≤ maxLen) (hs : s.size ≤ maxLen) (h : 100 < s.size ∨ 100 < s1.size ∨ 100 < s2.size) :
    Calls Tryd.prog 3 #[.agg #[.int .i64 k1, .int .i64 n1, .string s1], .agg #[.int .i64 k2, .int .i64 n2, .string s2], .string s] w fun e w' => e = .returned (.bool true) ∧ Below w.heap.size w w' := by
  unfold maxLen at hs1 hs2 hs
  have hc : 100 < s.size ∨ (s.size ≤ 100 ∧ 100 < s1.size) ∨ (s.size ≤ 100 ∧ s1.size ≤ 100 ∧ 100 < s2.size) := by omega
  clear h
  rcases hc with h | ⟨ha, h⟩ | ⟨ha, hb, h⟩
  all_goals
    go_enter Tryd.func3, Tryd.ntmps3
    go_wp2_with fail
    refine (awake_any _).mono ?_
    rintro e w1 ⟨rfl, hb1⟩
    have t1 : Two w1 w.heap.size k1 n1 s1 k2 n2 s2 := Two.keep (by unfold Two; simp) hb1
    obtain ⟨h0, h1, h2, h3, h4, h5, h6⟩ := t1
    go_wp2_with fail
    go_returns
    exact ⟨rfl, bl (blA (blA (Below.refl _ _) _) _) hb1⟩

set_option maxHeartbeats 2000000 in
theorem exact_yes_some (k1 n1 : Int) (s1 : ByteArray) (k2 n2 : Int) (s2 : ByteArray) (s : ByteArray) (w : World) (hs1 : s1.size ≤ 100) (hs2 : s2.size ≤ 100) (hs : s.size ≤ 100) (r1 : -9223372036854775808 ≤ n1 ∧ n1 ≤ 9223372036854775807) (hg : goodB k1 n1 s1 = true) (kr nr : Int) (tr : ByteArray) (hr : rd s = some (kr, nr, tr)) :
    Calls Tryd.prog 3 #[.agg #[.int .i64 k1, .int .i64 n1, .string s1], .agg #[.int .i64 k2, .int .i64 n2, .string s2], .string s] w fun e w' => e = .returned (.bool true) ∧ Below w.heap.size w w' := by
  have m1 : s1.size ≤ maxLen := by unfold maxLen; omega
  have m2 : s2.size ≤ maxLen := by unfold maxLen; omega
  have m3 : s.size ≤ maxLen := by unfold maxLen; omega
  have eG := fun w => refGood_any k1 n1 s1 w m1
  have eS := fun w => Good_any k1 n1 s1 w m1
  rw [hg] at eG eS
  have HG := Lib.hid eG
  have HS := Lib.hid eS
  clear eG eS
  have HC := Lib.hid (fun w => Code_yes k1 n1 s1 w m1 r1.1 r1.2 hg)
  have HD := Lib.hid (fun w => refCode_any k1 n1 s1 w m1 r1.1 r1.2 hg)
  have HR := Lib.hid (fun w => Read_some s w kr nr tr hr)
  have HQ := Lib.hid (fun w => refRead_any s w m3)
  rw [hr] at HQ
  unfold zeroT at HQ
  have HP := Lib.hid (fun w => Compare_any k1 n1 s1 k2 n2 s2 w m1 m2)
  have HP2 := Lib.hid (fun w => refCompare_any k1 n1 s1 k2 n2 s2 w m1 m2)
  have M1 := Lib.hid m1
  clear m1 m2 m3 hg hr
  generalize codeS k1 n1 s1 = cs at *
  generalize cmpA k1 n1 s1 k2 n2 s2 = cp at *
  go_enter Tryd.func3, Tryd.ntmps3
  go_wp2_with fail
  refine (awake_any _).mono ?_
  rintro e w1 ⟨rfl, hb1⟩
  have T1 := Lib.hid (show Two w1 w.heap.size k1 n1 s1 k2 n2 s2 from Two.keep (by unfold Two; simp) hb1)
  have B1 := Lib.hid (bl (blA (blA (Below.refl w.heap.size w) _) _) hb1)
  clear hb1
  obtain ⟨h0, h1, h2, h3, h4, h5, h6⟩ := T1.out
  go_wp2_with fail
  refine (HG.out _).mono ?_
  rintro e w2 ⟨rfl, hb2⟩
  clear h0 h1 h2 h3 h4 h5 h6
  have T2 := Lib.hid (T1.out.keep hb2)
  have B2 := Lib.hid (bl B1.out hb2)
  clear hb2
  obtain ⟨h0, h1, h2, h3, h4, h5, h6⟩ := T2.out
  go_wp2_with fail
  refine (HC.out _).mono ?_
  rintro e w3 ⟨rfl, hb3⟩
  clear h0 h1 h2 h3 h4 h5 h6
  have T3 := Lib.hid (T2.out.keep hb3)
  have B3 := Lib.hid (bl B2.out hb3)
  clear hb3
  obtain ⟨h0, h1, h2, h3, h4, h5, h6⟩ := T3.out
  go_wp2_with fail
  refine (HS.out _).mono ?_
  rintro e w4 ⟨rfl, hb4⟩
  clear h0 h1 h2 h3 h4 h5 h6
  have T4 := Lib.hid (T3.out.keep hb4)
  have B4 := Lib.hid (bl B3.out hb4)
  clear hb4
  obtain ⟨h0, h1, h2, h3, h4, h5, h6⟩ := T4.out
  go_wp2_with fail
  refine (HD.out _).mono ?_
  rintro e w5 ⟨rfl, hb5⟩
  clear h0 h1 h2 h3 h4 h5 h6
  have T5 := Lib.hid (T4.out.keep hb5)
  have B5 := Lib.hid (bl B4.out hb5)
  clear hb5
  obtain ⟨h0, h1, h2, h3, h4, h5, h6⟩ := T5.out
  go_wp2_with fail
  refine (HR.out _).mono ?_
  rintro e w6 ⟨rfl, hb6⟩
  clear h0 h1 h2 h3 h4 h5 h6
  have T6 := Lib.hid (T5.out.keep hb6)
  have B6 := Lib.hid (bl B5.out hb6)
  clear hb6
  obtain ⟨h0, h1, h2, h3, h4, h5, h6⟩ := T6.out
  go_wp2_with fail
  refine (HQ.out _).mono ?_
  rintro e w7 ⟨rfl, hb7⟩
  clear h0 h1 h2 h3 h4 h5 h6
  have y0 : w7.cell? ⟨w6.heap.size, 0, none⟩ = some (.int .i64 kr) := by rw [(bcell hb7).1 _ _ (by simp)]; go_simp
  have y1 : w7.cell? ⟨w6.heap.size, 1, none⟩ = some (.int .i64 nr) := by rw [(bcell hb7).1 _ _ (by simp)]; go_simp
  have y2 : w7.cell? ⟨w6.heap.size, 2, none⟩ = some (.string tr) := by rw [(bcell hb7).1 _ _ (by simp)]; go_simp
  have yl : w6.heap.size < w7.heap.size := by have := hb7.size; simp at this; omega
  have T7 := Lib.hid ((T6.out.allocs _).keep hb7)
  have B7 := Lib.hid (bl (blA B6.out _) hb7)
  clear hb7
  obtain ⟨h0, h1, h2, h3, h4, h5, h6⟩ := T7.out
  go_wp2_with fail
  have T8 := Lib.hid (T7.out.allocs (.cells #[.int .i64 kr, .int .i64 nr, .string tr] 23))
  have B8 := Lib.hid (blA B7.out (.cells #[.int .i64 kr, .int .i64 nr, .string tr] 23))
  clear h0 h1 h2 h3 h4 h5 h6 y0 y1 y2 yl
  generalize w7.alloc (.cells #[.int .i64 kr, .int .i64 nr, .string tr] 23) = wz at *
  obtain ⟨h0, h1, h2, h3, h4, h5, h6⟩ := T8.out
  have HB := Lib.hid B8.out.drew
  go_region_held3 (fun W => W.cell? ⟨w.heap.size, 0, none⟩ = some (.int .i64 k1) ∧ W.cell? ⟨w.heap.size, 1, none⟩ = some (.int .i64 n1) ∧ W.cell? ⟨w.heap.size, 2, none⟩ = some (.string s1) ∧ W.cell? ⟨w.heap.size + 1, 0, none⟩ = some (.int .i64 k2) ∧ W.cell? ⟨w.heap.size + 1, 1, none⟩ = some (.int .i64 n2) ∧ W.cell? ⟨w.heap.size + 1, 2, none⟩ = some (.string s2) ∧ w.heap.size + 1 < W.heap.size ∧ Hid (Below w.heap.size w W)) (first | exact ⟨h1, h2, h3, h4, h5, h6, h0, HB⟩ | exact ⟨t20.2.1, t20.2.2.1, t20.2.2.2.1, t20.2.2.2.2.1, t20.2.2.2.2.2.1, t20.2.2.2.2.2.2, t20.1, bl20⟩ | exact ⟨t21.2.1, t21.2.2.1, t21.2.2.2.1, t21.2.2.2.2.1, t21.2.2.2.2.2.1, t21.2.2.2.2.2.2, t21.1, bl21⟩)
    (first | (go_at_call 14; refine (HP.out _).mono ?_; rintro e w20 ⟨rfl, hb20⟩; have t20 : Two w20 w.heap.size k1 n1 s1 k2 n2 s2 := Two.keep ⟨by assumption, by assumption, by assumption, by assumption, by assumption, by assumption, by assumption⟩ hb20; have bl20 : Hid (Below w.heap.size w w20) := bl (by assumption) hb20) | (go_at_call 15; refine (HP2.out _).mono ?_; rintro e w21 ⟨rfl, hb21⟩; have t21 : Two w21 w.heap.size k1 n1 s1 k2 n2 s2 := t20.keep hb21; have bl21 : Hid (Below w.heap.size w w21) := bl bl20 hb21))
  go_wp2_with fail
  go_returns
  exact ⟨rfl, bl21⟩

set_option maxHeartbeats 2000000 in
theorem exact_yes_none (k1 n1 : Int) (s1 : ByteArray) (k2 n2 : Int) (s2 : ByteArray) (s : ByteArray) (w : World) (hs1 : s1.size ≤ 100) (hs2 : s2.size ≤ 100) (hs : s.size ≤ 100) (r1 : -9223372036854775808 ≤ n1 ∧ n1 ≤ 9223372036854775807) (hg : goodB k1 n1 s1 = true) (hr : rd s = none) :
    Calls Tryd.prog 3 #[.agg #[.int .i64 k1, .int .i64 n1, .string s1], .agg #[.int .i64 k2, .int .i64 n2, .string s2], .string s] w fun e w' => e = .returned (.bool true) ∧ Below w.heap.size w w' := by
  have m1 : s1.size ≤ maxLen := by unfold maxLen; omega
  have m2 : s2.size ≤ maxLen := by unfold maxLen; omega
  have m3 : s.size ≤ maxLen := by unfold maxLen; omega
  have eG := fun w => refGood_any k1 n1 s1 w m1
  have eS := fun w => Good_any k1 n1 s1 w m1
  rw [hg] at eG eS
  have HG := Lib.hid eG
  have HS := Lib.hid eS
  clear eG eS
  have HC := Lib.hid (fun w => Code_yes k1 n1 s1 w m1 r1.1 r1.2 hg)
  have HD := Lib.hid (fun w => refCode_any k1 n1 s1 w m1 r1.1 r1.2 hg)
  have HR := Lib.hid (fun w => Read_none s w m3 hr)
  have HQ := Lib.hid (fun w => refRead_any s w m3)
  rw [hr] at HQ
  unfold zeroT at HQ
  have HP := Lib.hid (fun w => Compare_any k1 n1 s1 k2 n2 s2 w m1 m2)
  have HP2 := Lib.hid (fun w => refCompare_any k1 n1 s1 k2 n2 s2 w m1 m2)
  have M1 := Lib.hid m1
  clear m1 m2 m3 hg hr
  generalize codeS k1 n1 s1 = cs at *
  generalize cmpA k1 n1 s1 k2 n2 s2 = cp at *
  go_enter Tryd.func3, Tryd.ntmps3
  go_wp2_with fail
  refine (awake_any _).mono ?_
  rintro e w1 ⟨rfl, hb1⟩
  have T1 := Lib.hid (show Two w1 w.heap.size k1 n1 s1 k2 n2 s2 from Two.keep (by unfold Two; simp) hb1)
  have B1 := Lib.hid (bl (blA (blA (Below.refl w.heap.size w) _) _) hb1)
  clear hb1
  obtain ⟨h0, h1, h2, h3, h4, h5, h6⟩ := T1.out
  go_wp2_with fail
  refine (HG.out _).mono ?_
  rintro e w2 ⟨rfl, hb2⟩
  clear h0 h1 h2 h3 h4 h5 h6
  have T2 := Lib.hid (T1.out.keep hb2)
  have B2 := Lib.hid (bl B1.out hb2)
  clear hb2
  obtain ⟨h0, h1, h2, h3, h4, h5, h6⟩ := T2.out
  go_wp2_with fail
  refine (HC.out _).mono ?_
  rintro e w3 ⟨rfl, hb3⟩
  clear h0 h1 h2 h3 h4 h5 h6
  have T3 := Lib.hid (T2.out.keep hb3)
  have B3 := Lib.hid (bl B2.out hb3)
  clear hb3
  obtain ⟨h0, h1, h2, h3, h4, h5, h6⟩ := T3.out
  go_wp2_with fail
  refine (HS.out _).mono ?_
  rintro e w4 ⟨rfl, hb4⟩
  clear h0 h1 h2 h3 h4 h5 h6
  have T4 := Lib.hid (T3.out.keep hb4)
  have B4 := Lib.hid (bl B3.out hb4)
  clear hb4
  obtain ⟨h0, h1, h2, h3, h4, h5, h6⟩ := T4.out
  go_wp2_with fail
  refine (HD.out _).mono ?_
  rintro e w5 ⟨rfl, hb5⟩
  clear h0 h1 h2 h3 h4 h5 h6
  have T5 := Lib.hid (T4.out.keep hb5)
  have B5 := Lib.hid (bl B4.out hb5)
  clear hb5
  obtain ⟨h0, h1, h2, h3, h4, h5, h6⟩ := T5.out
  go_wp2_with fail
  refine (HR.out _).mono ?_
  rintro e w6 ⟨rfl, hb6⟩
  clear h0 h1 h2 h3 h4 h5 h6
  have T6 := Lib.hid (T5.out.keep hb6)
  have B6 := Lib.hid (bl B5.out hb6)
  clear hb6
  obtain ⟨h0, h1, h2, h3, h4, h5, h6⟩ := T6.out
  go_wp2_with fail
  refine (HQ.out _).mono ?_
  rintro e w7 ⟨rfl, hb7⟩
  clear h0 h1 h2 h3 h4 h5 h6
  have y0 : w7.cell? ⟨w6.heap.size, 0, none⟩ = some (.int .i64 0) := by rw [(bcell hb7).1 _ _ (by simp)]; go_simp
  have y1 : w7.cell? ⟨w6.heap.size, 1, none⟩ = some (.int .i64 0) := by rw [(bcell hb7).1 _ _ (by simp)]; go_simp
  have y2 : w7.cell? ⟨w6.heap.size, 2, none⟩ = some (.string ⟨#[]⟩) := by rw [(bcell hb7).1 _ _ (by simp)]; go_simp
  have yl : w6.heap.size < w7.heap.size := by have := hb7.size; simp at this; omega
  have T7 := Lib.hid ((T6.out.allocs _).keep hb7)
  have B7 := Lib.hid (bl (blA B6.out _) hb7)
  clear hb7
  obtain ⟨h0, h1, h2, h3, h4, h5, h6⟩ := T7.out
  go_wp2_with fail
  have T8 := Lib.hid (T7.out.allocs (.cells #[.int .i64 0, .int .i64 0, .string ⟨#[]⟩] 23))
  have B8 := Lib.hid (blA B7.out (.cells #[.int .i64 0, .int .i64 0, .string ⟨#[]⟩] 23))
  clear h0 h1 h2 h3 h4 h5 h6 y0 y1 y2 yl
  generalize w7.alloc (.cells #[.int .i64 0, .int .i64 0, .string ⟨#[]⟩] 23) = wz at *
  obtain ⟨h0, h1, h2, h3, h4, h5, h6⟩ := T8.out
  have HB := Lib.hid B8.out.drew
  go_region_held3 (fun W => W.cell? ⟨w.heap.size, 0, none⟩ = some (.int .i64 k1) ∧ W.cell? ⟨w.heap.size, 1, none⟩ = some (.int .i64 n1) ∧ W.cell? ⟨w.heap.size, 2, none⟩ = some (.string s1) ∧ W.cell? ⟨w.heap.size + 1, 0, none⟩ = some (.int .i64 k2) ∧ W.cell? ⟨w.heap.size + 1, 1, none⟩ = some (.int .i64 n2) ∧ W.cell? ⟨w.heap.size + 1, 2, none⟩ = some (.string s2) ∧ w.heap.size + 1 < W.heap.size ∧ Hid (Below w.heap.size w W)) (first | exact ⟨h1, h2, h3, h4, h5, h6, h0, HB⟩ | exact ⟨t20.2.1, t20.2.2.1, t20.2.2.2.1, t20.2.2.2.2.1, t20.2.2.2.2.2.1, t20.2.2.2.2.2.2, t20.1, bl20⟩ | exact ⟨t21.2.1, t21.2.2.1, t21.2.2.2.1, t21.2.2.2.2.1, t21.2.2.2.2.2.1, t21.2.2.2.2.2.2, t21.1, bl21⟩)
    (first | (go_at_call 14; refine (HP.out _).mono ?_; rintro e w20 ⟨rfl, hb20⟩; have t20 : Two w20 w.heap.size k1 n1 s1 k2 n2 s2 := Two.keep ⟨by assumption, by assumption, by assumption, by assumption, by assumption, by assumption, by assumption⟩ hb20; have bl20 : Hid (Below w.heap.size w w20) := bl (by assumption) hb20) | (go_at_call 15; refine (HP2.out _).mono ?_; rintro e w21 ⟨rfl, hb21⟩; have t21 : Two w21 w.heap.size k1 n1 s1 k2 n2 s2 := t20.keep hb21; have bl21 : Hid (Below w.heap.size w w21) := bl bl20 hb21))
  go_wp2_with fail
  go_returns
  exact ⟨rfl, bl21⟩

set_option maxHeartbeats 2000000 in
theorem exact_no_some (k1 n1 : Int) (s1 : ByteArray) (k2 n2 : Int) (s2 : ByteArray) (s : ByteArray) (w : World) (hs1 : s1.size ≤ 100) (hs2 : s2.size ≤ 100) (hs : s.size ≤ 100) (r1 : -9223372036854775808 ≤ n1 ∧ n1 ≤ 9223372036854775807) (hg : goodB k1 n1 s1 = false) (kr nr : Int) (tr : ByteArray) (hr : rd s = some (kr, nr, tr)) :
    Calls Tryd.prog 3 #[.agg #[.int .i64 k1, .int .i64 n1, .string s1], .agg #[.int .i64 k2, .int .i64 n2, .string s2], .string s] w fun e w' => e = .returned (.bool true) ∧ Below w.heap.size w w' := by
  have m1 : s1.size ≤ maxLen := by unfold maxLen; omega
  have m2 : s2.size ≤ maxLen := by unfold maxLen; omega
  have m3 : s.size ≤ maxLen := by unfold maxLen; omega
  have eG := fun w => refGood_any k1 n1 s1 w m1
  have eS := fun w => Good_any k1 n1 s1 w m1
  rw [hg] at eG eS
  have HG := Lib.hid eG
  have HS := Lib.hid eS
  clear eG eS
  have HC := Lib.hid (fun w => Code_no k1 n1 s1 w m1 hg)
  have HR := Lib.hid (fun w => Read_some s w kr nr tr hr)
  have HQ := Lib.hid (fun w => refRead_any s w m3)
  rw [hr] at HQ
  unfold zeroT at HQ
  have HP := Lib.hid (fun w => Compare_any k1 n1 s1 k2 n2 s2 w m1 m2)
  have HP2 := Lib.hid (fun w => refCompare_any k1 n1 s1 k2 n2 s2 w m1 m2)
  have M1 := Lib.hid m1
  clear m1 m2 m3 hg hr
  generalize cmpA k1 n1 s1 k2 n2 s2 = cp at *
  go_enter Tryd.func3, Tryd.ntmps3
  go_wp2_with fail
  refine (awake_any _).mono ?_
  rintro e w1 ⟨rfl, hb1⟩
  have T1 := Lib.hid (show Two w1 w.heap.size k1 n1 s1 k2 n2 s2 from Two.keep (by unfold Two; simp) hb1)
  have B1 := Lib.hid (bl (blA (blA (Below.refl w.heap.size w) _) _) hb1)
  clear hb1
  obtain ⟨h0, h1, h2, h3, h4, h5, h6⟩ := T1.out
  go_wp2_with fail
  refine (HG.out _).mono ?_
  rintro e w2 ⟨rfl, hb2⟩
  clear h0 h1 h2 h3 h4 h5 h6
  have T2 := Lib.hid (T1.out.keep hb2)
  have B2 := Lib.hid (bl B1.out hb2)
  clear hb2
  obtain ⟨h0, h1, h2, h3, h4, h5, h6⟩ := T2.out
  go_wp2_with fail
  refine (HC.out _).mono ?_
  rintro e w3 ⟨rfl, hb3⟩
  clear h0 h1 h2 h3 h4 h5 h6
  have T3 := Lib.hid (T2.out.keep hb3)
  have B3 := Lib.hid (bl B2.out hb3)
  clear hb3
  obtain ⟨h0, h1, h2, h3, h4, h5, h6⟩ := T3.out
  go_wp2_with fail
  refine (HS.out _).mono ?_
  rintro e w4 ⟨rfl, hb4⟩
  clear h0 h1 h2 h3 h4 h5 h6
  have T4 := Lib.hid (T3.out.keep hb4)
  have B4 := Lib.hid (bl B3.out hb4)
  clear hb4
  obtain ⟨h0, h1, h2, h3, h4, h5, h6⟩ := T4.out
  go_wp2_with fail
  refine (HR.out _).mono ?_
  rintro e w5 ⟨rfl, hb5⟩
  clear h0 h1 h2 h3 h4 h5 h6
  have T5 := Lib.hid (T4.out.keep hb5)
  have B5 := Lib.hid (bl B4.out hb5)
  clear hb5
  obtain ⟨h0, h1, h2, h3, h4, h5, h6⟩ := T5.out
  go_wp2_with fail
  refine (HQ.out _).mono ?_
  rintro e w6 ⟨rfl, hb6⟩
  clear h0 h1 h2 h3 h4 h5 h6
  have y0 : w6.cell? ⟨w5.heap.size, 0, none⟩ = some (.int .i64 kr) := by rw [(bcell hb6).1 _ _ (by simp)]; go_simp
  have y1 : w6.cell? ⟨w5.heap.size, 1, none⟩ = some (.int .i64 nr) := by rw [(bcell hb6).1 _ _ (by simp)]; go_simp
  have y2 : w6.cell? ⟨w5.heap.size, 2, none⟩ = some (.string tr) := by rw [(bcell hb6).1 _ _ (by simp)]; go_simp
  have yl : w5.heap.size < w6.heap.size := by have := hb6.size; simp at this; omega
  have T6 := Lib.hid ((T5.out.allocs _).keep hb6)
  have B6 := Lib.hid (bl (blA B5.out _) hb6)
  clear hb6
  obtain ⟨h0, h1, h2, h3, h4, h5, h6⟩ := T6.out
  go_wp2_with fail
  have T8 := Lib.hid (T6.out.allocs (.cells #[.int .i64 kr, .int .i64 nr, .string tr] 23))
  have B8 := Lib.hid (blA B6.out (.cells #[.int .i64 kr, .int .i64 nr, .string tr] 23))
  clear h0 h1 h2 h3 h4 h5 h6 y0 y1 y2 yl
  generalize w6.alloc (.cells #[.int .i64 kr, .int .i64 nr, .string tr] 23) = wz at *
  obtain ⟨h0, h1, h2, h3, h4, h5, h6⟩ := T8.out
  have HB := Lib.hid B8.out.drew
  go_region_held3 (fun W => W.cell? ⟨w.heap.size, 0, none⟩ = some (.int .i64 k1) ∧ W.cell? ⟨w.heap.size, 1, none⟩ = some (.int .i64 n1) ∧ W.cell? ⟨w.heap.size, 2, none⟩ = some (.string s1) ∧ W.cell? ⟨w.heap.size + 1, 0, none⟩ = some (.int .i64 k2) ∧ W.cell? ⟨w.heap.size + 1, 1, none⟩ = some (.int .i64 n2) ∧ W.cell? ⟨w.heap.size + 1, 2, none⟩ = some (.string s2) ∧ w.heap.size + 1 < W.heap.size ∧ Hid (Below w.heap.size w W)) (first | exact ⟨h1, h2, h3, h4, h5, h6, h0, HB⟩ | exact ⟨t20.2.1, t20.2.2.1, t20.2.2.2.1, t20.2.2.2.2.1, t20.2.2.2.2.2.1, t20.2.2.2.2.2.2, t20.1, bl20⟩ | exact ⟨t21.2.1, t21.2.2.1, t21.2.2.2.1, t21.2.2.2.2.1, t21.2.2.2.2.2.1, t21.2.2.2.2.2.2, t21.1, bl21⟩)
    (first | (go_at_call 14; refine (HP.out _).mono ?_; rintro e w20 ⟨rfl, hb20⟩; have t20 : Two w20 w.heap.size k1 n1 s1 k2 n2 s2 := Two.keep ⟨by assumption, by assumption, by assumption, by assumption, by assumption, by assumption, by assumption⟩ hb20; have bl20 : Hid (Below w.heap.size w w20) := bl (by assumption) hb20) | (go_at_call 15; refine (HP2.out _).mono ?_; rintro e w21 ⟨rfl, hb21⟩; have t21 : Two w21 w.heap.size k1 n1 s1 k2 n2 s2 := t20.keep hb21; have bl21 : Hid (Below w.heap.size w w21) := bl bl20 hb21))
  go_wp2_with fail
  go_returns
  exact ⟨rfl, bl21⟩

set_option maxHeartbeats 2000000 in
theorem exact_no_none (k1 n1 : Int) (s1 : ByteArray) (k2 n2 : Int) (s2 : ByteArray) (s : ByteArray) (w : World) (hs1 : s1.size ≤ 100) (hs2 : s2.size ≤ 100) (hs : s.size ≤ 100) (r1 : -9223372036854775808 ≤ n1 ∧ n1 ≤ 9223372036854775807) (hg : goodB k1 n1 s1 = false) (hr : rd s = none) :
    Calls Tryd.prog 3 #[.agg #[.int .i64 k1, .int .i64 n1, .string s1], .agg #[.int .i64 k2, .int .i64 n2, .string s2], .string s] w fun e w' => e = .returned (.bool true) ∧ Below w.heap.size w w' := by
  have m1 : s1.size ≤ maxLen := by unfold maxLen; omega
  have m2 : s2.size ≤ maxLen := by unfold maxLen; omega
  have m3 : s.size ≤ maxLen := by unfold maxLen; omega
  have eG := fun w => refGood_any k1 n1 s1 w m1
  have eS := fun w => Good_any k1 n1 s1 w m1
  rw [hg] at eG eS
  have HG := Lib.hid eG
  have HS := Lib.hid eS
  clear eG eS
  have HC := Lib.hid (fun w => Code_no k1 n1 s1 w m1 hg)
  have HR := Lib.hid (fun w => Read_none s w m3 hr)
  have HQ := Lib.hid (fun w => refRead_any s w m3)
  rw [hr] at HQ
  unfold zeroT at HQ
  have HP := Lib.hid (fun w => Compare_any k1 n1 s1 k2 n2 s2 w m1 m2)
  have HP2 := Lib.hid (fun w => refCompare_any k1 n1 s1 k2 n2 s2 w m1 m2)
  have M1 := Lib.hid m1
  clear m1 m2 m3 hg hr
  generalize cmpA k1 n1 s1 k2 n2 s2 = cp at *
  go_enter Tryd.func3, Tryd.ntmps3
  go_wp2_with fail
  refine (awake_any _).mono ?_
  rintro e w1 ⟨rfl, hb1⟩
  have T1 := Lib.hid (show Two w1 w.heap.size k1 n1 s1 k2 n2 s2 from Two.keep (by unfold Two; simp) hb1)
  have B1 := Lib.hid (bl (blA (blA (Below.refl w.heap.size w) _) _) hb1)
  clear hb1
  obtain ⟨h0, h1, h2, h3, h4, h5, h6⟩ := T1.out
  go_wp2_with fail
  refine (HG.out _).mono ?_
  rintro e w2 ⟨rfl, hb2⟩
  clear h0 h1 h2 h3 h4 h5 h6
  have T2 := Lib.hid (T1.out.keep hb2)
  have B2 := Lib.hid (bl B1.out hb2)
  clear hb2
  obtain ⟨h0, h1, h2, h3, h4, h5, h6⟩ := T2.out
  go_wp2_with fail
  refine (HC.out _).mono ?_
  rintro e w3 ⟨rfl, hb3⟩
  clear h0 h1 h2 h3 h4 h5 h6
  have T3 := Lib.hid (T2.out.keep hb3)
  have B3 := Lib.hid (bl B2.out hb3)
  clear hb3
  obtain ⟨h0, h1, h2, h3, h4, h5, h6⟩ := T3.out
  go_wp2_with fail
  refine (HS.out _).mono ?_
  rintro e w4 ⟨rfl, hb4⟩
  clear h0 h1 h2 h3 h4 h5 h6
  have T4 := Lib.hid (T3.out.keep hb4)
  have B4 := Lib.hid (bl B3.out hb4)
  clear hb4
  obtain ⟨h0, h1, h2, h3, h4, h5, h6⟩ := T4.out
  go_wp2_with fail
  refine (HR.out _).mono ?_
  rintro e w5 ⟨rfl, hb5⟩
  clear h0 h1 h2 h3 h4 h5 h6
  have T5 := Lib.hid (T4.out.keep hb5)
  have B5 := Lib.hid (bl B4.out hb5)
  clear hb5
  obtain ⟨h0, h1, h2, h3, h4, h5, h6⟩ := T5.out
  go_wp2_with fail
  refine (HQ.out _).mono ?_
  rintro e w6 ⟨rfl, hb6⟩
  clear h0 h1 h2 h3 h4 h5 h6
  have y0 : w6.cell? ⟨w5.heap.size, 0, none⟩ = some (.int .i64 0) := by rw [(bcell hb6).1 _ _ (by simp)]; go_simp
  have y1 : w6.cell? ⟨w5.heap.size, 1, none⟩ = some (.int .i64 0) := by rw [(bcell hb6).1 _ _ (by simp)]; go_simp
  have y2 : w6.cell? ⟨w5.heap.size, 2, none⟩ = some (.string ⟨#[]⟩) := by rw [(bcell hb6).1 _ _ (by simp)]; go_simp
  have yl : w5.heap.size < w6.heap.size := by have := hb6.size; simp at this; omega
  have T6 := Lib.hid ((T5.out.allocs _).keep hb6)
  have B6 := Lib.hid (bl (blA B5.out _) hb6)
  clear hb6
  obtain ⟨h0, h1, h2, h3, h4, h5, h6⟩ := T6.out
  go_wp2_with fail
  have T8 := Lib.hid (T6.out.allocs (.cells #[.int .i64 0, .int .i64 0, .string ⟨#[]⟩] 23))
  have B8 := Lib.hid (blA B6.out (.cells #[.int .i64 0, .int .i64 0, .string ⟨#[]⟩] 23))
  clear h0 h1 h2 h3 h4 h5 h6 y0 y1 y2 yl
  generalize w6.alloc (.cells #[.int .i64 0, .int .i64 0, .string ⟨#[]⟩] 23) = wz at *
  obtain ⟨h0, h1, h2, h3, h4, h5, h6⟩ := T8.out
  have HB := Lib.hid B8.out.drew
  go_region_held3 (fun W => W.cell? ⟨w.heap.size, 0, none⟩ = some (.int .i64 k1) ∧ W.cell? ⟨w.heap.size, 1, none⟩ = some (.int .i64 n1) ∧ W.cell? ⟨w.heap.size, 2, none⟩ = some (.string s1) ∧ W.cell? ⟨w.heap.size + 1, 0, none⟩ = some (.int .i64 k2) ∧ W.cell? ⟨w.heap.size + 1, 1, none⟩ = some (.int .i64 n2) ∧ W.cell? ⟨w.heap.size + 1, 2, none⟩ = some (.string s2) ∧ w.heap.size + 1 < W.heap.size ∧ Hid (Below w.heap.size w W)) (first | exact ⟨h1, h2, h3, h4, h5, h6, h0, HB⟩ | exact ⟨t20.2.1, t20.2.2.1, t20.2.2.2.1, t20.2.2.2.2.1, t20.2.2.2.2.2.1, t20.2.2.2.2.2.2, t20.1, bl20⟩ | exact ⟨t21.2.1, t21.2.2.1, t21.2.2.2.1, t21.2.2.2.2.1, t21.2.2.2.2.2.1, t21.2.2.2.2.2.2, t21.1, bl21⟩)
    (first | (go_at_call 14; refine (HP.out _).mono ?_; rintro e w20 ⟨rfl, hb20⟩; have t20 : Two w20 w.heap.size k1 n1 s1 k2 n2 s2 := Two.keep ⟨by assumption, by assumption, by assumption, by assumption, by assumption, by assumption, by assumption⟩ hb20; have bl20 : Hid (Below w.heap.size w w20) := bl (by assumption) hb20) | (go_at_call 15; refine (HP2.out _).mono ?_; rintro e w21 ⟨rfl, hb21⟩; have t21 : Two w21 w.heap.size k1 n1 s1 k2 n2 s2 := t20.keep hb21; have bl21 : Hid (Below w.heap.size w w21) := bl bl20 hb21))
  go_wp2_with fail
  go_returns
  exact ⟨rfl, bl21⟩
end Go.Proofs.YtciodlegkoeipaaDoor.Sg
