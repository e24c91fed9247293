import Derived.Test.YtfofkmampaaonaaDoorCrC
namespace Go.Proofs.YtfofkmampaaonaaDoor.Cr
open Go.ChangeShapes Go.WideShapes Go.ChangeAt Go.RowKit Go.PlainAid Aid
set_option linter.unusedVariables false
set_option linter.unusedSimpArgs false

theorem crc_nine : crc (⟨#[49, 50, 51, 52, 53, 54, 55, 56, 57]⟩ : ByteArray).data.toList = 3421780262#32 := by decide +kernel
theorem crc_none : crc (⟨#[]⟩ : ByteArray).data.toList = 0#32 := by decide +kernel
theorem tail_1234 : tailS 67305985#32 = ⟨#[1, 2, 3, 4]⟩ := by decide +kernel

set_option maxHeartbeats 400000 in
theorem awake_any (w : World) (ht : Tab w) :
    Calls Tryd.prog 6 #[] w fun e w' => e = .returned (.bool true) ∧ Below w.heap.size w w' := by
  have H0 := Lib.hid (fun w => Open_short ⟨#[]⟩ w (by decide))
  have C1 := fun w ht => Sum_any ⟨#[49, 50, 51, 52, 53, 54, 55, 56, 57]⟩ w (by decide) ht
  have C2 := fun w ht => Sum_any ⟨#[]⟩ w (by decide) ht
  have C3 := fun w => Tail_any 67305985#32 w
  rw [crc_nine] at C1
  rw [crc_none] at C2
  rw [tail_1234] at C3
  have H1 := Lib.hid C1
  have H2 := Lib.hid C2
  have H3 := Lib.hid C3
  have HT := Lib.hid ht
  clear C1 C2 C3 ht
  go_enter Tryd.func6, Tryd.ntmps6
  go_wp2_with fail
  refine (H0.out _).mono ?_
  rintro e w1 ⟨rfl, hb1⟩
  have T1 := Lib.hid (HT.out.keep hb1)
  go_wp2_with fail
  refine (H1.out _ T1.out).mono ?_
  rintro e w2 ⟨rfl, hb2⟩
  have T2 := Lib.hid (T1.out.keep hb2)
  go_wp2_with fail
  refine (H2.out _ T2.out).mono ?_
  rintro e w3 ⟨rfl, hb3⟩
  go_wp2_with fail
  refine (H3.out _).mono ?_
  rintro e w4 ⟨rfl, hb4⟩
  go_wp2_with fail
  go_returns
  exact ⟨rfl, bl (bl (bl hb1 hb2) hb3) hb4⟩

set_option maxHeartbeats 400000 in
theorem exact_long (s : ByteArray) (c : BitVec 32) (w : World) (ht : Tab w) (hs : s.size ≤ maxLen) (h : 1024 < s.size) :
    Calls Tryd.prog 3 #[.string s, .int .u32 c.toNat] w fun e w' => e = .returned (.bool true) ∧ Below w.heap.size w w' := by
  unfold maxLen at hs
  have H0 := Lib.hid (awake_any w ht)
  clear ht
  go_enter Tryd.func3, Tryd.ntmps3
  go_wp2_with fail
  refine H0.out.mono ?_
  rintro e w1 ⟨rfl, hb1⟩
  go_wp2_with fail
  go_returns
  exact ⟨rfl, hb1⟩
set_option maxHeartbeats 1000000 in
theorem exact_short (s : ByteArray) (c : BitVec 32) (w : World) (ht : Tab w) (h : s.size ≤ 1024) :
    Calls Tryd.prog 3 #[.string s, .int .u32 c.toNat] w fun e w' => e = .returned (.bool true) ∧ Below w.heap.size w w' := by
  have HT := Lib.hid ht
  clear ht
  have H0 := Lib.hid (fun w ht => awake_any w ht)
  have H1 := Lib.hid (fun w ht => Open_any s w (by omega) ht)
  have H2 := Lib.hid (fun w => refOpen_any s w (by omega))
  have H3 := Lib.hid (fun w ht => Sum_any s w (by unfold maxLen; omega) ht)
  have H4 := Lib.hid (fun w => refSum_any s w (by unfold maxLen; omega))
  have H5 := Lib.hid (fun w => Tail_any c w)
  have H6 := Lib.hid (fun w => refTail_any c w)
  have H7 := Lib.hid (fun w ht => Seal_any s w (by omega) ht)
  have H8 := Lib.hid (fun w => refTail_any (crc s.data.toList) w)
  have hz := tailS_size (crc s.data.toList)
  have he : sealS s = s ++ tailS (crc s.data.toList) := rfl
  generalize tailS (crc s.data.toList) = t at *
  have e1 : (s ++ t).size = s.size + t.size := ByteArray.size_append
  generalize tailS c = r at *
  generalize (c.toNat : Int) = cn at *
  obtain ⟨a, b, hv⟩ : ∃ a b, openV s = .tuple #[.string a, .bool b] := by
    unfold openV
    cases isSealed s
    · exact ⟨_, _, rfl⟩
    · exact ⟨_, _, rfl⟩
  rw [hv] at H1 H2
  clear hv
  have hz4 : t.size ≤ 4 := by omega
  rw [he] at H7
  clear he hz e1
  go_enter Tryd.func3, Tryd.ntmps3
  go_wp2_with fail
  refine (H0.out _ HT.out).mono ?_
  rintro e w1 ⟨rfl, hb1⟩
  have T1 := Lib.hid (HT.out.keep hb1)
  go_wp2_with fail
  refine (H1.out _ T1.out).mono ?_
  rintro e w2 ⟨rfl, hb2⟩
  have T2 := Lib.hid (T1.out.keep hb2)
  go_wp2_with fail
  refine (H2.out _).mono ?_
  rintro e w3 ⟨rfl, hb3⟩
  have T3 := Lib.hid (T2.out.keep hb3)
  go_wp2_with fail
  refine (H3.out _ T3.out).mono ?_
  rintro e w4 ⟨rfl, hb4⟩
  have T4 := Lib.hid (T3.out.keep hb4)
  go_wp2_with fail
  refine (H4.out _).mono ?_
  rintro e w5 ⟨rfl, hb5⟩
  have T5 := Lib.hid (T4.out.keep hb5)
  go_wp2_with fail
  refine (H5.out _).mono ?_
  rintro e w6 ⟨rfl, hb6⟩
  have T6 := Lib.hid (T5.out.keep hb6)
  go_wp2_with fail
  refine (H6.out _).mono ?_
  rintro e w7 ⟨rfl, hb7⟩
  have T7 := Lib.hid (T6.out.keep hb7)
  go_wp2_with fail
  refine (H7.out _ T7.out).mono ?_
  rintro e w8 ⟨rfl, hb8⟩
  go_wp2_with fail
  refine (H4.out _).mono ?_
  rintro e w9 ⟨rfl, hb9⟩
  go_wp2_with fail
  refine (H8.out _).mono ?_
  rintro e w10 ⟨rfl, hb10⟩
  go_wp2_with fail
  go_returns
  exact ⟨rfl, bl (bl (bl (bl (bl (bl (bl (bl (bl hb1 hb2) hb3) hb4) hb5) hb6) hb7) hb8) hb9) hb10⟩
end Go.Proofs.YtfofkmampaaonaaDoor.Cr
