import Derived.Test.YtfophlddijblmaaMnC
namespace Go.Proofs.Ytfophlddijblmaa.Mn
open Go.ChangeShapes Go.WideShapes Go.ChangeAt Go.RowKit Go.PlainAid Aid
set_option linter.unusedVariables false
set_option linter.unusedSimpArgs false

set_option maxHeartbeats 400000 in
theorem twice_any (n : Int) (off : Bool) (w : World) (n0 : -9223372036854775808 ≤ n) (n1 : n ≤ 9223372036854775807) :
    Calls Try.prog 5 #[.int .i64 n, .bool off] w fun e w' => e = .returned (.bool true) ∧ Below w.heap.size w w' := by
  obtain ⟨K, hK, hK1⟩ := mod_u n 50 (by decide) (by decide)
  go_enter Try.func5, Try.ntmps5
  go_wp2_with fail
  refine (awake_any _).mono ?_
  rintro e w1 ⟨rfl, hb1⟩
  have B1 := Lib.hid hb1
  clear hb1
  go_wp2_with fail
  refine (New_any _).mono ?_
  rintro e w2 ⟨rfl, hm2, hb2⟩
  have B2 := Lib.hid (bl B1.out hb2)
  have HG := Lib.hid (show w.heap.size ≤ w1.heap.size from B1.out.size)
  clear hb2
  generalize w1.heap.size = g at hm2 HG ⊢
  have H2 := Lib.hid hm2
  clear hm2 B1
  go_wp2_with fail
  rw [hK]
  clear hK
  go_loopw [7] (fun i wr => ∃ k : Nat, k ≤ K ∧ i = .int .i64 k ∧ Hid (Mn wr g ⟨true, -1, (k : Int) + 1⟩) ∧ Hid (Below w.heap.size w wr)) (fun i _ => K - (intOf i).toNat)
  case atStart => exact ⟨0, Nat.zero_le _, rfl, H2, B2⟩
  case round =>
    clear H2 B2
    obtain ⟨k, hk, rfl, hM, hB⟩ := hrel
    by_cases hlt : k < K
    · have e1 : (Pw.mk false (-1) ((k : Int) + 1)).come = ⟨true, -1, (k : Int) + 2⟩ := by
        show Pw.mk true (-1) (wrap64 ((k : Int) + 1 + 1)) = _
        rw [show wrap64 ((k : Int) + 1 + 1) = (k : Int) + 2 by unfold wrap64; omega]
      have HE := Lib.hid e1
      clear e1
      go_wp2_with fail
      refine (Off_any _ _ _ hM.out).mono ?_
      rintro e w3 ⟨rfl, hm3, hb3⟩
      have H3 : Hid (Mn w3 g ⟨false, -1, (k : Int) + 1⟩) := hm3
      have B3 := Lib.hid (bl1 hB.out hb3 hB.out.size HG.out)
      clear hm3 hb3
      cases off
      all_goals
        go_wp2_with fail
        first
          | (refine (Off_any _ _ _ H3.out).mono ?_
             rintro e w4 ⟨rfl, hm4, hb4⟩
             have H4 : Hid (Mn w4 g ⟨false, -1, (k : Int) + 1⟩) := hm4
             have B4 := Lib.hid (bl1 B3.out hb4 B3.out.size HG.out)
             clear hm4 hb4 H3 B3
             go_wp2_with fail)
          | (have H4 := H3
             have B4 := B3
             clear H3 B3
             obtain ⟨w4, rfl⟩ : ∃ w4 : World, w4 = w3 := ⟨_, rfl⟩)
        refine (IsOn_any _ _ _ H4.out).mono ?_
        rintro e w' ⟨rfl, rfl⟩
        go_wp2_with fail
        refine (Use_as _ _ _ H4.out 4 ⟨false, -1, (k : Int) + 1⟩ rfl rfl).mono ?_
        rintro e w5 ⟨rfl, hm5, hb5⟩
        have H5 := Lib.hid hm5
        have B5 := Lib.hid (bl1 B4.out hb5 B4.out.size HG.out)
        clear hm5 hb5 H4 B4
        go_wp2_with fail
        refine (On_as _ _ _ H5.out _ HE.out).mono ?_
        rintro e w6 ⟨rfl, hm6, hb6⟩
        have H6 := Lib.hid hm6
        have B6 := Lib.hid (bl1 B5.out hb6 B5.out.size HG.out)
        clear hm6 hb6 H5 B5
        go_wp2_with fail
        refine (On_as _ _ _ H6.out _ rfl).mono ?_
        rintro e w7 ⟨rfl, hm7, hb7⟩
        have H7 : Hid (Mn w7 g ⟨true, -1, (k : Int) + 2⟩) := hm7
        have B7 := Lib.hid (bl1 B6.out hb7 B6.out.size HG.out)
        clear hm7 hb7 H6 B6
        go_wp2_with fail
        refine (IsOn_any _ _ _ H7.out).mono ?_
        rintro e w' ⟨rfl, rfl⟩
        go_wp2_with fail
        refine (Boots_any _ _ _ H7.out).mono ?_
        rintro e w' ⟨rfl, rfl⟩
        go_wp2_with fail
        go_roundw
        case rel => exact ⟨k + 1, by omega, by go_num, by rw [show (((k + 1 : Nat) : Int) + 1) = (k : Int) + 2 by omega]; exact H7, B7⟩
        case measure => simp [intOf]; omega
    · go_wp2_with fail
      refine (Use_as _ _ _ hM.out 0 ⟨true, -1, (k : Int) + 1⟩ rfl rfl).mono ?_
      rintro e w5 ⟨rfl, hm5, hb5⟩
      have B5 := Lib.hid (bl1 hB.out hb5 hB.out.size HG.out)
      go_wp2_with fail
      go_returns
      exact ⟨rfl, B5.out⟩
end Go.Proofs.Ytfophlddijblmaa.Mn
