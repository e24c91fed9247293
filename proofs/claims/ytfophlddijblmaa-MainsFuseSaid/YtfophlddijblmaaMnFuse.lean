import Derived.Test.YtfophlddijblmaaMnC
namespace Go.Proofs.Ytfophlddijblmaa.Mn
open Go.ChangeShapes Go.WideShapes Go.ChangeAt Go.RowKit Go.PlainAid Aid
set_option linter.unusedVariables false
set_option linter.unusedSimpArgs false

theorem come_two : (Pw.mk false 0 1).come = ⟨true, -1, 2⟩ := by simp [Pw.come, wrap64]
theorem use_zero (o : Bool) (b : Int) : (Pw.mk o 0 b).use = ⟨false, 0, b⟩ ∧ (Pw.mk o 0 b).ans = 4 := ⟨rfl, rfl⟩
theorem use_down (f b : Int) (h : 0 < f) : (Pw.mk true f b).use = ⟨true, f - 1, b⟩ ∧ (Pw.mk true f b).ans = 0 := by
  have : ¬ f = 0 := by omega
  simp [Pw.use, Pw.ans, this, h]

set_option maxHeartbeats 1000000 in
theorem fuse_any (n more : Int) (w : World) :
    Calls Try.prog 4 #[.int .i64 n, .int .i64 more] w fun e w' => e = .returned (.bool true) ∧ Below w.heap.size w w' := by
  obtain ⟨K, hK, hK1⟩ := mod_u n 100 (by decide) (by decide)
  obtain ⟨J, hJ, hJ1⟩ := mod_u more 10 (by decide) (by decide)
  have HJ := Lib.hid hJ
  clear hJ
  go_enter Try.func4, Try.ntmps4
  go_wp2_with fail
  refine (awake_any _).mono ?_
  rintro e w1 ⟨rfl, hb1⟩
  have B1 := Lib.hid hb1
  clear hb1
  go_wp2_with fail
  refine (New_any _).mono ?_
  rintro e w2 ⟨rfl, hm2, hb2⟩
  have B2 := Lib.hid (bl B1.out hb2)
  have HG := Lib.hid (show w.heap.size ≤ w1.heap.size from B1.out.size)
  clear hb2
  generalize w1.heap.size = g at hm2 HG ⊢
  have H2 := Lib.hid hm2
  clear hm2 B1
  go_wp2_with fail
  rw [hK]
  clear hK
  refine (Fuse_any _ _ _ _ H2.out (by omega) (by omega)).mono ?_
  rintro e w3 ⟨rfl, hm3, hb3⟩
  have H3 : Hid (Mn w3 g ⟨true, (K : Int), 1⟩) := hm3
  have B3 := Lib.hid (bl1 B2.out hb3 B2.out.size HG.out)
  clear hm3 hb3 H2 B2
  go_wp2_with fail
  go_loopw [7] (fun i wr => ∃ k : Nat, k ≤ K ∧ i = .int .i64 k ∧ Hid (Mn wr g ⟨true, (K : Int) - k, 1⟩) ∧ Hid (Below w.heap.size w wr)) (fun i _ => K - (intOf i).toNat)
  case atStart => exact ⟨0, Nat.zero_le _, rfl, by rw [show (K : Int) - ((0 : Nat) : Int) = K by omega]; exact H3, B3⟩
  case round =>
    clear H3 B3
    obtain ⟨k, hk, rfl, hM, hB⟩ := hrel
    by_cases hlt : k < K
    · obtain ⟨e1, e2⟩ := use_down ((K : Int) - k) 1 (by omega)
      have E1 := Lib.hid e1
      have E2 := Lib.hid e2
      clear e1 e2
      go_wp2_with fail
      refine (Use_as _ _ _ hM.out 0 _ E2.out E1.out).mono ?_
      rintro e w4 ⟨rfl, hm4, hb4⟩
      have H4 := Lib.hid hm4
      have B4 := Lib.hid (bl1 hB.out hb4 hB.out.size HG.out)
      clear hm4 hb4
      go_wp2_with fail
      refine (IsOn_any _ _ _ H4.out).mono ?_
      rintro e w' ⟨rfl, rfl⟩
      go_wp2_with fail
      go_roundw
      case rel => exact ⟨k + 1, by omega, by go_num, by rw [show (K : Int) - ((k + 1 : Nat) : Int) = (K : Int) - k - 1 by omega]; exact H4, B4⟩
      case measure => simp [intOf]; omega
    · have H5 : Hid (Mn wr g ⟨true, 0, 1⟩) := by
        have := hM.out
        rw [show (K : Int) - (k : Int) = 0 by omega] at this
        exact this
      clear hM
      have B5 := hB
      clear hB
      obtain ⟨w5, rfl⟩ : ∃ w5 : World, w5 = wr := ⟨_, rfl⟩
      go_wp2_with fail
      go_loopw [8] (fun i wr => ∃ (k : Nat) (o : Bool), k ≤ 1 + J ∧ i = .int .i64 k ∧ Hid (0 < k → o = false) ∧ Hid (Mn wr g ⟨o, 0, 1⟩) ∧ Hid (Below w.heap.size w wr)) (fun i _ => 1 + J - (intOf i).toNat)
      case atStart => exact ⟨0, true, Nat.zero_le _, rfl, Lib.hid (fun h => absurd h (by omega)), H5, B5⟩
      case round =>
        clear H5 B5
        obtain ⟨j, o, hj, rfl, hO, hM, hB⟩ := hrel
        by_cases hlt2 : j < 1 + J
        · have hJ := HJ.out
          go_wp2_with fail
          refine (Use_as _ _ _ hM.out 4 ⟨false, 0, 1⟩ rfl rfl).mono ?_
          rintro e w4 ⟨rfl, hm4, hb4⟩
          have H4 := Lib.hid hm4
          have B4 := Lib.hid (bl1 hB.out hb4 hB.out.size HG.out)
          clear hm4 hb4
          go_wp2_with fail
          refine (IsOn_any _ _ _ H4.out).mono ?_
          rintro e w' ⟨rfl, rfl⟩
          go_wp2_with fail
          go_roundw
          case rel => exact ⟨j + 1, false, by omega, by go_num, Lib.hid (fun _ => rfl), H4, B4⟩
          case measure => simp [intOf]; omega
        · obtain rfl := hO.out (by omega)
          clear hO
          have hJ := HJ.out
          go_wp2_with fail
          refine (On_as _ _ _ hM.out ⟨true, -1, 2⟩ come_two).mono ?_
          rintro e w6 ⟨rfl, hm6, hb6⟩
          have H6 := Lib.hid hm6
          have B6 := Lib.hid (bl1 hB.out hb6 hB.out.size HG.out)
          clear hm6 hb6 hM hB hJ
          go_wp2_with fail
          go_loopw [9] (fun i wr => ∃ k : Nat, k ≤ 2 * K + 2 ∧ i = .int .i64 k ∧ Hid (Mn wr g ⟨true, -1, 2⟩) ∧ Hid (Below w.heap.size w wr)) (fun i _ => 2 * K + 2 - (intOf i).toNat)
          case atStart => exact ⟨0, Nat.zero_le _, rfl, H6, B6⟩
          case round =>
            clear H6 B6
            obtain ⟨q, hq, rfl, hM, hB⟩ := hrel
            by_cases hlt3 : q < 2 * K + 2
            · go_wp2_with fail
              refine (Use_as _ _ _ hM.out 0 ⟨true, -1, 2⟩ rfl rfl).mono ?_
              rintro e w4 ⟨rfl, hm4, hb4⟩
              have H4 := Lib.hid hm4
              have B4 := Lib.hid (bl1 hB.out hb4 hB.out.size HG.out)
              clear hm4 hb4
              go_wp2_with fail
              go_roundw
              case rel => exact ⟨q + 1, by omega, by go_num, H4, B4⟩
              case measure => simp [intOf]; omega
            · go_wp2_with fail
              refine (Fuse_nil _ _).mono ?_
              rintro e w' ⟨rfl, rfl⟩
              go_wp2_with fail
              refine (On_nil _).mono ?_
              rintro e w' ⟨rfl, rfl⟩
              go_wp2_with fail
              refine (Off_nil _).mono ?_
              rintro e w' ⟨rfl, rfl⟩
              go_wp2_with fail
              refine (Boots_any _ _ _ hM.out).mono ?_
              rintro e w' ⟨rfl, rfl⟩
              go_wp2_with fail
              refine (Use_nil _).mono ?_
              rintro e w' ⟨rfl, rfl⟩
              go_wp2_with fail
              refine (IsOn_nil _).mono ?_
              rintro e w' ⟨rfl, rfl⟩
              go_wp2_with fail
              refine (Boots_nil _).mono ?_
              rintro e w' ⟨rfl, rfl⟩
              go_wp2_with fail
              go_returns
              exact ⟨rfl, hB.out⟩
end Go.Proofs.Ytfophlddijblmaa.Mn
