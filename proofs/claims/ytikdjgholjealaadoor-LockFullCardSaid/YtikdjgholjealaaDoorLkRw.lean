/- The walk of LockRow. -/
import Derived.Test.YtikdjgholjealaaDoorLkRp
import Derived.Test.YtikdjgholjealaaDoorLkV
namespace Go.Proofs.YtikdjgholjealaaDoor.Lk
open Go.ChangeShapes Go.WideShapes Go.ChangeAt Go.RowKit Go.PlainAid Aid Md
set_option linter.unusedVariables false
set_option linter.unusedSimpArgs false
theorem i64w_nat {k : Nat} (h : k ≤ 1000) : I64w (k : Int) := by
  show (Lit.int .i64 (k : Int)).wf = true
  exact WalkArith.wf_i64 (by omega)
set_option maxRecDepth 100000 in
set_option maxHeartbeats 8000000 in
theorem row_walk (n : Int) (w : World) (ht : Tabs w) :
    Calls Tryd.prog 3 #[.int .i64 n] w fun e w' => e = .returned (.bool true) ∧ Below w.heap.size w w' := by
  have HT := Lib.hid ht
  obtain ⟨K, hK, hK2⟩ := mod_u n 40 (by decide) (by decide)
  have HA := Lib.hid (awake_any w ht)
  clear ht
  have hk : na.length ≤ 1000 := by decide
  have HK := Lib.hid hk
  clear hk
  go_enter Tryd.func3, Tryd.ntmps3
  go_wp2_with fail
  refine HA.out.mono ?_
  rintro e w1 ⟨rfl, hX⟩
  have S1 := Lib.hid (Own.of_below hX)
  clear hX HA
  go_wp2_with fail
  refine (new_any w w1 _ S1.out).mono ?_
  rintro e w2 ⟨bb, h, l, wt, rfl, hX⟩
  have S2 := Lib.hid hX
  clear hX S1
  unfold bPtr at *
  go_wp2_with fail
  go_loopw [5] (fun i wr => ∃ (k : Nat) (H : List Hol) (L : List Lin) (W : List Wan), k ≤ K + 1 ∧ i = .int .i64 k ∧ Hid ((k = 0 ∧ H = [] ∧ L = [] ∧ W = []) ∨ ∃ j, k = j + 1 ∧ St 0 j H L W) ∧ Hid (Inv k H L W) ∧ Hid (Aid.Own w No wr (aBk bb h l wt H L W * Asn.emp))) (fun i _ => K + 1 - (intOf i).toNat)
  case atStart => exact ⟨0, [], [], [], Nat.zero_le _, rfl, Lib.hid (Or.inl ⟨rfl, rfl, rfl, rfl⟩), Lib.hid inv_nil, S2⟩
  case round =>
    clear S2
    obtain ⟨k, H, L, W, hk, rfl, HI, HV, S⟩ := hrel
    by_cases hlt : k < K + 1
    · have hw0 : I64w (k : Int) := i64w_nat (by omega)
      have hcn : cnt H W ≤ 1000000 := by
        rcases HI.out with ⟨-, rfl, rfl, rfl⟩ | ⟨j, ej, hs⟩
        · decide
        · rw [hs.cnt]; omega
      have hl1 : (k : Int) < 1 + (K : Int) := by omega
      go_wp2_with fail
      have hA := Ask_any (id := (k : Int)) (name := na) 5 w wr _ S.out HT.out hw0 HK.out HV.out (by omega) hcn
      unfold bPtr at hA
      refine hA.mono ?_
      rintro e w3 ⟨cc, H3, L3, W3, rfl, t, hX⟩
      have hv3 := t.inv HV.out hw0 HK.out
      have S3 := Lib.hid hX
      have HV3 := Lib.hid hv3
      have HTT := Lib.hid t
      clear hA hX S t hv3 HV hcn
      rcases HI.out with ⟨e0, rfl, rfl, rfl⟩ | ⟨j, ej, hs⟩
      · have t := HTT.out
        rw [show (k : Int) = 0 by omega] at t
        obtain ⟨rfl, hst⟩ := row_ask0 t
        have HI3 : Hid ((k + 1 = 0 ∧ H3 = [] ∧ L3 = [] ∧ W3 = []) ∨ ∃ j, k + 1 = j + 1 ∧ St 0 j H3 L3 W3) := Lib.hid (Or.inr ⟨0, by omega, hst⟩)
        have hk0 : ((k : Int) == 0) = true := by simp [e0]
        have hk1 : ¬ (0 : Int) < (k : Int) := by omega
        clear t hst HTT HI e0
        go_wp2_with fail
        go_roundw
        case rel => exact ⟨k + 1, H3, L3, W3, by omega, by go_num, HI3, HV3, S3⟩
        case measure => simp [intOf]; omega
      · have t := HTT.out
        rw [show (k : Int) = (j : Int) + 1 by omega] at t
        obtain ⟨rfl, hst⟩ := row_ask hs (by omega) t
        have HI3 : Hid ((k + 1 = 0 ∧ H3 = [] ∧ L3 = [] ∧ W3 = []) ∨ ∃ j, k + 1 = j + 1 ∧ St 0 j H3 L3 W3) := Lib.hid (Or.inr ⟨j + 1, by omega, hst⟩)
        have hk0 : ((k : Int) == 0) = false := by simp; omega
        have hk1 : (0 : Int) < (k : Int) := by omega
        clear t hst HTT HI ej hs
        go_wp2_with fail
        go_roundw
        case rel => exact ⟨k + 1, H3, L3, W3, by omega, by go_num, HI3, HV3, S3⟩
        case measure => simp [intOf]; omega
    · have hke : k = K + 1 := by omega
      have hl1 : ¬ (k : Int) < 1 + (K : Int) := by omega
      have hst : St 0 K H L W := by
        rcases HI.out with ⟨e0, -⟩ | ⟨j, ej, hs⟩
        · omega
        · obtain rfl : j = K := by omega
          exact hs
      have HST := Lib.hid hst
      have HV2 : Hid (Inv (K + 1) H L W) := Lib.hid (hke ▸ HV.out)
      clear HI HV hst
      go_wp2_with fail
      clear hl1 hlt hk hke
      go_loopw [7] (fun i wr => ∃ (k : Nat) (H : List Hol) (L : List Lin) (W : List Wan), k ≤ K + 1 ∧ i = .int .i64 k ∧ Hid ((k = K + 1 ∧ H = [] ∧ L = [] ∧ W = []) ∨ (k ≤ K ∧ St k (K - k) H L W)) ∧ Hid (Inv (K + 1) H L W) ∧ Hid (Aid.Own w No wr (aBk bb h l wt H L W * Asn.emp))) (fun i _ => K + 1 - (intOf i).toNat)
      case atStart => exact ⟨0, H, L, W, Nat.zero_le _, rfl, Lib.hid (Or.inr ⟨Nat.zero_le _, HST.out⟩), HV2, S⟩
      case round =>
        clear S HST HV2
        obtain ⟨k, H, L, W, hk, rfl, HI, HV, S⟩ := hrel
        by_cases hlt : k < K + 1
        · have hw0 : I64w (k : Int) := i64w_nat (by omega)
          have hst : St k (K - k) H L W := by
            rcases HI.out with ⟨e, -⟩ | ⟨-, h⟩
            · omega
            · exact h
          have HST := Lib.hid hst
          have hl1 : (k : Int) < 1 + (K : Int) := by omega
          have hM := Mode_any (k : Int) na wr (bk_of S.out) hw0 HK.out
          have hmd : md H (k : Int) na = 5 := by
            obtain ⟨⟨nb, rfl⟩, -, -⟩ := HST.out
            show mdL [((k : Int), (5 : Int))] (k : Int) = 5
            unfold mdL
            rw [List.find?_cons, decide_eq_true rfl]
          rw [hmd] at hM
          unfold bPtr at hM
          clear hmd HI hst
          go_wp2_with fail
          refine hM.mono ?_
          rintro e w4 ⟨rfl, hww⟩
          rw [hww]
          clear hww w4 hM
          have hcn := HST.out.cnt
          have hC := Count_any wr (bk_of S.out) (by omega)
          have hcb : (((cnt H W : Nat) : Int) != 1 + (K : Int) - (k : Int)) = false := by rw [hcn]; simp; omega
          generalize cnt H W = cc at *
          unfold bPtr at hC
          clear hcn
          go_wp2_with fail
          refine hC.mono ?_
          rintro e w4 ⟨rfl, hb⟩
          have S4 := Lib.hid (S.out.below hb)
          clear hb S hC
          go_wp2_with fail
          have hA := Drop_st (id := (k : Int)) w w4 _ S4.out HT.out hw0 HV.out (by omega)
          unfold bPtr at hA
          refine hA.mono ?_
          rintro e w5 ⟨vd, rfl, Hd, H5, L5, W5, s, hp, t, hX⟩
          have hv5 := t.inv (HV.out.drop hp)
          obtain ⟨A5, c5, rfl⟩ := hX.vec.slice
          have S5 := Lib.hid hX
          have HV5 := Lib.hid hv5
          have HD := Lib.hid (row_drop HST.out hp t)
          clear hA hX S4 t hv5 HST hp HV
          rcases HD.out with ⟨ej, rfl, rfl, rfl, rfl⟩ | ⟨j', ej, rfl, hs⟩
          · have hb1 : ¬ (k : Int) + 1 < 1 + (K : Int) := by omega
            have hb2 : ((k : Int) + 1 == 1 + (K : Int)) = true := by simp; omega
            have S6 := Lib.hid S5.out.right
            clear HD ej S5
            go_wp2_with fail
            go_roundw
            case rel => exact ⟨k + 1, [], [], [], by omega, by go_num, Lib.hid (Or.inl ⟨by omega, rfl, rfl, rfl⟩), HV5, S6⟩
            case measure => simp [intOf]; omega
          · have hb1 : (k : Int) + 1 < 1 + (K : Int) := by omega
            have hb2 : ((k : Int) + 1 == 1 + (K : Int)) = false := by simp; omega
            have HI5 : Hid ((k + 1 = K + 1 ∧ H5 = [] ∧ L5 = [] ∧ W5 = []) ∨ (k + 1 ≤ K ∧ St (k + 1 : Nat) (K - (k + 1)) H5 L5 W5)) := Lib.hid (Or.inr ⟨by omega, by
              have e1 : ((k + 1 : Nat) : Int) = (k : Int) + 1 := by omega
              have e2 : K - (k + 1) = j' := by omega
              rw [e1, e2]; exact hs⟩)
            have S6 := Lib.hid S5.out.right
            obtain ⟨g, rfl⟩ : ∃ g, A5 = some ⟨g, 0, none⟩ := by
              rcases S5.out.vec.forms with ⟨-, hz⟩ | ⟨g, cap, he, -⟩
              · cases hz
              · cases he; exact ⟨_, rfl⟩
            have hc0 : w5.cell? ⟨g, 0, none⟩ = some (.int .i64 ((k : Int) + 1)) := S5.out.vec.cell (j := 0) rfl
            clear HD ej S5 hs
            go_wp2_with fail
            go_roundw
            case rel => exact ⟨k + 1, H5, L5, W5, by omega, by go_num, HI5, HV5, S6⟩
            case measure => simp [intOf]; omega
        · have hl1 : ¬ (k : Int) < 1 + (K : Int) := by omega
          obtain ⟨rfl, rfl, rfl⟩ : H = [] ∧ L = [] ∧ W = [] := by
            rcases HI.out with ⟨-, h⟩ | ⟨h, -⟩
            · exact h
            · omega
          clear HI HV
          have hC := Count_any wr (bk_of S.out) (by decide)
          have hU := fun W' (k : Bk W' bb h l wt [] [] []) => Used_any na W' k HK.out
          have hce : cnt [] [] = 0 := rfl
          have hue : (decide (0 < (holE [] na).length) || decide (0 < (ids [] na).length)) = false := rfl
          rw [hce] at hC
          rw [hue] at hU
          unfold bPtr at hC hU
          have HU := Lib.hid hU
          clear hce hue hU
          go_wp2_with fail
          refine hC.mono ?_
          rintro e w4 ⟨rfl, hb⟩
          have S4 := Lib.hid (S.out.below hb)
          clear hb S hC
          go_wp2_with fail
          refine (HU.out _ (bk_of S4.out)).mono ?_
          rintro e w5 ⟨rfl, hww⟩
          rw [hww]
          clear hww
          go_wp2_with fail
          go_returns
          exact ⟨rfl, S4.out.bel⟩
end Go.Proofs.YtikdjgholjealaaDoor.Lk
