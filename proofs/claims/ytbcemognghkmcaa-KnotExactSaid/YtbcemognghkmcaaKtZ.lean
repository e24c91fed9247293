/- KnotExact, walked. -/
import Derived.Test.YtbcemognghkmcaaKtY
import Derived.Test.YtbcemognghkmcaaKtT
namespace Go.Proofs.Ytbcemognghkmcaa.Kt
open Go.ChangeShapes Go.WideShapes Go.ChangeAt Go.RowKit Go.PlainAid Aid
set_option linter.unusedVariables false
set_option linter.unusedSimpArgs false
def rnT (es m : List Edg) : List Int := (m.filter fun e => decide (rndL es e.1 ≠ [])).map (·.1)
theorem rnT_snoc (es m : List Edg) (x : Edg) : leastL (rnT es (m ++ [x])) = if rndL es x.1 ≠ [] then lstep (leastL (rnT es m)) x.1 else leastL (rnT es m) := by
  unfold rnT
  rw [List.filter_append, List.map_append]
  by_cases h : rndL es x.1 ≠ []
  · have e : ([x].filter fun e => decide (rndL es e.1 ≠ [])) = [x] := by simp [h]
    rw [if_pos h, e]
    exact leastL_snoc _ _
  · have e : ([x].filter fun e => decide (rndL es e.1 ≠ [])) = [] := by
      rw [List.filter_cons, if_neg (by simpa using h)]; rfl
    rw [if_neg h, e, List.map_nil, List.append_nil]
def hasB (R : List Int) (j : Nat) : Bool := decide (R = []) || inL (R.take j) (maxL R)
theorem hasB_end (R : List Int) : hasB R R.length = true := by
  unfold hasB
  by_cases h : R = []
  · simp [h]
  · rw [List.take_length, inL_iff.2 (maxL_mem R h)]; simp
theorem hasB_succ {R : List Int} {j : Nat} {x : Int} (hx : R[j]? = some x) : hasB R (j + 1) = (hasB R j || decide (x = maxL R)) := by
  unfold hasB
  rw [inL_take hx, Bool.or_assoc]
set_option maxRecDepth 100000 in
set_option maxHeartbeats 32000000 in
theorem exact_any (A : Option Addr) (c : Nat) (es : List Edg) (id : Int) (w : World) (hp : Prs w A es) (hw : Wf es) (hid : I64w id) (hlen : es.length ≤ maxLen) :
    Calls Try.prog 3 #[.slice A es.length c, .int .i64 id] w fun e w' => e = .returned (.bool true) ∧ Below w.heap.size w w' := by
  have HP := Lib.hid hp
  have HW := Lib.hid hw
  have HID := Lib.hid hid
  have hlm : (es.length : Int) ≤ maxLen := by omega
  clear hp hw hid
  go_enter Try.func3, Try.ntmps3
  go_wp2_with fail
  refine (awake_any w).mono ?_
  rintro e w1 ⟨rfl, hB1⟩
  have HB1 := Lib.hid hB1
  clear hB1
  by_cases h20 : (20 : Int) < (es.length : Int)
  · go_wp2_with fail
    go_returns
    exact ⟨rfl, HB1.out⟩
  · have hn : es.length ≤ 20 := by omega
    have HAR := Lib.hid (rnd_same es)
    go_wp2_with fail
    refine (edges_any A c es w1 (HP.out.keep HB1.out) (by omega)).mono ?_
    rintro e w2 ⟨v, rfl, hX⟩
    obtain ⟨A2, c2, rfl⟩ := hX.vec.slice
    have HE := Lib.hid (Prs.of_vec hX.vec)
    have HB2 := Lib.hid (HB1.out.trans (hX.bel.mono HB1.out.size))
    clear hX HB1
    go_wp2_with fail
    refine (Round_any A2 c2 es id w2 w2 Asn.emp (Aid.Own.none w2) (fun W X h => HE.out.keep h.bel) (by omega) HW.out HID.out).mono ?_
    rintro e w3 ⟨v, rfl, S3⟩
    obtain ⟨A3, c3, rfl⟩ := S3.vec.slice
    have HV := Lib.hid S3.vec
    have HE3 := Lib.hid (HE.out.keep S3.bel)
    have HB3 := Lib.hid (HB2.out.trans (S3.bel.mono HB2.out.size))
    have hRl := rnd_len es id
    clear S3 HE HB2
    go_wp2_with fail
    refine (refRound_any A c es id w3 (HP.out.keep HB3.out) (by omega)).mono ?_
    rintro e w4 ⟨v, rfl, S4⟩
    rw [HAR.out id] at S4
    obtain ⟨A4, c4, rfl⟩ := S4.vec.slice
    obtain ⟨R, hR⟩ : ∃ R, R = rndL es id := ⟨_, rfl⟩
    rw [← hR] at S4 HV hRl ⊢
    clear hR
    have HV4 := Lib.hid (HV.out.keepB S4.bel)
    have HI4 := Lib.hid (IntsAt.of_vec HV4.out)
    have HJ4 := Lib.hid (IntsAt.of_vec S4.vec)
    have HE4 := Lib.hid (HE3.out.keep S4.bel)
    have HB4 := Lib.hid (HB3.out.trans (S4.bel.mono HB3.out.size))
    clear S4 HE3 HB3 HV
    go_wp2_with fail
    refine (Ints_any A3 A4 c3 c4 R R w4 HI4.out HJ4.out (by omega) (by omega)).mono ?_
    rintro e w5 ⟨rfl, hX⟩
    rw [decide_eq_true rfl]
    have HV5 := Lib.hid (HV4.out.keepB hX)
    have HE5 := Lib.hid (HE4.out.keep hX)
    have HB5 := Lib.hid (HB4.out.trans (hX.mono HB4.out.size))
    clear hX HV4 HE4 HB4 HI4 HJ4
    go_wp2_with fail
    go_loopw [7, 8, 9, 10] (fun b s i x wr => ∃ j : Nat, j ≤ es.length ∧ i = .int .i64 j ∧ b = .int .i64 (leastL (rnT es (es.take j))).1 ∧ s = .bool (leastL (rnT es (es.take j))).2 ∧ Hid (Below w5.heap.size w5 wr)) (fun _ _ i _ _ => es.length - (intOf i).toNat)
    case atStart => exact ⟨0, Nat.zero_le _, rfl, rfl, rfl, Lib.hid (Below.refl _ _)⟩
    case round =>
      obtain ⟨j, hj, rfl, rfl, rfl, HB⟩ := hrel
      by_cases hlt : j < es.length
      · obtain ⟨x, hx⟩ : ∃ x, es[j]? = some x := ⟨es[j]'hlt, List.getElem?_eq_getElem _⟩
        have hst := rnT_snoc es (es.take j) x
        rw [← take_snoc es j x hx] at hst
        have HST := Lib.hid hst
        clear hst
        have HPr : Hid (Prs wr A es) := Lib.hid (HP.out.keep (HB5.out.trans (HB.out.mono HB5.out.size)))
        obtain ⟨b, o, rfl, hc⟩ := HPr.out.at (by omega)
        obtain ⟨d0, d1⟩ := hc j x hx
        clear hc hx
        generalize leastL (rnT es (es.take j)) = st at *
        obtain ⟨bs, ib⟩ := st
        dsimp only
        go_wp2_with fail
        refine (refRound_any (some ⟨b, o, none⟩) c es x.1 wr HPr.out (by omega)).mono ?_
        rintro e w6 ⟨v, rfl, S6⟩
        rw [HAR.out x.1] at S6
        obtain ⟨A6, c6, rfl⟩ := S6.vec.slice
        have HB6 := Lib.hid (HB.out.trans (S6.bel.mono HB.out.size))
        have hl6 := rnd_len es x.1
        clear S6 HPr
        by_cases hr : rndL es x.1 = []
        · have HS : Hid (leastL (rnT es (es.take (j + 1))) = (bs, ib)) := Lib.hid (by rw [HST.out, if_neg (by simp [hr])])
          rw [hr]
          go_wp2_with fail
          go_roundw
          case rel => exact ⟨j + 1, by omega, by go_num, by rw [HS.out], by rw [HS.out], HB6⟩
          case measure => simp [intOf]; omega
        · have hp6 : (0 : Int) < ((rndL es x.1).length : Int) := by
            have := List.length_pos_iff.2 hr
            omega
          have HST2 : Hid (leastL (rnT es (es.take (j + 1))) = lstep (bs, ib) x.1) := Lib.hid (by rw [HST.out, if_pos hr])
          clear HST hr
          cases ib with
          | false =>
            have HS : Hid (leastL (rnT es (es.take (j + 1))) = (x.1, true)) := Lib.hid (by rw [HST2.out]; unfold lstep; rw [if_pos (Or.inl rfl)])
            go_wp2_with fail
            go_roundw
            case rel => exact ⟨j + 1, by omega, by go_num, by rw [HS.out], by rw [HS.out], HB6⟩
            case measure => simp [intOf]; omega
          | true =>
            by_cases h3 : x.1 < bs
            · have HS : Hid (leastL (rnT es (es.take (j + 1))) = (x.1, true)) := Lib.hid (by rw [HST2.out]; unfold lstep; rw [if_pos (Or.inr h3)])
              go_wp2_with fail
              go_roundw
              case rel => exact ⟨j + 1, by omega, by go_num, by rw [HS.out], by rw [HS.out], HB6⟩
              case measure => simp [intOf]; omega
            · have HS : Hid (leastL (rnT es (es.take (j + 1))) = (bs, true)) := Lib.hid (by rw [HST2.out]; unfold lstep; rw [if_neg (by simpa using h3)])
              go_wp2_with fail
              go_roundw
              case rel => exact ⟨j + 1, by omega, by go_num, by rw [HS.out], by rw [HS.out], HB6⟩
              case measure => simp [intOf]; omega
      · obtain rfl : j = es.length := by omega
        have han : leastL (rnT es es) = anyL es := any_same es (by omega)
        rw [List.take_length, han]
        have HEr := Lib.hid (HE5.out.keep HB.out)
        have HVr := Lib.hid (HV5.out.keepB HB.out)
        have HBr := Lib.hid (HB5.out.trans (HB.out.mono HB5.out.size))
        have HAA := Lib.hid (Any_any A2 c2 es wr wr Asn.emp (Aid.Own.none wr) (fun W X h => HEr.out.keep h.bel) (by omega) HW.out)
        clear han HB HE5 HV5 HB5 HAR
        generalize anyL es = s at *
        obtain ⟨n, is⟩ := s
        dsimp only
        go_wp2_with fail
        refine HAA.out.mono ?_
        rintro e w7 ⟨rfl, S7⟩
        have HV7 := Lib.hid (HVr.out.keepB S7.bel)
        have HB7 := Lib.hid (HBr.out.trans (S7.bel.mono HBr.out.size))
        clear S7 HVr HBr HEr HAA
        have HML := Lib.hid (maxL_le R)
        have HEnd := Lib.hid (hasB_end R)
        have HSucc : Hid (∀ (j : Nat) (x : Int), R[j]? = some x → hasB R (j + 1) = (hasB R j || decide (x = maxL R))) := Lib.hid (fun j x h => hasB_succ h)
        have HI7 := Lib.hid (IntsAt.of_vec HV7.out)
        have H0 : Hid (hasB R 0 = decide (R = [])) := Lib.hid (by unfold hasB inL; simp)
        have HM0 : Hid (R = [] → maxL R = 0) := Lib.hid (fun h => by rw [h]; rfl)
        have HVV := Lib.hid (Victim_any A3 c3 R w7 HV7.out (by omega))
        generalize maxL R = mx at *
        generalize hasB R = hs at *
        have hgo : ∀ j : Nat, j < R.length → ∃ x, R[j]? = some x := fun j h => ⟨R[j]'h, List.getElem?_eq_getElem _⟩
        cases is
        all_goals (
          go_wp2_with fail
          refine HVV.out.mono ?_
          rintro e w8 ⟨rfl, hw8⟩
          rw [hw8]
          clear hw8 w8
          by_cases hR0 : R = []
          · have hm0 := HM0.out hR0
            have hl0 : R.length = 0 := by rw [hR0]; rfl
            have H00 : Hid (hs 0 = true) := Lib.hid (by rw [H0.out, hR0]; rfl)
            have hz : ((R.length : Int) == 0) = true := by rw [hl0]; rfl
            have hz2 : (mx == 0) = true := by rw [hm0]; rfl
            clear hR0 hm0 hl0
            go_wp2_with fail
            go_loopw [14, 15] (fun hb i wr => ∃ j : Nat, j ≤ R.length ∧ i = .int .i64 j ∧ hb = .bool (hs j) ∧ wr = w7) (fun _ i _ => R.length - (intOf i).toNat)
            case atStart => exact ⟨0, Nat.zero_le _, rfl, by rw [H00.out], rfl⟩
            case round =>
              obtain ⟨j, hj, rfl, rfl, rfl⟩ := hrel
              by_cases hlt : j < R.length
              · obtain ⟨x, hx⟩ := hgo j hlt
                obtain ⟨b, o, rfl, hc⟩ := ints_at HI7.out (by omega)
                have c0 := hc j x hx
                have hle := HML.out x (List.mem_of_getElem? hx)
                have hnl : ¬ mx < x := by omega
                have HS := Lib.hid (HSucc.out j x hx)
                clear hc hx
                cases hj2 : hs j with
                | true =>
                  go_wp2_with fail
                  go_roundw
                  case rel => exact ⟨j + 1, by omega, by go_num, by rw [HS.out, hj2]; rfl, trivial⟩
                  case measure => simp [intOf]; omega
                | false =>
                  by_cases he : x = mx
                  · have heb : (x == mx) = true := by simpa using he
                    have HE := Lib.hid he
                    clear he hle hnl
                    have hnl : ¬ mx < x := by rw [HE.out]; omega
                    have hle : x ≤ mx := by rw [HE.out]; omega
                    go_wp2_with fail
                    go_roundw
                    case rel => exact ⟨j + 1, by omega, by go_num, by rw [HS.out, hj2, decide_eq_true HE.out]; rfl, trivial⟩
                    case measure => simp [intOf]; omega
                  · have heb : (x == mx) = false := by simpa using he
                    go_wp2_with fail
                    go_roundw
                    case rel => exact ⟨j + 1, by omega, by go_num, by rw [HS.out, hj2, decide_eq_false he]; rfl, trivial⟩
                    case measure => simp [intOf]; omega
              · obtain rfl : j = R.length := by omega
                rw [HEnd.out]
                go_wp2_with fail
                go_returns
                exact ⟨rfl, HB7.out⟩
          · have H00 : Hid (hs 0 = false) := Lib.hid (by rw [H0.out, decide_eq_false hR0])
            have hz : ((R.length : Int) == 0) = false := by
              have := List.length_pos_iff.2 hR0
              rw [beq_eq_false_iff_ne]; omega
            clear hR0
            go_wp2_with fail
            go_loopw [14, 15] (fun hb i wr => ∃ j : Nat, j ≤ R.length ∧ i = .int .i64 j ∧ hb = .bool (hs j) ∧ wr = w7) (fun _ i _ => R.length - (intOf i).toNat)
            case atStart => exact ⟨0, Nat.zero_le _, rfl, by rw [H00.out], rfl⟩
            case round =>
              obtain ⟨j, hj, rfl, rfl, rfl⟩ := hrel
              by_cases hlt : j < R.length
              · obtain ⟨x, hx⟩ := hgo j hlt
                obtain ⟨b, o, rfl, hc⟩ := ints_at HI7.out (by omega)
                have c0 := hc j x hx
                have hle := HML.out x (List.mem_of_getElem? hx)
                have hnl : ¬ mx < x := by omega
                have HS := Lib.hid (HSucc.out j x hx)
                clear hc hx
                cases hj2 : hs j with
                | true =>
                  go_wp2_with fail
                  go_roundw
                  case rel => exact ⟨j + 1, by omega, by go_num, by rw [HS.out, hj2]; rfl, trivial⟩
                  case measure => simp [intOf]; omega
                | false =>
                  by_cases he : x = mx
                  · have heb : (x == mx) = true := by simpa using he
                    have HE := Lib.hid he
                    clear he hle hnl
                    have hnl : ¬ mx < x := by rw [HE.out]; omega
                    have hle : x ≤ mx := by rw [HE.out]; omega
                    go_wp2_with fail
                    go_roundw
                    case rel => exact ⟨j + 1, by omega, by go_num, by rw [HS.out, hj2, decide_eq_true HE.out]; rfl, trivial⟩
                    case measure => simp [intOf]; omega
                  · have heb : (x == mx) = false := by simpa using he
                    go_wp2_with fail
                    go_roundw
                    case rel => exact ⟨j + 1, by omega, by go_num, by rw [HS.out, hj2, decide_eq_false he]; rfl, trivial⟩
                    case measure => simp [intOf]; omega
              · obtain rfl : j = R.length := by omega
                rw [HEnd.out]
                go_wp2_with fail
                go_returns
                exact ⟨rfl, HB7.out⟩)
end Go.Proofs.Ytbcemognghkmcaa.Kt
