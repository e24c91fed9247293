/- DiaryHolds, walked. -/
import Derived.Test.YtciamgggblajoaaDoorDyN
import Derived.Test.YtciamgggblajoaaDoorCells
namespace Go.Proofs.YtciamgggblajoaaDoor.Nt
open Go.ChangeShapes Go.WideShapes Go.ChangeAt Go.RowKit Go.PlainAid Aid Cr
set_option linter.unusedVariables false
set_option linter.unusedSimpArgs false
set_option maxRecDepth 100000 in
set_option maxHeartbeats 1000000 in
theorem holds_big (n h : Int) (A : Option Addr) (m c : Nat) (w : World) (ht : Tab w) (hm : 40 < m) (hl : m ≤ maxLen) :
    Calls Tryd.prog 7 #[.int .i64 n, .int .i64 h, .slice A m c] w fun e w' => e = .returned (.bool true) ∧ Below w.heap.size w w' := by
  unfold maxLen at hl
  have HA := Lib.hid (fun w ht => dawake_any w ht)
  have HT := Lib.hid ht
  clear ht
  go_enter Tryd.func7, Tryd.ntmps7
  go_wp2_with fail
  refine (HA.out _ HT.out).mono ?_
  rintro e w0 ⟨rfl, hb⟩
  have B0 := Lib.hid (hb)
  clear hb 
  go_wp2_with fail
  go_returns
  exact ⟨rfl, B0.out⟩
theorem imp_r {A B C : Asn} : Imp ((A * B) * C) (C * (A * B)) := fun _ _ => sep_comm
set_option maxRecDepth 100000 in
set_option maxHeartbeats 4000000 in
theorem holds_any (n h : Int) (A : Option Addr) (m1 c : Nat) (z : Nat → Int) (w : World) (ht : Tab w) (hm : m1 ≤ 40) (x1 : NumRow w A m1 z) :
    Calls Tryd.prog 7 #[.int .i64 n, .int .i64 h, .slice A m1 c] w fun e w' => e = .returned (.bool true) ∧ Below w.heap.size w w' := by
  obtain ⟨K, hK, hK2⟩ := mod_u n 2000 (by decide) (by decide)
  obtain ⟨N, hN, hN2⟩ := mod_u h 10 (by decide) (by decide)
  have hnr : Rl.nearR K = K := by unfold Rl.nearR; omega
  have HT := Lib.hid ht
  have X1 := Lib.hid x1
  have HA := Lib.hid (fun w ht => dawake_any w ht)
  have HZ := Lib.hid (fun w => Size_any (bareR 4 0) (bareV 4 0) w (bare_at w 4 0))
  have hsz : (if goodB (bareR 4 0) = true then ((sizeR (bareR 4 0) : Nat) : Int) else 0) = 29 := by
    rw [if_pos (bare_good 4 0 (by omega) (by omega) (by omega) (by omega))]; rfl
  rw [hsz] at HZ
  have HD := Lib.hid (fun m q => Rl.tNew m q K)
  rw [hnr] at HD
  have HO := Lib.hid (fun gr m w1 C h => Open_whole gr m K 0 Rl.idle [] rfl (fun _ h => by cases h) w w1 C ht h)
  rw [flat_nil] at HO
  clear ht x1 hsz hnr
  unfold bareV lPtr at *
  go_enter Tryd.func7, Tryd.ntmps7
  go_wp2_with fail
  refine (HA.out _ HT.out).mono ?_
  rintro e w0 ⟨rfl, hb⟩
  have B0 := Lib.hid (hb)
  clear hb 
  have S0 := Lib.hid ((Own.of_below B0.out).alloc (#[.int .i64 4, .int .i64 0, .int .i64 0, .int .i64 0, .slice none 0 0, .int .i64 0, .int .i64 0, .string ⟨#[]⟩, .string ⟨#[]⟩, .slice none 0 0, .slice none 0 0]) 28)
  clear B0 HA
  go_upto_region 6 with fail
  obtain ⟨gx, hgz⟩ : ∃ g, g = w0.heap.size := ⟨_, rfl⟩
  rw [← hgz] at S0 ⊢
  clear hgz
  generalize w0.alloc _ = w1 at *
  obtain ⟨⟨c0, c1, c2, c3, c4, c5, c6, c7, c8, c9, c10⟩, -⟩ := eleven (S0.out.has (Has.l (has_blk _ _ _)))
  go_wp2_with fail
  refine (HZ.out _).mono ?_
  rintro e w2 ⟨rfl, hX⟩
  have S1 := Lib.hid (S0.out.below hX)
  clear hX S0 HZ c0 c1 c2 c3 c4 c5 c6 c7 c8 c9 c10
  go_wp2_with fail
  refine (S1.out.callE Mn.tNew.r).mono ?_
  rintro e w3 ⟨m, rfl, hX⟩
  have S2 := Lib.hid hX
  clear hX S1
  go_wp2_with fail
  refine (S2.out.callE (HD.out _ _).r).mono ?_
  rintro e w4 ⟨gr, rfl, hX⟩
  have S3 := Lib.hid hX.comm.assoc
  clear hX S2 HD
  go_wp2_with fail
  refine (HO.out _ _ _ _ S3.out).mono ?_
  rintro e w5 ⟨⟨g, v1, v2, M⟩, ⟨hM, rfl⟩, hX⟩
  dsimp only at *
  obtain ⟨A2, c2, rfl⟩ := hX.left.right.vec.slice
  have S4 := Lib.hid ((open_log hX).imp (Imp.r (Imp.r imp_r)))
  clear hX S3 HO
  generalize Asn.vec 73 12 (.slice A2 ([] : List Rec).length c2) ([] : List Rec).length (told 0 M) * aRecs M = Y at *
  obtain ⟨H, hH⟩ : ∃ H : Nat, H = N * 29 := ⟨_, rfl⟩
  have hmul : IntKind.i64.wrap ((N : Int) * 29) = (H : Int) := by rw [IntKind.wrap_i64]; omega
  have hmul2 : ((N : Int) * 29) = (H : Int) := by omega
  have hH3 : H ≤ 262144 := by omega
  have HHH := Lib.hid hH
  clear hH
  dsimp only at S4
  go_upto_region 12 with fail
  rw [hN]
  by_cases hfit : H ≤ K
  · have HH := Lib.hid (fun g gr m v => tHold_ok g gr m K v [] 0 0 (by omega) H (by show (H : Int) ≤ K - 0 - 0; omega))
    rw [Nat.zero_add] at HH
    have hkk : ¬ (K : Int) < (H : Int) := by omega
    go_wp2_with fail
    refine (S4.out.call (HH.out _ _ _ _).l).mono ?_
    rintro e w6 ⟨rfl, hX⟩
    have S5 := Lib.hid hX
    clear hX S4 HH
    have hn29 : H ≤ 262144 := hH3
    have hkd : decide (K < H) = false := by simp only [decide_eq_false_iff_not]; omega
    have hkdI : decide ((K : Int) < (H : Int)) = false := by simp only [decide_eq_false_iff_not]; omega
    go_wp2_with fail
    try rw [hkdI]
    go_loopw [15, 16, 17, 18] (fun i _ _ _ wr => ∃ (r : Nat) (L : List Rec) (v : Value), r ≤ m1 ∧ i = .int .i64 r ∧ (flat L).length + H ≤ K ∧ Hid (Own w No wr (aLg g gr m K v L 0 H * (Mn.aMn m Rl.idle * (Asn.blk gx 28 #[.int .i64 4, .int .i64 0, .int .i64 0, .int .i64 0, .slice none 0 0, .int .i64 0, .int .i64 0, .string ⟨#[]⟩, .string ⟨#[]⟩, .slice none 0 0, .slice none 0 0] * Y))))) (fun i _ _ _ _ => m1 - (intOf i).toNat)
    case atStart => exact ⟨0, [], v1, Nat.zero_le _, rfl, (by show 0 + H ≤ K; omega), S5⟩
    case round =>
      clear S5
      obtain ⟨r, L, v, hr, rfl, hLK, hS⟩ := hrel
      by_cases hlt : r < m1
      · obtain ⟨ba, oa, rfl, hba, hca, hI⟩ := X1.out.at r hlt _ hS.out.bel
        generalize hzr : z r = zr at *
        obtain ⟨D, hD, hD2⟩ := mod_u zr 100 (by decide) (by decide)
        have HRo := Lib.hid (qRoom g gr m K v L 0 H hn29)
        have hbl := bare_len 3 (D : Int)
        have hbg := bare_good 3 (D : Int) (by omega) (by omega) (by omega) (by omega)
        by_cases h29 : (29 : Int) ≤ (K : Int) - (flat L).length - (H : Int)
        · have HA := Lib.hid (fun w1 C h => Add_ok g gr m K v L 0 H hn29 Rl.idle rfl (bareR 3 D) (bareV 3 D) hbg (by rw [hbl]; exact h29) w w1 C HT.out (bare_at w1 3 D) h)
          have hfl : (flat (L ++ [bareR 3 D])).length = (flat L).length + 29 := by rw [flat_snoc, List.length_append, hbl]
          have hLK2 : (flat L).length + 29 + H ≤ K := by omega
          have HFL := Lib.hid hfl
          clear hfl hbl hbg
          generalize hRR : (K : Int) - (flat L).length - (H : Int) = R at *
          unfold bareV at HA
          go_wp2_with fail
          refine (hS.out.ask HRo.out.l).mono ?_
          rintro e w7 ⟨rfl, k, rfl⟩
          have S6 := Lib.hid (hS.out.drewN k)
          clear hS HRo
          generalize wr.drewN k = w7 at *
          obtain ⟨ba2, oa2, he2, -, hca2, -⟩ := X1.out.at r hlt _ S6.out.bel
          cases he2
          rw [hzr] at hca2
          clear hca hRR
          go_upto_region 19 with fail
          go_wp2_with fail
          refine (HA.out _ _ S6.out).mono ?_
          rintro e w8 ⟨v', rfl, hX⟩
          have S7 := Lib.hid hX
          have hL2 := lg_fits hX.left
          clear hX S6 HA hca2
          go_wp2_with fail
          go_roundw
          case rel => exact ⟨r + 1, L ++ [bareR 3 D], v', by omega, by go_num, by rw [HFL.out]; omega, S7⟩
          case measure => simp [intOf]; omega
        · have HA := Lib.hid (fun w1 C h => Add_full g gr m K v L 0 H hn29 (bareR 3 D) (bareV 3 D) hbg (by rw [hbl]; omega) w w1 C HT.out (bare_at w1 3 D) h)
          clear hbl hbg
          generalize hRR : (K : Int) - (flat L).length - (H : Int) = R at *
          unfold bareV at HA
          go_wp2_with fail
          refine (hS.out.ask HRo.out.l).mono ?_
          rintro e w7 ⟨rfl, k, rfl⟩
          have S6 := Lib.hid (hS.out.drewN k)
          clear hS HRo
          generalize wr.drewN k = w7 at *
          obtain ⟨ba2, oa2, he2, -, hca2, -⟩ := X1.out.at r hlt _ S6.out.bel
          cases he2
          rw [hzr] at hca2
          clear hca hRR
          have h29' : ¬ (29 ≤ R) := by omega
          go_wp2_with fail
          refine (HA.out _ _ S6.out).mono ?_
          rintro e w8 ⟨rfl, hX⟩
          have S7 := Lib.hid hX
          clear hX S6 HA hca2
          go_wp2_with fail
          go_roundw
          case rel => exact ⟨r + 1, L, v, by omega, by go_num, hLK, S7⟩
          case measure => simp [intOf]; omega
      · obtain rfl : r = m1 := by omega
        have HF := Lib.hid (tFree_ok g gr m K v L 0 H hn29 H)
        rw [Nat.sub_self] at HF
        go_wp2_with fail
        refine (hS.out.call HF.out.l).mono ?_
        rintro e w6 ⟨rfl, hX⟩
        have S6 := Lib.hid hX
        clear hX hS HF
        go_wp2_with fail
        go_loopw [19, 20, 21] (fun i _ _ wr => ∃ (k : Nat) (L : List Rec) (v : Value), k ≤ N ∧ i = .int .i64 k ∧ (flat L).length + 29 * (N - k) ≤ K ∧ Hid (Own w No wr (aLg g gr m K v L 0 0 * (Mn.aMn m Rl.idle * (Asn.blk gx 28 #[.int .i64 4, .int .i64 0, .int .i64 0, .int .i64 0, .slice none 0 0, .int .i64 0, .int .i64 0, .string ⟨#[]⟩, .string ⟨#[]⟩, .slice none 0 0, .slice none 0 0] * Y))))) (fun i _ _ _ => N - (intOf i).toNat)
        case atStart => exact ⟨0, L, v, Nat.zero_le _, rfl, by have := HHH.out; omega, S6⟩
        case round =>
          clear S6
          obtain ⟨k, L, v, hk, rfl, hLK, hS⟩ := hrel
          by_cases hlt : k < N
          · have HA := Lib.hid (fun w1 C h => Add_ok g gr m K v L 0 0 (by omega) Rl.idle rfl (bareR 4 0) (bareV 4 0) (bare_good 4 0 (by omega) (by omega) (by omega) (by omega)) (by rw [bare_len]; omega) w w1 C HT.out (bare_at w1 4 0) h)
            have hfl : (flat (L ++ [bareR 4 0])).length = (flat L).length + 29 := by rw [flat_snoc, List.length_append, bare_len]
            have HFL := Lib.hid hfl
            clear hfl
            unfold bareV at HA
            obtain ⟨⟨c0, c1, c2, c3, c4, c5, c6, c7, c8, c9, c10⟩, -⟩ := eleven (hS.out.has (Has.r (Has.r (Has.l (has_blk _ _ _)))))
            go_wp2_with fail
            refine (HA.out _ _ hS.out).mono ?_
            rintro e w8 ⟨v', rfl, hX⟩
            have S7 := Lib.hid hX
            clear hX hS HA c0 c1 c2 c3 c4 c5 c6 c7 c8 c9 c10
            go_wp2_with fail
            go_roundw
            case rel => exact ⟨k + 1, L ++ [bareR 4 0], v', by omega, by go_num, by rw [HFL.out]; omega, S7⟩
            case measure => simp [intOf]; omega
          · obtain ⟨⟨c0, c1, c2, c3, c4, c5, c6, c7, c8, c9, c10⟩, -⟩ := eleven (hS.out.has (Has.r (Has.r (Has.l (has_blk _ _ _)))))
            go_wp2_with fail
            refine (Add_nil _ _).mono ?_
            rintro e w8 ⟨rfl, hX⟩
            have S7 := Lib.hid (hS.out.below hX)
            clear hX hS c0 c1 c2 c3 c4 c5 c6 c7 c8 c9 c10
            go_wp2_with fail
            refine (At_nil _ _).mono ?_
            rintro e w9 ⟨rfl, hX⟩
            have S8 := Lib.hid (S7.out.below hX).bel
            clear hX S7
            unfold zeroCells
            have B9 : Hid (Below w.heap.size w (w9.alloc (.cells #[.int .i64 0, .int .i64 0, .int .i64 0, .int .i64 0, .slice none 0 0, .int .i64 0, .int .i64 0, .string ⟨#[]⟩, .string ⟨#[]⟩, .slice none 0 0, .slice none 0 0] 28))) := Lib.hid (blA S8.out _)
            go_upto_region 32 with fail
            generalize w9.alloc _ = w10 at *
            clear S8
            go_wp2_with fail
            refine (Free_nil _ _).mono ?_
            rintro e w' ⟨rfl, rfl⟩
            go_wp2_with fail
            refine (Force_nil _ _).mono ?_
            rintro e w' ⟨rfl, rfl⟩
            go_wp2_with fail
            refine (Hold_nil _ _).mono ?_
            rintro e w' ⟨rfl, rfl⟩
            go_wp2_with fail
            refine (Room_nil _).mono ?_
            rintro e w' ⟨rfl, rfl⟩
            go_wp2_with fail
            refine (Last_nil _).mono ?_
            rintro e w' ⟨rfl, rfl⟩
            go_wp2_with fail
            refine (IsSafe_nil _ _).mono ?_
            rintro e w' ⟨rfl, rfl⟩
            go_wp2_with fail
            go_returns
            exact ⟨rfl, B9.out⟩
  · have HH := Lib.hid (fun g gr m v => qHold_full g gr m K v [] 0 0 (by omega) (H : Int) (by omega) (by show (K : Int) - 0 - 0 < _; omega))
    have HRo := Lib.hid (fun g gr m v => qRoom g gr m K v [] 0 0 (by omega))
    have hkk : (K : Int) < (H : Int) := by omega
    go_wp2_with fail
    refine (S4.out.ask (HH.out _ _ _ _).l).mono ?_
    rintro e w6 ⟨rfl, k, rfl⟩
    have S5 := Lib.hid (S4.out.drewN k)
    clear S4 HH
    generalize w5.drewN k = w6 at *
    go_wp2_with fail
    refine (S5.out.ask (HRo.out _ _ _ _).l).mono ?_
    rintro e w7 ⟨rfl, k, rfl⟩
    have S6 := Lib.hid (S5.out.drewN k)
    clear S5 HRo
    generalize w6.drewN k = w7 at *
    go_wp2_with fail
    go_returns
    exact ⟨ret_bool (by show ((K : Int) - 0 - 0 == (K : Int)) = true; simp), S6.out.bel⟩
end Go.Proofs.YtciamgggblajoaaDoor.Nt
