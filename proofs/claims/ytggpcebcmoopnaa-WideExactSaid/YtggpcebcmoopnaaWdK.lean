/- The document's Times of rows of truths, walked. -/
import Derived.Test.YtggpcebcmoopnaaWdJ
namespace Go.Proofs.Ytggpcebcmoopnaa.Wd
open Go.ChangeShapes Go.WideShapes Go.ChangeAt Go.RowKit Go.PlainAid Aid
set_option linter.unusedVariables false
set_option linter.unusedSimpArgs false
/-- Add without one more. -/
theorem refAdd0 (x y : BitVec 128) (w : World) :
    Calls Try.prog 9 #[.agg (Bs x.getLsbD), .agg (Bs y.getLsbD), .bool false] w fun e w' => e = .returned (.agg (Bs (x + y).getLsbD)) ∧ Below w.heap.size w w' := by
  have h := refAdd_any x y false w
  rw [show x + y + BitVec.setWidth 128 (BitVec.ofBool false) = x + y from by rw [show BitVec.setWidth 128 (BitVec.ofBool false) = 0#128 from rfl, BitVec.add_zero]] at h
  exact h
theorem zero_bits : Bs (0#128).getLsbD = Bs fun _ => false := Bs_ext fun i _ => by simp
theorem refAdd1 (x : BitVec 128) (w : World) :
    Calls Try.prog 9 #[.agg (Bs (~~~x).getLsbD), .agg (Bs fun _ => false), .bool true] w fun e w' => e = .returned (.agg (Bs (-x).getLsbD)) ∧ Below w.heap.size w w' := by
  have h := refAdd_any (~~~x) 0#128 true w
  rw [neg_add, zero_bits] at h
  exact h
/-- How many times. -/
theorem abs_u (n : Int) (hn : -9223372036854775808 ≤ n ∧ n ≤ 9223372036854775807) : (n < 0 → IntKind.u64.wrap (-(IntKind.u64.wrap n)) = (n.natAbs : Int)) ∧ (¬ n < 0 → IntKind.u64.wrap n = (n.natAbs : Int)) := by
  constructor
  · intro h; rw [IntKind.wrap_u64, IntKind.wrap_u64]; omega
  · intro h; rw [IntKind.wrap_u64]; omega
theorem list_loadB {ops : Array Oper} {rest : List Oper} {o : Oper} {a : Act} {Q : Exit → Act → World → Prop} {w : World} (hgd : o.guard = none) (x : Operand) (ho : o.op = .load 26 x) (g : Nat) (f : Nat → Bool)
    (hx : a.eval x = .pointer (some ⟨g, 0, none⟩)) (hB : Blk w g 26 (Bs f)) (h : wpList Try.prog ops Q rest (a.put o.dst (.agg (Bs f))) w) : wpList Try.prog ops Q (o :: rest) a w :=
  wpList_load_row hgd 26 x ho g hx 26 (Bs f) (0, 0) _ hB Try.underlying26 rfl (sizeB f) h
theorem list_storeB {ops : Array Oper} {rest : List Oper} {o : Oper} {a : Act} {Q : Exit → Act → World → Prop} {w : World} (hgd : o.guard = none) (x y : Operand) (ho : o.op = .store 26 x y) (hd : o.dst = none) (g : Nat) (f f0 : Nat → Bool)
    (hx : a.eval x = .pointer (some ⟨g, 0, none⟩)) (hy : a.eval y = .agg (Bs f)) (hB : Blk w g 26 (Bs f0)) (h : wpList Try.prog ops Q rest a (w.setRow g (Bs f))) : wpList Try.prog ops Q (o :: rest) a w := by
  refine wpList_store_row hgd 26 x y ho g (Bs f) hx hy 26 (Bs f0) hB (sizeB f) (by rw [Bs_size, Bs_size]) (Bs_one f) ?_
  rw [hd]; exact h
set_option maxRecDepth 100000 in
set_option maxHeartbeats 1000000 in
theorem refTimes_any (x : BitVec 128) (n : Int) (hn : -9223372036854775808 ≤ n ∧ n ≤ 9223372036854775807) (w : World) :
    Calls Try.prog 15 #[.agg (Bs x.getLsbD), .int .i64 n] w fun e w' => e = .returned (.agg (Bs (x * BitVec.ofInt 128 n).getLsbD)) ∧ Below w.heap.size w w' := by
  have hz := run_zero
  rw [times_abs]
  obtain ⟨a0, ha0⟩ : ∃ a0, a0 = if n < 0 then -x else x := ⟨_, rfl⟩
  rw [← ha0]
  have HA0 := Lib.hid ha0
  clear ha0
  obtain ⟨u1, u2⟩ := abs_u n hn
  have hM : n.natAbs < 18446744073709551616 := by omega
  generalize n.natAbs = M at *
  have S0 := Lib.hid (((Own.none w).alloc (Bs x.getLsbD) 26).alloc (Bs fun _ => false) 26)
  obtain ⟨Z, hZ⟩ : ∃ Z, Z = Bs (fun _ => false) := ⟨_, rfl⟩
  obtain ⟨BX, hBX⟩ : ∃ B, B = Bs x.getLsbD := ⟨_, rfl⟩
  rw [← hZ, ← hBX] at S0
  rw [← hZ] at hz
  rw [← hBX]
  have HZ : Hid (Z.size = 128) := Lib.hid (by rw [hZ]; exact Bs_size _)
  have HX := Lib.hid hBX
  clear hZ hBX
  go_enter Try.func15, Try.ntmps15
  simp only [World.size_alloc] at S0
  go_upto_region 1 with fail
  obtain ⟨g2, hgz⟩ : ∃ g, g = w.heap.size := ⟨_, rfl⟩
  rw [← hgz] at S0 ⊢
  clear hgz
  generalize World.alloc (World.alloc w _) _ = w1 at *
  generalize g2 + 1 = g4 at *
  clear hz
  have S1 := Lib.hid (S0.out.alloc (Bs fun _ => false) 26)
  clear S0
  refine wp_var _ _ _ 8 5 rfl rfl rfl rfl rfl rfl rfl rfl rfl (by simp) (by simp) (by decide) ?_
  obtain ⟨g5, hgz⟩ : ∃ g, g = w1.heap.size := ⟨_, rfl⟩
  rw [← hgz] at S1 ⊢
  clear hgz
  generalize World.alloc w1 _ = w2 at *
  have S2 : Hid (Own w No w2 (Asn.blk g2 26 (Bs x.getLsbD) * (Asn.blk g5 26 (Bs (0#128).getLsbD) * (Asn.blk g4 26 Z * Asn.emp)))) := Lib.hid (by
    have h := S1.out
    rw [HX.out, ← zero_bits] at h
    exact h.re (by ac_rfl))
  clear S1 HX
  have hbd := run_buildB
  have HN := Lib.hid (refAdd1 x)
  generalize Bs (fun _ => false) = Z' at *
  simp only [Act.put, List.setIfInBounds_toArray, List.set_cons_zero, List.set_cons_succ]
  by_cases h : n < 0
  · have e0 : a0 = -x := by rw [HA0.out, if_pos h]
    rw [← e0] at HN
    clear e0 HA0
    go_upto_region 3 with fail
    go_wp2_with (with_reducible refine list_loadB rfl (.tmp 2) rfl g2 x.getLsbD ?c1a (S2.out.has (Has.l (has_blk g2 _ _))) ?_)
    try (case c1a => rfl)
    go_wp2_with fail
    refine (refNot_any x _).mono ?_
    rintro e w3 ⟨rfl, hX⟩
    have S3 := Lib.hid (S2.out.below hX)
    clear hX S2 
    go_wp2_with (with_reducible refine list_build0 rfl 26 rfl (.agg Z') ?b1 ?_)
    try (case b1 => exact hbd _)
    go_wp2_with fail
    refine (HN.out _).mono ?_
    rintro e w4 ⟨rfl, hX⟩
    have S4 := Lib.hid (S3.out.below hX)
    clear hX S3 
    have S5 := Lib.hid (own_setRow S4.out (Bs a0.getLsbD))
    go_upto_region 4 with (with_reducible refine list_storeB rfl (.tmp 2) (.tmp 14) rfl rfl g2 a0.getLsbD x.getLsbD ?c1b ?c2b (S4.out.has (Has.l (has_blk g2 _ _))) ?_)
    try (case c1b => rfl)
    try (case c2b => rfl)
    clear S4
    generalize World.setRow w4 _ _ = w5 at *
    go_upto_region 8 with fail
    go_loopw [7] (fun i wr => ∃ k : Nat, k ≤ 64 ∧ i = .int .i64 k ∧ Hid (Own w No wr (Asn.blk g2 26 (Bs (mulA a0 k).getLsbD) * (Asn.blk g5 26 (Bs (mulO a0 M k).getLsbD) * (Asn.blk g4 26 Z * Asn.emp))))) (fun i _ => 64 - (intOf i).toNat)
    case atStart => exact ⟨0, by omega, rfl, by rw [mulA_zero, mulO_zero]; exact S5⟩
    case round =>
      clear S5
      obtain ⟨k, hk, rfl, hS⟩ := hrel
      by_cases hlt : k < 64
      · have hbit := bit_nat M k hM
        have ho := mulO_succ a0 M k
        cases hb : M.testBit k
        · rw [hb] at hbit ho
          simp only [Bool.false_eq_true, if_false] at ho
          clear hb
          have HO := Lib.hid ho
          clear ho
          go_upto_region 12 with fail
          go_wp2_with (with_reducible first | refine list_loadB rfl (.tmp 2) rfl g2 _ ?cAq1 (hS.out.has (Has.l (has_blk g2 _ _))) ?_ | refine list_loadB rfl (.tmp 2) rfl g2 _ ?cBq1 (hS.out.has (Has.l (has_blk g2 _ _))) ?_)
          all_goals try rfl
          have hX := refAdd0 (mulA a0 k) (mulA a0 k) wr
          rw [mulA_succ] at hX
          go_wp2_with fail
          refine (hX).mono ?_
          rintro e wx ⟨rfl, hX⟩
          have T3 := Lib.hid (hS.out.below hX)
          clear hX hS 
          have T4 := Lib.hid (own_setRow T3.out (Bs (mulA a0 (k + 1)).getLsbD))
          go_upto_region 9 with (with_reducible refine list_storeB rfl (.tmp 2) (.tmp 35) rfl rfl g2 (mulA a0 (k + 1)).getLsbD (mulA a0 k).getLsbD ?c2q1 ?c3q1 (T3.out.has (Has.l (has_blk g2 _ _))) ?_)
          all_goals try rfl
          clear T3 hX
          generalize World.setRow wx _ _ = wy at *
          go_wp2_with fail
          go_round
          case rel => exact ⟨k + 1, by omega, by go_num, by rw [HO.out]; exact T4⟩
          case measure => simp [intOf]; omega
        · rw [hb] at hbit ho
          simp only [if_true] at ho
          clear hb
          have HO := Lib.hid ho
          clear ho
          go_upto_region 11 with fail
          go_wp2_with (with_reducible first | refine list_loadB rfl (.tmp 5) rfl g5 _ ?c1q2 (hS.out.has (Has.r (Has.l (has_blk g5 _ _)))) ?_ | refine list_loadB rfl (.tmp 2) rfl g2 _ ?c2q2 (hS.out.has (Has.l (has_blk g2 _ _))) ?_)
          all_goals try rfl
          have hX := refAdd0 (mulO a0 M k) (mulA a0 k) wr
          rw [← HO.out] at hX
          go_wp2_with fail
          refine (hX).mono ?_
          rintro e wu ⟨rfl, hX⟩
          have U3 := Lib.hid (hS.out.below hX)
          clear hX hS 
          have U4 := Lib.hid (own_setRow (U3.out.re (Asn.swap _ _ _)) (Bs (mulO a0 M (k + 1)).getLsbD))
          go_upto_region 12 with (with_reducible refine list_storeB rfl (.tmp 5) (.tmp 32) rfl rfl g5 (mulO a0 M (k + 1)).getLsbD (mulO a0 M k).getLsbD ?c3q2 ?c4q2 (U3.out.has (Has.r (Has.l (has_blk g5 _ _)))) ?_)
          all_goals try rfl
          clear U3
          generalize World.setRow wu _ _ = wv at *
          have U5 := Lib.hid (U4.out.re (Asn.swap _ _ _))
          clear U4 hX
          go_wp2_with (with_reducible first | refine list_loadB rfl (.tmp 2) rfl g2 _ ?cAq3 (U5.out.has (Has.l (has_blk g2 _ _))) ?_ | refine list_loadB rfl (.tmp 2) rfl g2 _ ?cBq3 (U5.out.has (Has.l (has_blk g2 _ _))) ?_)
          all_goals try rfl
          have hX := refAdd0 (mulA a0 k) (mulA a0 k) wv
          rw [mulA_succ] at hX
          go_wp2_with fail
          refine (hX).mono ?_
          rintro e wx ⟨rfl, hX⟩
          have T3 := Lib.hid (U5.out.below hX)
          clear hX U5 
          have T4 := Lib.hid (own_setRow T3.out (Bs (mulA a0 (k + 1)).getLsbD))
          go_upto_region 9 with (with_reducible refine list_storeB rfl (.tmp 2) (.tmp 35) rfl rfl g2 (mulA a0 (k + 1)).getLsbD (mulA a0 k).getLsbD ?c2q3 ?c3q3 (T3.out.has (Has.l (has_blk g2 _ _))) ?_)
          all_goals try rfl
          clear T3 hX
          generalize World.setRow wx _ _ = wy at *
          go_wp2_with fail
          go_round
          case rel => exact ⟨k + 1, by omega, by go_num, T4⟩
          case measure => simp [intOf]; omega
      · obtain rfl : k = 64 := by omega
        rw [mulO_end a0 M hM] at hS
        have hB1 := hS.out.has (Has.r (Has.l (has_blk g5 _ _)))
        have hB2 := hS.out.has (Has.r (Has.r (Has.l (has_blk g4 _ _))))
        have e2 := Lib.hid (own_setRow (hS.out.re (show _ = Asn.blk g4 26 Z * (Asn.blk g2 26 (Bs (mulA a0 64).getLsbD) * (Asn.blk g5 26 (Bs (a0 * BitVec.ofNat 128 M).getLsbD) * Asn.emp)) by ac_rfl)) (Bs (a0 * BitVec.ofNat 128 M).getLsbD))
        have hC2 : Z.size = (Bs (a0 * BitVec.ofNat 128 M).getLsbD).size := by rw [Bs_size]; exact HZ.out
        clear hS
        go_upto_region 13 with fail
        refine wp_region_lit ?_
        refine list_loadB rfl (.tmp 5) rfl g5 _ rfl hB1 ?_
        refine wpList_store_row rfl 26 (.tmp 4) (.tmp 36) rfl g4 (Bs (a0 * BitVec.ofNat 128 M).getLsbD) rfl rfl 26 Z hB2 (sizeB _) hC2 (Bs_one _) ?_
        generalize World.setRow wr _ _ = w9 at *
        go_wp2_with fail
        exact bodyPost_ret (resB (x := 4) rfl rfl (e2.out.has (Has.l (has_blk g4 _ _)))) rfl ⟨rfl, e2.out.bel⟩
  · obtain rfl : a0 = x := by rw [HA0.out, if_neg h]
    clear HA0
    go_upto_region 8 with fail
    go_loopw [7] (fun i wr => ∃ k : Nat, k ≤ 64 ∧ i = .int .i64 k ∧ Hid (Own w No wr (Asn.blk g2 26 (Bs (mulA a0 k).getLsbD) * (Asn.blk g5 26 (Bs (mulO a0 M k).getLsbD) * (Asn.blk g4 26 Z * Asn.emp))))) (fun i _ => 64 - (intOf i).toNat)
    case atStart => exact ⟨0, by omega, rfl, by rw [mulA_zero, mulO_zero]; exact S2⟩
    case round =>
      clear S2
      obtain ⟨k, hk, rfl, hS⟩ := hrel
      by_cases hlt : k < 64
      · have hbit := bit_nat M k hM
        have ho := mulO_succ a0 M k
        cases hb : M.testBit k
        · rw [hb] at hbit ho
          simp only [Bool.false_eq_true, if_false] at ho
          clear hb
          have HO := Lib.hid ho
          clear ho
          go_upto_region 12 with fail
          go_wp2_with (with_reducible first | refine list_loadB rfl (.tmp 2) rfl g2 _ ?cAq4 (hS.out.has (Has.l (has_blk g2 _ _))) ?_ | refine list_loadB rfl (.tmp 2) rfl g2 _ ?cBq4 (hS.out.has (Has.l (has_blk g2 _ _))) ?_)
          all_goals try rfl
          have hX := refAdd0 (mulA a0 k) (mulA a0 k) wr
          rw [mulA_succ] at hX
          go_wp2_with fail
          refine (hX).mono ?_
          rintro e wx ⟨rfl, hX⟩
          have T3 := Lib.hid (hS.out.below hX)
          clear hX hS 
          have T4 := Lib.hid (own_setRow T3.out (Bs (mulA a0 (k + 1)).getLsbD))
          go_upto_region 9 with (with_reducible refine list_storeB rfl (.tmp 2) (.tmp 35) rfl rfl g2 (mulA a0 (k + 1)).getLsbD (mulA a0 k).getLsbD ?c2q4 ?c3q4 (T3.out.has (Has.l (has_blk g2 _ _))) ?_)
          all_goals try rfl
          clear T3 hX
          generalize World.setRow wx _ _ = wy at *
          go_wp2_with fail
          go_round
          case rel => exact ⟨k + 1, by omega, by go_num, by rw [HO.out]; exact T4⟩
          case measure => simp [intOf]; omega
        · rw [hb] at hbit ho
          simp only [if_true] at ho
          clear hb
          have HO := Lib.hid ho
          clear ho
          go_upto_region 11 with fail
          go_wp2_with (with_reducible first | refine list_loadB rfl (.tmp 5) rfl g5 _ ?c1q5 (hS.out.has (Has.r (Has.l (has_blk g5 _ _)))) ?_ | refine list_loadB rfl (.tmp 2) rfl g2 _ ?c2q5 (hS.out.has (Has.l (has_blk g2 _ _))) ?_)
          all_goals try rfl
          have hX := refAdd0 (mulO a0 M k) (mulA a0 k) wr
          rw [← HO.out] at hX
          go_wp2_with fail
          refine (hX).mono ?_
          rintro e wu ⟨rfl, hX⟩
          have U3 := Lib.hid (hS.out.below hX)
          clear hX hS 
          have U4 := Lib.hid (own_setRow (U3.out.re (Asn.swap _ _ _)) (Bs (mulO a0 M (k + 1)).getLsbD))
          go_upto_region 12 with (with_reducible refine list_storeB rfl (.tmp 5) (.tmp 32) rfl rfl g5 (mulO a0 M (k + 1)).getLsbD (mulO a0 M k).getLsbD ?c3q5 ?c4q5 (U3.out.has (Has.r (Has.l (has_blk g5 _ _)))) ?_)
          all_goals try rfl
          clear U3
          generalize World.setRow wu _ _ = wv at *
          have U5 := Lib.hid (U4.out.re (Asn.swap _ _ _))
          clear U4 hX
          go_wp2_with (with_reducible first | refine list_loadB rfl (.tmp 2) rfl g2 _ ?cAq6 (U5.out.has (Has.l (has_blk g2 _ _))) ?_ | refine list_loadB rfl (.tmp 2) rfl g2 _ ?cBq6 (U5.out.has (Has.l (has_blk g2 _ _))) ?_)
          all_goals try rfl
          have hX := refAdd0 (mulA a0 k) (mulA a0 k) wv
          rw [mulA_succ] at hX
          go_wp2_with fail
          refine (hX).mono ?_
          rintro e wx ⟨rfl, hX⟩
          have T3 := Lib.hid (U5.out.below hX)
          clear hX U5 
          have T4 := Lib.hid (own_setRow T3.out (Bs (mulA a0 (k + 1)).getLsbD))
          go_upto_region 9 with (with_reducible refine list_storeB rfl (.tmp 2) (.tmp 35) rfl rfl g2 (mulA a0 (k + 1)).getLsbD (mulA a0 k).getLsbD ?c2q6 ?c3q6 (T3.out.has (Has.l (has_blk g2 _ _))) ?_)
          all_goals try rfl
          clear T3 hX
          generalize World.setRow wx _ _ = wy at *
          go_wp2_with fail
          go_round
          case rel => exact ⟨k + 1, by omega, by go_num, T4⟩
          case measure => simp [intOf]; omega
      · obtain rfl : k = 64 := by omega
        rw [mulO_end a0 M hM] at hS
        have hB1 := hS.out.has (Has.r (Has.l (has_blk g5 _ _)))
        have hB2 := hS.out.has (Has.r (Has.r (Has.l (has_blk g4 _ _))))
        have e2 := Lib.hid (own_setRow (hS.out.re (show _ = Asn.blk g4 26 Z * (Asn.blk g2 26 (Bs (mulA a0 64).getLsbD) * (Asn.blk g5 26 (Bs (a0 * BitVec.ofNat 128 M).getLsbD) * Asn.emp)) by ac_rfl)) (Bs (a0 * BitVec.ofNat 128 M).getLsbD))
        have hC2 : Z.size = (Bs (a0 * BitVec.ofNat 128 M).getLsbD).size := by rw [Bs_size]; exact HZ.out
        clear hS
        go_upto_region 13 with fail
        refine wp_region_lit ?_
        refine list_loadB rfl (.tmp 5) rfl g5 _ rfl hB1 ?_
        refine wpList_store_row rfl 26 (.tmp 4) (.tmp 36) rfl g4 (Bs (a0 * BitVec.ofNat 128 M).getLsbD) rfl rfl 26 Z hB2 (sizeB _) hC2 (Bs_one _) ?_
        generalize World.setRow wr _ _ = w9 at *
        go_wp2_with fail
        exact bodyPost_ret (resB (x := 4) rfl rfl (e2.out.has (Has.l (has_blk g4 _ _)))) rfl ⟨rfl, e2.out.bel⟩
end Go.Proofs.Ytggpcebcmoopnaa.Wd
