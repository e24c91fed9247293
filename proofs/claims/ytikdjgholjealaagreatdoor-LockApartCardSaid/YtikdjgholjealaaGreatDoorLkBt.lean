/- Blockers, and Held of who holds nothing. -/
import Derived.Test.YtikdjgholjealaaGreatDoorLkBs
import Derived.Test.YtikdjgholjealaaGreatDoorLkQ
namespace Go.Proofs.YtikdjgholjealaaGreatDoor.Lk
open Go.ChangeShapes Go.WideShapes Go.ChangeAt Go.RowKit Go.PlainAid Aid Md
set_option linter.unusedVariables false
set_option linter.unusedSimpArgs false
/-- Those ahead of one in its line. -/
def aheadL (L : List Lin) (name : By) (id : Int) : List Int := (ids L name).take (fx (fun y => decide (y = id)) (ids L name))
/-- For whom one waits. -/
def blkO (H : List Hol) (L : List Lin) (W : List Wan) (y : Wan) : List Int := blkL H W y.1 y.2.1 y.2.2 (aheadL L y.2.1 y.1)
section
variable {N : Nat} {bb h l wt : Nat} {H : List Hol} {L : List Lin} {W : List Wan} {id : Int}
theorem nums_take {w : World} {A : Option Addr} {c : Nat} {ns : List Int} {k : Nat} (hk : k ≤ ns.length) (hv : Vec w 3 1 (.slice A ns.length c) ns.length (nums ns)) : Nums w A k (ns.take k) := by
  obtain ⟨-, h2⟩ := nums_of hv
  refine ⟨by rw [List.length_take]; omega, ?_⟩
  rcases h2 with h2 | ⟨b, o, rfl, hl, hc⟩
  · exact Or.inl (by omega)
  · refine Or.inr ⟨b, o, rfl, hl, fun j hj => ?_⟩
    rw [hc j (by omega)]
    rw [List.getD_eq_getElem?_getD, List.getD_eq_getElem?_getD, List.getElem?_take_of_lt hj]
set_option maxRecDepth 100000 in
set_option maxHeartbeats 8000000 in
theorem Blockers_no (w : World) (k : Bk w bb h l wt H L W) (hi : I64w id) (hw : wanL W id = none) :
    Calls Tryz.prog 15 #[bPtr bb, .int .i64 id] w fun e w' => ∃ A' n c', e = .returned (.slice A' n c') ∧ n = 0 ∧ Below w.heap.size w w' := by
  have hA := Waits_any id w k hi
  rw [hw] at hA
  unfold bPtr at *
  have HA := Lib.hid hA
  clear hA
  go_enter Tryz.func15, Tryz.ntmps15
  go_wp2_with fail
  refine HA.out.mono ?_
  rintro e w1 ⟨rfl, hb⟩
  have S1 := Lib.hid ((Own.of_below hb).alloc #[.string (ofL (wV W id).1), .int .i64 (wV W id).2] 32)
  clear hb HA
  simp only [Option.isSome_none]
  go_wp2_with fail
  go_returns
  exact ⟨none, 0, 0, rfl, rfl, S1.out.bel⟩
set_option maxRecDepth 100000 in
set_option maxHeartbeats 8000000 in
theorem Blockers_yes (w : World) (k : Bk w bb h l wt H L W) (ht : Tabs w) (hv : Inv N H L W) (hN : N ≤ 1000) {y : Wan} (hw : wanL W id = some y) :
    Calls Tryz.prog 15 #[bPtr bb, .int .i64 id] w fun e w' => ∃ A' n c', e = .returned (.slice A' n c') ∧ (0 < n ↔ blkO H L W y ≠ []) ∧ Below w.heap.size w w' := by
  obtain ⟨hm, hi, hn, -⟩ := hv.wa id y hw
  have hy1 : y.1 = id := wanL_one hw
  have ok := hv.okS (by omega)
  have hln := hv.sl y.2.1
  have hA := Waits_any id w k hi
  rw [hw, wV_of hw] at hA
  have HK := Lib.hid k
  have HT := Lib.hid ht
  have hlm := hm
  have hfx := fx_mem (p := fun z => decide (z = id)) hm (by simp)
  have hfi : fxI (fun z => decide (z = id)) (ids L y.2.1) = ((fx (fun z => decide (z = id)) (ids L y.2.1) : Nat) : Int) := by
    unfold fxI
    rw [if_neg (by omega)]
  have hbl : (blkO H L W y).length ≤ 1000000 := by
    unfold blkO blkL
    rw [List.length_append]
    have h1 : (blkH (holE H y.2.1) y.1 y.2.2).length ≤ N := by
      unfold blkH
      rw [List.length_map]
      have := hv.holN y.2.1
      exact Nat.le_trans (List.length_filter_le _ _) (by omega)
    have h2 : (if md H y.1 y.2.1 ≠ 0 then [] else blkA W y.2.2 (aheadL L y.2.1 y.1)).length ≤ N := by
      split
      · exact Nat.zero_le _
      · refine Nat.le_trans (List.length_filter_le _ _) ?_
        unfold aheadL
        rw [List.length_take]
        omega
    omega
  have HBL := Lib.hid hbl
  have HI := Lib.hid (ok.li y.2.1)
  unfold bPtr at *
  have HA := Lib.hid hA
  have HFI := Lib.hid hfi
  have HN := Lib.hid hn
  have HIW := Lib.hid hi
  have HLM := Lib.hid hm
  have HY1 := Lib.hid hy1
  have HWL := Lib.hid hw
  obtain ⟨nm, hnm⟩ : ∃ x, x = y.2.1 := ⟨_, rfl⟩
  clear hA k ht hv ok hfi hlm hbl hi hm hy1 hw
  go_enter Tryz.func15, Tryz.ntmps15
  go_wp2_with fail
  refine HA.out.mono ?_
  rintro e w1 ⟨rfl, hb⟩
  have S1 := Lib.hid ((Own.of_below hb).alloc #[.string (ofL y.2.1), .int .i64 y.2.2] 32)
  clear hb HA
  simp only [Option.isSome_some]
  go_wp2_with fail
  obtain ⟨g5, hgz⟩ : ∃ g, g = w1.heap.size := ⟨_, rfl⟩
  rw [← hgz] at S1 ⊢
  clear hgz
  generalize w1.alloc _ = w2 at *
  have k2 := HK.out.keepB S1.out.bel
  have c0 : w2.cell? ⟨bb, 1, none⟩ = some (.map (some l)) := k2.blk.cell 1
  obtain ⟨⟨d0, d1⟩, -⟩ := two_of (S1.out.has (Has.l (has_blk g5 _ _)))
  have e1 : ∀ q, (Instr.lookup 49 (.map (some l)) (.string (ofL y.2.1)) false).run Tryz.prog (w2.drewN q) = .ok (lV L y.2.1) (w2.drewN q) := fun q => (k2.keepB (w' := w2.drewN q) ⟨rfl, rfl, rfl, Nat.le_refl _, fun _ _ => rfl⟩).look_l y.2.1 HN.out
  obtain ⟨A, c, hvs⟩ := (k2.line y.2.1).slice
  rw [hvs] at e1
  have HVS := Lib.hid hvs
  clear k2 hvs
  go_wp2_with fail
  go_quiet (fail)
  have S2 := Lib.hid (S1.out.drewN nq)
  clear S1 e1 c0 d0 d1
  generalize w2.drewN nq = w3 at *
  have hvec := (HK.out.keepB S2.out.bel).line y.2.1
  rw [HVS.out] at hvec
  have hX := Index_any _ _ id w3 hvec (by omega)
  rw [HFI.out] at hX
  have HX := Lib.hid hX
  clear hX hvec
  go_wp2_with fail
  refine HX.out.mono ?_
  rintro e w4 ⟨rfl, hb⟩
  have S4 := Lib.hid (S2.out.below hb)
  clear hb S2 HX
  obtain ⟨⟨d0, d1⟩, -⟩ := two_of (S4.out.has (Has.l (has_blk g5 _ _)))
  have hvec := (HK.out.keepB S4.out.bel).line y.2.1
  rw [HVS.out] at hvec
  have HNu : Hid (Nums w4 A (fx (fun z => decide (z = id)) (ids L y.2.1)) (aheadL L y.2.1 id)) := Lib.hid (nums_take (by omega) hvec)
  have hcap : (ids L y.2.1).length ≤ c := by
    rcases hvec.forms with ⟨e, hz⟩ | ⟨g, cap, e, -, hc, -⟩
    · omega
    · cases e; exact hc
  clear hvec
  go_wp2_with fail
  refine (blockers_any (bb := bb) (id := id) (name := y.2.1) (mode := y.2.2) (A := A) (m := fx (fun z => decide (z = id)) (ids L y.2.1)) (c := c) w4).mono ?_
  rintro e w5 ⟨gb, gi, gw, ga, rfl, hX⟩
  have hB0 := hX.bel
  have hB5 := bl S4.out.bel hB0
  have bga := hX.left.has (has_blk _ _ _)
  have bgw := hX.right.left.has (has_blk _ _ _)
  have bgi := hX.right.right.left.has (has_blk _ _ _)
  have bgb := hX.right.right.right.left.has (has_blk _ _ _)
  have hbl : (blkL H W id y.2.1 y.2.2 (aheadL L y.2.1 id)).length ≤ 1000000 := by
    have := HBL.out
    unfold blkO at this
    rw [HY1.out] at this
    exact this
  have hk : Its w5 bb h l wt H L W gb gw gi ga id y.2.1 y.2.2 A (fx (fun z => decide (z = id)) (ids L y.2.1)) c (aheadL L y.2.1 id) :=
    ⟨HK.out.keepB hB5, HT.out.keep hB5, bgb.cell 0, bgw.cell 0, bgw.cell 1, bgi.cell 0, bga.cell 0, HNu.out.keepB hB0, ⟨bgb.lt, bgw.lt, bgi.lt, bga.lt⟩, HIW.out, HN.out, fun o ho => HI.out o (List.mem_of_mem_take ho), by omega⟩
  have HSo := Lib.hid (sorted_it w5 hk hbl)
  have HB5 := Lib.hid hB5
  have HBX := Lib.hid hbl
  clear hX hB0 hB5 bga bgw bgi bgb hk hbl d0 d1 HNu S4
  go_wp2_with fail
  refine HSo.out.mono ?_
  rintro e w6 ⟨v, xs, rfl, hxl, hr, hb⟩
  have HCo := Lib.hid (compact_any w5.heap.size v xs w6 hr (by rw [hxl]; exact HBX.out))
  have HB6 := Lib.hid hb
  have HXL := Lib.hid hxl
  clear hxl hr hb HSo
  go_wp2_with fail
  refine HCo.out.mono ?_
  rintro e w7 ⟨A', n, c', rfl, hn7, hb⟩
  have HB7 := Lib.hid (hb HB6.out.size)
  have HN7 := Lib.hid hn7
  clear hb HCo hn7
  go_wp2_with fail
  go_returns
  refine ⟨A', n, c', rfl, ?_, bl HB5.out (HB6.out.trans HB7.out)⟩
  rw [HN7.out, HXL.out]
  unfold blkO
  rw [HY1.out]
  exact List.length_pos_iff
set_option maxRecDepth 100000 in
set_option maxHeartbeats 4000000 in
theorem len64_0 (w : World) : Calls Tryz.prog 62 #[.int .u64 0] w fun e w' => e = .returned (.int .i64 0) ∧ w' = w := by
  have h0 : Lib.len8 0 = 0 := by rfl
  go_enter Tryz.func62, Tryz.ntmps62
  go_wp2_with fail
  go_returns
  exact ⟨rfl, rfl⟩
set_option maxRecDepth 100000 in
theorem len_0 (w : World) : Calls Tryz.prog 41 #[.int .u64 0] w fun e w' => e = .returned (.int .i64 0) ∧ w' = w := by
  have HL := Lib.hid (len64_0 w)
  go_enter Tryz.func41, Tryz.ntmps41
  go_wp2_with fail
  refine HL.out.mono ?_
  rintro e w' ⟨rfl, rfl⟩
  go_wp2_with fail
  go_returns
  exact ⟨rfl, rfl⟩
theorem ins_0 (cf : Value) (w : World) : Calls Tryz.prog 53 #[.slice none 0 0, .int .i64 0, .int .i64 0, cf] w fun e w' => e = .returned (.tuple #[]) ∧ w' = w := by
  go_enter Tryz.func53, Tryz.ntmps53
  go_wp2_with fail
  refine wp_loop_rounds 1 ?_
  rw [rounds_succ]
  go_wp2_with fail
  go_returns
  exact ⟨rfl, rfl⟩
set_option maxRecDepth 100000 in
theorem pdq_0 (cf : Value) (w : World) : Calls Tryz.prog 40 #[.slice none 0 0, .int .i64 0, .int .i64 0, .int .i64 0, cf] w fun e w' => e = .returned (.tuple #[]) ∧ w' = w := by
  have HI := Lib.hid (ins_0 cf w)
  go_enter Tryz.func40, Tryz.ntmps40
  go_wp2_with fail
  refine wp_loop_rounds 1 ?_
  rw [rounds_succ]
  go_wp2_with fail
  refine HI.out.mono ?_
  rintro e w' ⟨rfl, rfl⟩
  go_wp2_with fail
  go_returns
  exact ⟨rfl, rfl⟩
set_option maxRecDepth 100000 in
theorem sortf_0 (cf : Value) (w : World) : Calls Tryz.prog 27 #[.slice none 0 0, cf] w fun e w' => e = .returned (.tuple #[]) ∧ w' = w := by
  have HI := Lib.hid (pdq_0 cf w)
  have HL := Lib.hid (len_0 w)
  go_enter Tryz.func27, Tryz.ntmps27
  go_wp2_with fail
  refine HL.out.mono ?_
  rintro e w' ⟨rfl, rfl⟩
  go_wp2_with fail
  refine HI.out.mono ?_
  rintro e w' ⟨rfl, rfl⟩
  go_wp2_with fail
  go_returns
  exact ⟨rfl, rfl⟩
set_option maxRecDepth 100000 in
set_option maxHeartbeats 8000000 in
theorem Held_none (w : World) (k : Bk w bb h l wt H L W) (hi : I64w id) (hz : ∀ x, x ∈ H → mdL x.2.2 id = 0) :
    Calls Tryz.prog 13 #[bPtr bb, .int .i64 id] w fun e w' => e = .returned (.slice none 0 0) ∧ Below w.heap.size w w' := by
  have K := Lib.hid k
  have HZ := Lib.hid hz
  have c0 : w.cell? ⟨bb, 0, none⟩ = some (.map (some h)) := k.blk.cell 0
  obtain ⟨w1, hr, hrg, hch, hsz⟩ := Rng.start k.hm kS Tryz.underlying48
  have HR := Lib.hid hrg
  have HC := Lib.hid hch
  clear hrg hch k hz
  unfold bPtr
  go_enter Tryz.func13, Tryz.ntmps13
  go_wp2_with fail
  clear hr c0
  go_loopw [5] (fun n wr => n = .slice none 0 0 ∧ ∃ (Dn R : List Hol), H.Perm (Dn ++ R) ∧ Hid (Rng wr Tryz.prog 9 h w.heap.size (hE H) (hE R)) ∧ Hid (Below w.heap.size w wr)) (fun _ wr => wr.rangeLeft h w.heap.size)
  case atStart => exact ⟨rfl, [], H, List.Perm.refl _, HR, Lib.hid (HC.out.below (Nat.le_refl _) (fun _ _ x => x.elim))⟩
  case round =>
    clear HR
    obtain ⟨rfl, Dn, R, hp, HR, HB⟩ := hrel
    have K1 := K.out.keepB HB.out
    have hnx := HR.out.next kS 0
    have hms := HR.out.left
    rcases hnx with ⟨hnil, hrun⟩ | ⟨key, p, L', w2, hk, hpE, hpL, hrun, hrg, hch, hsz2, hen⟩
    · have HS := Lib.hid (fun cf => sortf_0 cf wr)
      clear hnil
      go_wp2_with fail
      refine (HS.out _).mono ?_
      rintro e w' ⟨rfl, hww⟩
      rw [hww]
      clear hww hrun
      go_wp2_with fail
      go_returns
      exact ⟨rfl, HB.out⟩
    · obtain ⟨x, R', hpr, rfl, hpl⟩ := perm_map_cons _ hpL
      have B2 := Lib.hid (show Below w.heap.size w w2 from HB.out.trans (hch.below HB.out.size (fun i _ e => by rw [e]; exact Nat.le_refl _)))
      have hx : x ∈ H := hp.mem_iff.2 (List.mem_append_right _ (hpr.mem_iff.2 List.mem_cons_self))
      have e3 := ((K.out.keepB B2.out).hi x hx).look kI Tryz.underlying60 (zero_int w2) false (key_int id hi)
      rw [at_iE, HZ.out x hx] at e3
      have hR2 := Lib.hid (hrg.perm hpl.symm)
      have hm2 := hR2.out.left
      have hlen : (hE R).length = (hE R').length + 1 := by
        have := hpr.length_eq
        simp [hE, this]
      clear hrg hpl hpL hch
      simp only [Bool.false_eq_true, if_false] at e3
      go_wp2_with fail
      refine ⟨⟨rfl, Dn ++ [x], R', ?_, hR2, B2⟩, ?_⟩
      · rw [List.append_assoc]
        exact hp.trans (hpr.append_left Dn)
      · rw [show w2.rangeLeft h w.heap.size = (hE R').length from hm2, hms]
        omega
end
end Go.Proofs.YtikdjgholjealaaGreatDoor.Lk
