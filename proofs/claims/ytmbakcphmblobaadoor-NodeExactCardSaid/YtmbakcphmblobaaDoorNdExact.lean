/- NodeExact, walked. -/
import Derived.Test.YtmbakcphmblobaaDoorNdK
import Derived.Test.YtmbakcphmblobaaDoorNdS
import Derived.Test.YtmbakcphmblobaaDoorNdF
import Derived.Test.YtmbakcphmblobaaDoorNdBy
import Derived.Test.YtmbakcphmblobaaDoorNdQ
import Derived.Deep.RegionHeld3
namespace Go.Proofs.YtmbakcphmblobaaDoor.Nd
open Go.ChangeShapes Go.WideShapes Go.ChangeAt Go.RowKit Go.PlainAid Aid Cr Nt
set_option linter.unusedVariables false
set_option linter.unusedSimpArgs false
theorem join_own {w0 w w' : World} {O0 : Nat → Prop} {A B : Asn} (h : Own w0 O0 w A) (k : Own w No w' B) : Own w0 O0 w' (B * A) :=
  h.then fun O hO => k.frame hO (fun _ h => h.elim) (fun _ => ⟨Or.inr, fun h => h.elim (fun x => x.elim) id⟩)
theorem zero_node (w : World) : NodAt w (.agg zero7) Nod.none := ⟨_, rfl, none, 0, rfl, Nat.zero_le _, Or.inl rfl⟩
set_option maxRecDepth 100000 in
set_option maxHeartbeats 32000000 in
theorem exact_any (n : Nod) (va : Value) (s : ByteArray) (w : World) (hv : NodAt w va n) (ht : Tab w) (hs : s.size ≤ maxLen) :
    Calls Tryd.prog 4 #[va, .string s] w fun e w' => e = .returned (.bool true) ∧ Below w.heap.size w w' := by
  obtain ⟨l, hl⟩ : ∃ l : By, s = ofL l := ⟨s.data.toList, (ofL_back s).symm⟩
  have HT := Lib.hid ht
  have HA := Lib.hid (fun w ht => awake_any w ht)
  have HV := Lib.hid hv
  have GA : Hid (∀ w', Below w.heap.size w w' → _) := Lib.hid (fun w' (hb : Below w.heap.size w w') => great_small n va w' (hv.keep hb))
  have EG : Hid (∀ w', Below w.heap.size w w' → _) := Lib.hid (fun w' (hb : Below w.heap.size w w') => refGood_any n va w' (hv.keep hb))
  have EZ : Hid (∀ w', Below w.heap.size w w' → sizeN n < 4611686018427387904 → _) := Lib.hid (fun w' (hb : Below w.heap.size w w') hz => refSize_any n va w' (hv.keep hb) hz)
  have EB : Hid (∀ w', Below w.heap.size w w' → Tab w' → _) := Lib.hid (fun w' (hb : Below w.heap.size w w') ht => Bytes_any n va w' (hv.keep hb) ht)
  have PG : Hid (∀ w', Below w.heap.size w w' → _) := Lib.hid (fun w' (hb : Below w.heap.size w w') => Good_any n va w' (hv.keep hb))
  have PF : Hid (∀ w', Below w.heap.size w w' → _) := Lib.hid (fun w' (hb : Below w.heap.size w w') => Fits_any n va w' (hv.keep hb))
  have PZ : Hid (∀ w', Below w.heap.size w w' → sizeN n < 4611686018427387904 → _) := Lib.hid (fun w' (hb : Below w.heap.size w w') hz => Size_any n va w' (hv.keep hb) hz)
  have RB : Hid (∀ w', Below w.heap.size w w' → goodB n = true → _) := Lib.hid (fun w' (hb : Below w.heap.size w w') hg => refBytes_any n va w' (hv.keep hb) hg)
  obtain ⟨p, rfl, hp⟩ := hv
  obtain ⟨A1, m1, rfl⟩ := hp.slice
  have S0 := Lib.hid ((Own.none w).alloc (nodCells n (.slice A1 n.list.length m1)) 64)
  have HL := Lib.hid hl
  clear hl ht hp
  unfold nodCells at *
  go_enter Tryd.func4, Tryd.ntmps4
  go_upto_region 1 with fail
  obtain ⟨g1, hg1⟩ : ∃ g, g = w.heap.size := ⟨_, rfl⟩
  rw [← hg1] at S0 ⊢
  clear hg1
  generalize w.alloc _ = w0 at *
  go_wp2_with fail
  refine (HA.out _ (Tab.own HT.out S0.out)).mono ?_
  rintro e w1 ⟨rfl, hX⟩
  have S1 := Lib.hid (S0.out.below hX)
  clear hX S0 HA
  obtain ⟨c0, c1, c2, c3, c4, c5, c6⟩ := nod_cells (S1.out.has (Has.l (has_blk _ _ _)))
  go_wp2_with fail
  refine (GA.out _ S1.out.bel).mono ?_
  rintro e w2 ⟨hE, hX⟩
  have S2 := Lib.hid (S1.out.below hX)
  clear hX S1 GA c0 c1 c2 c3 c4 c5 c6
  rcases hE with rfl | ⟨rfl, hsn⟩
  · go_wp2_with fail
    go_returns
    exact ⟨rfl, S2.out.bel⟩
  have hz : sizeN n < 4611686018427387904 := by
    have h1 := sizeL_bound n.list 200 (fun e he => (hsn.ky e he).2)
    have h2 : (11 + 200) * n.list.length ≤ 211 * 120 := Nat.mul_le_mul (by decide) hsn.ll
    unfold sizeN; omega
  have EZ1 : Hid (∀ w', Below w.heap.size w w' → _) := Lib.hid (fun w' hb => EZ.out w' hb hz)
  have PZ1 : Hid (∀ w', Below w.heap.size w w' → _) := Lib.hid (fun w' hb => PZ.out w' hb hz)
  have hz2 : sizeN n ≤ 30000 := by
    have h1 := sizeL_bound n.list 200 (fun e he => (hsn.ky e he).2)
    have h2 : (11 + 200) * n.list.length ≤ 211 * 120 := Nat.mul_le_mul (by decide) hsn.ll
    unfold sizeN; omega
  clear hsn EZ PZ hz
  by_cases h4 : 512 < s.size
  · go_wp2_with fail
    go_returns
    exact ⟨rfl, S2.out.bel⟩
  have hls : l.length ≤ 512 := by have := HL.out; rw [this, ofL_sz] at h4; omega
  have ER := Lib.hid (fun w' ht => Read_own l w' ht)
  have EQ := Lib.hid (fun w' => refRead_any l w' (by omega))
  rw [← HL.out] at ER EQ
  clear HL hls
  generalize readN l = R at *
  have hfit : fitsB n = (goodB n && decide (sizeN n ≤ 252)) := rfl
  have hbv : bytesV n = if fitsB n then .tuple #[.string (ofL (bytes n)), .int .i64 0] else if goodB n then .tuple #[.string ⟨#[]⟩, .int .i64 5] else .tuple #[.string ⟨#[]⟩, .int .i64 1] := rfl
  generalize bytesV n = bv at *
  generalize fitsB n = f at *
  generalize ofL (bytes n) = xb at *
  generalize hgd : goodB n = gd at *
  generalize hzz : sizeN n = z at *
  clear hzz
  obtain ⟨c0, c1, c2, c3, c4, c5, c6⟩ := nod_cells (S2.out.has (Has.l (has_blk _ _ _)))
  go_wp2_with fail
  refine (EG.out _ S2.out.bel).mono ?_
  rintro e w3 ⟨rfl, hX⟩
  have S3 := Lib.hid (S2.out.below hX)
  clear hX S2 c0 c1 c2 c3 c4 c5 c6
  cases gd with
  | false =>
    have hf : f = false := by rw [hfit]; rfl
    subst hf
    rw [if_neg (by decide), if_neg (by decide)] at hbv
    subst hbv
    clear hfit RB
    obtain ⟨c0, c1, c2, c3, c4, c5, c6⟩ := nod_cells (S3.out.has (Has.l (has_blk _ _ _)))
    go_wp2_with fail
    refine (EB.out _ S3.out.bel (Tab.own HT.out S3.out)).mono ?_
    rintro e w4 ⟨rfl, hX⟩
    have S4 := Lib.hid (S3.out.below hX)
    clear hX S3 EB c0 c1 c2 c3 c4 c5 c6
    go_upto_region 8 with fail
    have F1 : Hid (∀ W, Hid (Own w No W (Asn.blk g1 64 #[.int .i64 n.tree, .int .i64 n.level, .int .i64 n.stamp, .bool n.has, .string (ofL n.high), .int .i64 n.right, .slice A1 n.list.length m1] * Asn.emp)) → W.cell? ⟨g1, 0, none⟩ = some (.int .i64 n.tree) ∧ W.cell? ⟨g1, 1, none⟩ = some (.int .i64 n.level) ∧ W.cell? ⟨g1, 2, none⟩ = some (.int .i64 n.stamp) ∧ W.cell? ⟨g1, 3, none⟩ = some (.bool n.has) ∧ W.cell? ⟨g1, 4, none⟩ = some (.string (ofL n.high)) ∧ W.cell? ⟨g1, 5, none⟩ = some (.int .i64 n.right) ∧ W.cell? ⟨g1, 6, none⟩ = some (.slice A1 n.list.length m1)) := Lib.hid fun W h => nod_cells (h.out.has (Has.l (has_blk _ _ _)))
    have HO : Hid (∀ W W', Below W.heap.size W W' → Hid (Own w No W (Asn.blk g1 64 #[.int .i64 n.tree, .int .i64 n.level, .int .i64 n.stamp, .bool n.has, .string (ofL n.high), .int .i64 n.right, .slice A1 n.list.length m1] * Asn.emp)) → Hid (Own w No W' (Asn.blk g1 64 #[.int .i64 n.tree, .int .i64 n.level, .int .i64 n.stamp, .bool n.has, .string (ofL n.high), .int .i64 n.right, .slice A1 n.list.length m1] * Asn.emp))) := Lib.hid fun W W' hb h => Lib.hid (h.out.below hb)
    have SD := Lib.hid S4.out.drew
    have t0 := F1.out _ SD
    go_region_held3 (fun W => (W.cell? ⟨g1, 0, none⟩ = some (.int .i64 n.tree) ∧ W.cell? ⟨g1, 1, none⟩ = some (.int .i64 n.level) ∧ W.cell? ⟨g1, 2, none⟩ = some (.int .i64 n.stamp) ∧ W.cell? ⟨g1, 3, none⟩ = some (.bool n.has) ∧ W.cell? ⟨g1, 4, none⟩ = some (.string (ofL n.high)) ∧ W.cell? ⟨g1, 5, none⟩ = some (.int .i64 n.right) ∧ W.cell? ⟨g1, 6, none⟩ = some (.slice A1 n.list.length m1)) ∧ Hid (Own w No W (Asn.blk g1 64 #[.int .i64 n.tree, .int .i64 n.level, .int .i64 n.stamp, .bool n.has, .string (ofL n.high), .int .i64 n.right, .slice A1 n.list.length m1] * Asn.emp))) (first | exact ⟨t0, SD⟩ | exact ⟨t20, s20⟩) (first | (go_at_call 30; have sx : Hid (Own w No _ (Asn.blk g1 64 #[.int .i64 n.tree, .int .i64 n.level, .int .i64 n.stamp, .bool n.has, .string (ofL n.high), .int .i64 n.right, .slice A1 n.list.length m1] * Asn.emp)) := (by assumption); refine (PG.out _ sx.out.bel).mono ?_; rintro e w20 ⟨rfl, hb20⟩; have s20 := HO.out _ _ hb20 sx; have t20 := F1.out _ s20) | (go_at_call 31; have sx : Hid (Own w No _ (Asn.blk g1 64 #[.int .i64 n.tree, .int .i64 n.level, .int .i64 n.stamp, .bool n.has, .string (ofL n.high), .int .i64 n.right, .slice A1 n.list.length m1] * Asn.emp)) := (by assumption); refine (PF.out _ sx.out.bel).mono ?_; rintro e w20 ⟨rfl, hb20⟩; have s20 := HO.out _ _ hb20 sx; have t20 := F1.out _ s20) | (go_at_call 32; have sx : Hid (Own w No _ (Asn.blk g1 64 #[.int .i64 n.tree, .int .i64 n.level, .int .i64 n.stamp, .bool n.has, .string (ofL n.high), .int .i64 n.right, .slice A1 n.list.length m1] * Asn.emp)) := (by assumption); refine (PZ1.out _ sx.out.bel).mono ?_; rintro e w20 ⟨rfl, hb20⟩; have s20 := HO.out _ _ hb20 sx; have t20 := F1.out _ s20) | (go_at_call 28; have sx : Hid (Own w No _ (Asn.blk g1 64 #[.int .i64 n.tree, .int .i64 n.level, .int .i64 n.stamp, .bool n.has, .string (ofL n.high), .int .i64 n.right, .slice A1 n.list.length m1] * Asn.emp)) := (by assumption); refine (EZ1.out _ sx.out.bel).mono ?_; rintro e w20 ⟨rfl, hb20⟩; have s20 := HO.out _ _ hb20 sx; have t20 := F1.out _ s20))
    have SX := s20
    clear t0 t20 sx s20 SD S4 hb20 F1 HO PG PF PZ1 EZ1
    have SY := SX
    clear SX
    go_wp2_with fail
    refine (ER.out _ (Tab.own HT.out SY.out)).mono ?_
    rintro e wr1 ⟨p1, rfl, hX⟩
    have T1 := join_own SY.out hX
    clear hX SY ER
    cases R with
    | none =>
      unfold rN rV at *
      try dsimp only at *
      obtain ⟨B1, n1, rfl⟩ := T1.left.addEmp.vec.slice
      have T2 := Lib.hid (T1.alloc (nodCells Nod.none (.slice B1 Nod.none.list.length n1)) 64)
      clear T1
      unfold nodCells Nod.none at *
      try dsimp only at *
      go_upto_region 13 with fail
      obtain ⟨gx, hgz⟩ : ∃ g, g = wr1.heap.size := ⟨_, rfl⟩
      rw [← hgz] at T2 ⊢
      clear hgz
      generalize wr1.alloc _ = wr2 at *
      go_wp2_with fail
      refine (EQ.out _).mono ?_
      rintro e wr3 ⟨r1, rfl, hX⟩
      have T3 := join_own T2.out hX
      clear hX T2 EQ
      unfold dV at *
      try unfold rN at *
      try unfold nodCells Nod.none at *
      try dsimp only at *
      obtain ⟨D1, k1, rfl⟩ := T3.left.addEmp.vec.slice
      have T4 := Lib.hid (T3.alloc (nodCells Nod.none (.slice D1 Nod.none.list.length k1)) 64)
      clear T3
      unfold nodCells Nod.none at T4
      try dsimp only at *
      go_upto_region 14 with fail
      generalize wr3.alloc _ = wr4 at *
      have T5 := Lib.hid T4.out.right.right
      clear T4
      have ESm := Lib.hid (refSame_any Nod.none Nod.none _ (.agg zero7) wr4 (ents_at T5.out.right.left) (zero_node _))
      rw [decide_eq_true rfl] at ESm
      unfold nodCells zero7 Nod.none at ESm
      try dsimp only at ESm
      obtain ⟨c0, c1, c2, c3, c4, c5, c6⟩ := nod_cells (T5.out.has (Has.l (has_blk _ _ _)))
      go_wp2_with fail
      refine ESm.out.mono ?_
      rintro e wr5 ⟨rfl, hX⟩
      have T6 := Lib.hid (T5.out.below hX)
      clear hX T5 ESm c0 c1 c2 c3 c4 c5 c6
      go_wp2_with fail
      go_returns
      exact ⟨rfl, T6.out.bel⟩
    | some r =>
      unfold rN rV at *
      try dsimp only at *
      obtain ⟨B1, n1, rfl⟩ := T1.left.addEmp.vec.slice
      have T2 := Lib.hid (T1.alloc (nodCells r (.slice B1 r.list.length n1)) 64)
      clear T1
      unfold nodCells at *
      try dsimp only at *
      go_upto_region 13 with fail
      obtain ⟨gx, hgz⟩ : ∃ g, g = wr1.heap.size := ⟨_, rfl⟩
      rw [← hgz] at T2 ⊢
      clear hgz
      generalize wr1.alloc _ = wr2 at *
      go_wp2_with fail
      refine (EQ.out _).mono ?_
      rintro e wr3 ⟨r1, rfl, hX⟩
      have T3 := join_own T2.out hX
      clear hX T2 EQ
      unfold dV at *
      try unfold rN at *
      try unfold nodCells at *
      try dsimp only at *
      obtain ⟨D1, k1, rfl⟩ := T3.left.addEmp.vec.slice
      have T4 := Lib.hid (T3.alloc (nodCells r (.slice D1 r.list.length k1)) 64)
      clear T3
      unfold nodCells at T4
      try dsimp only at *
      go_upto_region 14 with fail
      obtain ⟨gy, hgz⟩ : ∃ g, g = wr3.heap.size := ⟨_, rfl⟩
      rw [← hgz] at T4 ⊢
      clear hgz
      generalize wr3.alloc _ = wr4 at *
      have ESm := Lib.hid (refSame_any r r _ _ wr4 (ents_at T4.out.right.right.right.left) (ents_at T4.out.right.left))
      rw [decide_eq_true rfl] at ESm
      unfold nodCells at ESm
      try dsimp only at ESm
      obtain ⟨c0, c1, c2, c3, c4, c5, c6⟩ := nod_cells (T4.out.has (Has.l (has_blk _ _ _)))
      obtain ⟨b0, b1, b2, b3, b4, b5, b6⟩ := nod_cells (T4.out.has (Has.r (Has.r (Has.l (has_blk _ _ _)))))
      go_wp2_with fail
      refine ESm.out.mono ?_
      rintro e wr5 ⟨rfl, hX⟩
      have T6 := Lib.hid (T4.out.below hX)
      clear hX T4 ESm c0 c1 c2 c3 c4 c5 c6 b0 b1 b2 b3 b4 b5 b6
      go_wp2_with fail
      go_returns
      exact ⟨rfl, T6.out.bel⟩
  | true =>
    have RB2 : Hid (∀ w', Below w.heap.size w w' → _) := Lib.hid (fun w' hb => RB.out w' hb rfl)
    clear RB
    by_cases h252 : z ≤ 252
    · have hf : f = true := by rw [hfit, decide_eq_true h252]; rfl
      subst hf
      rw [if_pos rfl] at hbv
      subst hbv
      have hd1 : decide ((z : Int) ≤ 252) = true := decide_eq_true (by omega)
      clear hfit
      obtain ⟨c0, c1, c2, c3, c4, c5, c6⟩ := nod_cells (S3.out.has (Has.l (has_blk _ _ _)))
      go_wp2_with fail
      refine (EZ1.out _ S3.out.bel).mono ?_
      rintro e w4 ⟨rfl, hX⟩
      have S4 := Lib.hid (S3.out.below hX)
      clear hX S3 c0 c1 c2 c3 c4 c5 c6
      obtain ⟨c0, c1, c2, c3, c4, c5, c6⟩ := nod_cells (S4.out.has (Has.l (has_blk _ _ _)))
      go_wp2_with fail
      refine (EB.out _ S4.out.bel (Tab.own HT.out S4.out)).mono ?_
      rintro e w5 ⟨rfl, hX⟩
      have S5 := Lib.hid (S4.out.below hX)
      clear hX S4 EB c0 c1 c2 c3 c4 c5 c6
      go_upto_region 8 with fail
      have F1 : Hid (∀ W, Hid (Own w No W (Asn.blk g1 64 #[.int .i64 n.tree, .int .i64 n.level, .int .i64 n.stamp, .bool n.has, .string (ofL n.high), .int .i64 n.right, .slice A1 n.list.length m1] * Asn.emp)) → W.cell? ⟨g1, 0, none⟩ = some (.int .i64 n.tree) ∧ W.cell? ⟨g1, 1, none⟩ = some (.int .i64 n.level) ∧ W.cell? ⟨g1, 2, none⟩ = some (.int .i64 n.stamp) ∧ W.cell? ⟨g1, 3, none⟩ = some (.bool n.has) ∧ W.cell? ⟨g1, 4, none⟩ = some (.string (ofL n.high)) ∧ W.cell? ⟨g1, 5, none⟩ = some (.int .i64 n.right) ∧ W.cell? ⟨g1, 6, none⟩ = some (.slice A1 n.list.length m1)) := Lib.hid fun W h => nod_cells (h.out.has (Has.l (has_blk _ _ _)))
      have HO : Hid (∀ W W', Below W.heap.size W W' → Hid (Own w No W (Asn.blk g1 64 #[.int .i64 n.tree, .int .i64 n.level, .int .i64 n.stamp, .bool n.has, .string (ofL n.high), .int .i64 n.right, .slice A1 n.list.length m1] * Asn.emp)) → Hid (Own w No W' (Asn.blk g1 64 #[.int .i64 n.tree, .int .i64 n.level, .int .i64 n.stamp, .bool n.has, .string (ofL n.high), .int .i64 n.right, .slice A1 n.list.length m1] * Asn.emp))) := Lib.hid fun W W' hb h => Lib.hid (h.out.below hb)
      have SD := Lib.hid S5.out.drew
      have t0 := F1.out _ SD
      go_region_held3 (fun W => (W.cell? ⟨g1, 0, none⟩ = some (.int .i64 n.tree) ∧ W.cell? ⟨g1, 1, none⟩ = some (.int .i64 n.level) ∧ W.cell? ⟨g1, 2, none⟩ = some (.int .i64 n.stamp) ∧ W.cell? ⟨g1, 3, none⟩ = some (.bool n.has) ∧ W.cell? ⟨g1, 4, none⟩ = some (.string (ofL n.high)) ∧ W.cell? ⟨g1, 5, none⟩ = some (.int .i64 n.right) ∧ W.cell? ⟨g1, 6, none⟩ = some (.slice A1 n.list.length m1)) ∧ Hid (Own w No W (Asn.blk g1 64 #[.int .i64 n.tree, .int .i64 n.level, .int .i64 n.stamp, .bool n.has, .string (ofL n.high), .int .i64 n.right, .slice A1 n.list.length m1] * Asn.emp))) (first | exact ⟨t0, SD⟩ | exact ⟨t20, s20⟩) (first | (go_at_call 30; have sx : Hid (Own w No _ (Asn.blk g1 64 #[.int .i64 n.tree, .int .i64 n.level, .int .i64 n.stamp, .bool n.has, .string (ofL n.high), .int .i64 n.right, .slice A1 n.list.length m1] * Asn.emp)) := (by assumption); refine (PG.out _ sx.out.bel).mono ?_; rintro e w20 ⟨rfl, hb20⟩; have s20 := HO.out _ _ hb20 sx; have t20 := F1.out _ s20) | (go_at_call 31; have sx : Hid (Own w No _ (Asn.blk g1 64 #[.int .i64 n.tree, .int .i64 n.level, .int .i64 n.stamp, .bool n.has, .string (ofL n.high), .int .i64 n.right, .slice A1 n.list.length m1] * Asn.emp)) := (by assumption); refine (PF.out _ sx.out.bel).mono ?_; rintro e w20 ⟨rfl, hb20⟩; have s20 := HO.out _ _ hb20 sx; have t20 := F1.out _ s20) | (go_at_call 32; have sx : Hid (Own w No _ (Asn.blk g1 64 #[.int .i64 n.tree, .int .i64 n.level, .int .i64 n.stamp, .bool n.has, .string (ofL n.high), .int .i64 n.right, .slice A1 n.list.length m1] * Asn.emp)) := (by assumption); refine (PZ1.out _ sx.out.bel).mono ?_; rintro e w20 ⟨rfl, hb20⟩; have s20 := HO.out _ _ hb20 sx; have t20 := F1.out _ s20) | (go_at_call 28; have sx : Hid (Own w No _ (Asn.blk g1 64 #[.int .i64 n.tree, .int .i64 n.level, .int .i64 n.stamp, .bool n.has, .string (ofL n.high), .int .i64 n.right, .slice A1 n.list.length m1] * Asn.emp)) := (by assumption); refine (EZ1.out _ sx.out.bel).mono ?_; rintro e w20 ⟨rfl, hb20⟩; have s20 := HO.out _ _ hb20 sx; have t20 := F1.out _ s20))
      have SX := s20
      clear t0 t20 sx s20 SD S5 hb20 F1 HO PG PF PZ1 EZ1
      obtain ⟨c0, c1, c2, c3, c4, c5, c6⟩ := nod_cells (SX.out.has (Has.l (has_blk _ _ _)))
      go_wp2_with fail
      refine (RB2.out _ SX.out.bel).mono ?_
      rintro e wx ⟨rfl, hX⟩
      have SY := Lib.hid (SX.out.below hX)
      clear hX SX RB2 c0 c1 c2 c3 c4 c5 c6
      go_wp2_with fail
      refine (ER.out _ (Tab.own HT.out SY.out)).mono ?_
      rintro e wr1 ⟨p1, rfl, hX⟩
      have T1 := join_own SY.out hX
      clear hX SY ER
      cases R with
      | none =>
        unfold rN rV at *
        try dsimp only at *
        obtain ⟨B1, n1, rfl⟩ := T1.left.addEmp.vec.slice
        have T2 := Lib.hid (T1.alloc (nodCells Nod.none (.slice B1 Nod.none.list.length n1)) 64)
        clear T1
        unfold nodCells Nod.none at *
        try dsimp only at *
        go_upto_region 13 with fail
        obtain ⟨gx, hgz⟩ : ∃ g, g = wr1.heap.size := ⟨_, rfl⟩
        rw [← hgz] at T2 ⊢
        clear hgz
        generalize wr1.alloc _ = wr2 at *
        go_wp2_with fail
        refine (EQ.out _).mono ?_
        rintro e wr3 ⟨r1, rfl, hX⟩
        have T3 := join_own T2.out hX
        clear hX T2 EQ
        unfold dV at *
        try unfold rN at *
        try unfold nodCells Nod.none at *
        try dsimp only at *
        obtain ⟨D1, k1, rfl⟩ := T3.left.addEmp.vec.slice
        have T4 := Lib.hid (T3.alloc (nodCells Nod.none (.slice D1 Nod.none.list.length k1)) 64)
        clear T3
        unfold nodCells Nod.none at T4
        try dsimp only at *
        go_upto_region 14 with fail
        generalize wr3.alloc _ = wr4 at *
        have T5 := Lib.hid T4.out.right.right
        clear T4
        have ESm := Lib.hid (refSame_any Nod.none Nod.none _ (.agg zero7) wr4 (ents_at T5.out.right.left) (zero_node _))
        rw [decide_eq_true rfl] at ESm
        unfold nodCells zero7 Nod.none at ESm
        try dsimp only at ESm
        obtain ⟨c0, c1, c2, c3, c4, c5, c6⟩ := nod_cells (T5.out.has (Has.l (has_blk _ _ _)))
        go_wp2_with fail
        refine ESm.out.mono ?_
        rintro e wr5 ⟨rfl, hX⟩
        have T6 := Lib.hid (T5.out.below hX)
        clear hX T5 ESm c0 c1 c2 c3 c4 c5 c6
        go_wp2_with fail
        go_returns
        exact ⟨rfl, T6.out.bel⟩
      | some r =>
        unfold rN rV at *
        try dsimp only at *
        obtain ⟨B1, n1, rfl⟩ := T1.left.addEmp.vec.slice
        have T2 := Lib.hid (T1.alloc (nodCells r (.slice B1 r.list.length n1)) 64)
        clear T1
        unfold nodCells at *
        try dsimp only at *
        go_upto_region 13 with fail
        obtain ⟨gx, hgz⟩ : ∃ g, g = wr1.heap.size := ⟨_, rfl⟩
        rw [← hgz] at T2 ⊢
        clear hgz
        generalize wr1.alloc _ = wr2 at *
        go_wp2_with fail
        refine (EQ.out _).mono ?_
        rintro e wr3 ⟨r1, rfl, hX⟩
        have T3 := join_own T2.out hX
        clear hX T2 EQ
        unfold dV at *
        try unfold rN at *
        try unfold nodCells at *
        try dsimp only at *
        obtain ⟨D1, k1, rfl⟩ := T3.left.addEmp.vec.slice
        have T4 := Lib.hid (T3.alloc (nodCells r (.slice D1 r.list.length k1)) 64)
        clear T3
        unfold nodCells at T4
        try dsimp only at *
        go_upto_region 14 with fail
        obtain ⟨gy, hgz⟩ : ∃ g, g = wr3.heap.size := ⟨_, rfl⟩
        rw [← hgz] at T4 ⊢
        clear hgz
        generalize wr3.alloc _ = wr4 at *
        have ESm := Lib.hid (refSame_any r r _ _ wr4 (ents_at T4.out.right.right.right.left) (ents_at T4.out.right.left))
        rw [decide_eq_true rfl] at ESm
        unfold nodCells at ESm
        try dsimp only at ESm
        obtain ⟨c0, c1, c2, c3, c4, c5, c6⟩ := nod_cells (T4.out.has (Has.l (has_blk _ _ _)))
        obtain ⟨b0, b1, b2, b3, b4, b5, b6⟩ := nod_cells (T4.out.has (Has.r (Has.r (Has.l (has_blk _ _ _)))))
        go_wp2_with fail
        refine ESm.out.mono ?_
        rintro e wr5 ⟨rfl, hX⟩
        have T6 := Lib.hid (T4.out.below hX)
        clear hX T4 ESm c0 c1 c2 c3 c4 c5 c6 b0 b1 b2 b3 b4 b5 b6
        go_wp2_with fail
        go_returns
        exact ⟨rfl, T6.out.bel⟩
    · have hf : f = false := by rw [hfit, decide_eq_false h252]; rfl
      subst hf
      rw [if_neg (by decide), if_pos rfl] at hbv
      subst hbv
      have hd1 : decide ((z : Int) ≤ 252) = false := decide_eq_false (by omega)
      clear hfit RB2
      obtain ⟨c0, c1, c2, c3, c4, c5, c6⟩ := nod_cells (S3.out.has (Has.l (has_blk _ _ _)))
      go_wp2_with fail
      refine (EZ1.out _ S3.out.bel).mono ?_
      rintro e w4 ⟨rfl, hX⟩
      have S4 := Lib.hid (S3.out.below hX)
      clear hX S3 c0 c1 c2 c3 c4 c5 c6
      obtain ⟨c0, c1, c2, c3, c4, c5, c6⟩ := nod_cells (S4.out.has (Has.l (has_blk _ _ _)))
      go_wp2_with fail
      refine (EB.out _ S4.out.bel (Tab.own HT.out S4.out)).mono ?_
      rintro e w5 ⟨rfl, hX⟩
      have S5 := Lib.hid (S4.out.below hX)
      clear hX S4 EB c0 c1 c2 c3 c4 c5 c6
      go_upto_region 8 with fail
      have F1 : Hid (∀ W, Hid (Own w No W (Asn.blk g1 64 #[.int .i64 n.tree, .int .i64 n.level, .int .i64 n.stamp, .bool n.has, .string (ofL n.high), .int .i64 n.right, .slice A1 n.list.length m1] * Asn.emp)) → W.cell? ⟨g1, 0, none⟩ = some (.int .i64 n.tree) ∧ W.cell? ⟨g1, 1, none⟩ = some (.int .i64 n.level) ∧ W.cell? ⟨g1, 2, none⟩ = some (.int .i64 n.stamp) ∧ W.cell? ⟨g1, 3, none⟩ = some (.bool n.has) ∧ W.cell? ⟨g1, 4, none⟩ = some (.string (ofL n.high)) ∧ W.cell? ⟨g1, 5, none⟩ = some (.int .i64 n.right) ∧ W.cell? ⟨g1, 6, none⟩ = some (.slice A1 n.list.length m1)) := Lib.hid fun W h => nod_cells (h.out.has (Has.l (has_blk _ _ _)))
      have HO : Hid (∀ W W', Below W.heap.size W W' → Hid (Own w No W (Asn.blk g1 64 #[.int .i64 n.tree, .int .i64 n.level, .int .i64 n.stamp, .bool n.has, .string (ofL n.high), .int .i64 n.right, .slice A1 n.list.length m1] * Asn.emp)) → Hid (Own w No W' (Asn.blk g1 64 #[.int .i64 n.tree, .int .i64 n.level, .int .i64 n.stamp, .bool n.has, .string (ofL n.high), .int .i64 n.right, .slice A1 n.list.length m1] * Asn.emp))) := Lib.hid fun W W' hb h => Lib.hid (h.out.below hb)
      have SD := Lib.hid S5.out.drew
      have t0 := F1.out _ SD
      go_region_held3 (fun W => (W.cell? ⟨g1, 0, none⟩ = some (.int .i64 n.tree) ∧ W.cell? ⟨g1, 1, none⟩ = some (.int .i64 n.level) ∧ W.cell? ⟨g1, 2, none⟩ = some (.int .i64 n.stamp) ∧ W.cell? ⟨g1, 3, none⟩ = some (.bool n.has) ∧ W.cell? ⟨g1, 4, none⟩ = some (.string (ofL n.high)) ∧ W.cell? ⟨g1, 5, none⟩ = some (.int .i64 n.right) ∧ W.cell? ⟨g1, 6, none⟩ = some (.slice A1 n.list.length m1)) ∧ Hid (Own w No W (Asn.blk g1 64 #[.int .i64 n.tree, .int .i64 n.level, .int .i64 n.stamp, .bool n.has, .string (ofL n.high), .int .i64 n.right, .slice A1 n.list.length m1] * Asn.emp))) (first | exact ⟨t0, SD⟩ | exact ⟨t20, s20⟩) (first | (go_at_call 30; have sx : Hid (Own w No _ (Asn.blk g1 64 #[.int .i64 n.tree, .int .i64 n.level, .int .i64 n.stamp, .bool n.has, .string (ofL n.high), .int .i64 n.right, .slice A1 n.list.length m1] * Asn.emp)) := (by assumption); refine (PG.out _ sx.out.bel).mono ?_; rintro e w20 ⟨rfl, hb20⟩; have s20 := HO.out _ _ hb20 sx; have t20 := F1.out _ s20) | (go_at_call 31; have sx : Hid (Own w No _ (Asn.blk g1 64 #[.int .i64 n.tree, .int .i64 n.level, .int .i64 n.stamp, .bool n.has, .string (ofL n.high), .int .i64 n.right, .slice A1 n.list.length m1] * Asn.emp)) := (by assumption); refine (PF.out _ sx.out.bel).mono ?_; rintro e w20 ⟨rfl, hb20⟩; have s20 := HO.out _ _ hb20 sx; have t20 := F1.out _ s20) | (go_at_call 32; have sx : Hid (Own w No _ (Asn.blk g1 64 #[.int .i64 n.tree, .int .i64 n.level, .int .i64 n.stamp, .bool n.has, .string (ofL n.high), .int .i64 n.right, .slice A1 n.list.length m1] * Asn.emp)) := (by assumption); refine (PZ1.out _ sx.out.bel).mono ?_; rintro e w20 ⟨rfl, hb20⟩; have s20 := HO.out _ _ hb20 sx; have t20 := F1.out _ s20) | (go_at_call 28; have sx : Hid (Own w No _ (Asn.blk g1 64 #[.int .i64 n.tree, .int .i64 n.level, .int .i64 n.stamp, .bool n.has, .string (ofL n.high), .int .i64 n.right, .slice A1 n.list.length m1] * Asn.emp)) := (by assumption); refine (EZ1.out _ sx.out.bel).mono ?_; rintro e w20 ⟨rfl, hb20⟩; have s20 := HO.out _ _ hb20 sx; have t20 := F1.out _ s20))
      have SX := s20
      clear t0 t20 sx s20 SD S5 hb20 F1 HO PG PF PZ1 EZ1
      have SY := SX
      clear SX
      go_wp2_with fail
      refine (ER.out _ (Tab.own HT.out SY.out)).mono ?_
      rintro e wr1 ⟨p1, rfl, hX⟩
      have T1 := join_own SY.out hX
      clear hX SY ER
      cases R with
      | none =>
        unfold rN rV at *
        try dsimp only at *
        obtain ⟨B1, n1, rfl⟩ := T1.left.addEmp.vec.slice
        have T2 := Lib.hid (T1.alloc (nodCells Nod.none (.slice B1 Nod.none.list.length n1)) 64)
        clear T1
        unfold nodCells Nod.none at *
        try dsimp only at *
        go_upto_region 13 with fail
        obtain ⟨gx, hgz⟩ : ∃ g, g = wr1.heap.size := ⟨_, rfl⟩
        rw [← hgz] at T2 ⊢
        clear hgz
        generalize wr1.alloc _ = wr2 at *
        go_wp2_with fail
        refine (EQ.out _).mono ?_
        rintro e wr3 ⟨r1, rfl, hX⟩
        have T3 := join_own T2.out hX
        clear hX T2 EQ
        unfold dV at *
        try unfold rN at *
        try unfold nodCells Nod.none at *
        try dsimp only at *
        obtain ⟨D1, k1, rfl⟩ := T3.left.addEmp.vec.slice
        have T4 := Lib.hid (T3.alloc (nodCells Nod.none (.slice D1 Nod.none.list.length k1)) 64)
        clear T3
        unfold nodCells Nod.none at T4
        try dsimp only at *
        go_upto_region 14 with fail
        generalize wr3.alloc _ = wr4 at *
        have T5 := Lib.hid T4.out.right.right
        clear T4
        have ESm := Lib.hid (refSame_any Nod.none Nod.none _ (.agg zero7) wr4 (ents_at T5.out.right.left) (zero_node _))
        rw [decide_eq_true rfl] at ESm
        unfold nodCells zero7 Nod.none at ESm
        try dsimp only at ESm
        obtain ⟨c0, c1, c2, c3, c4, c5, c6⟩ := nod_cells (T5.out.has (Has.l (has_blk _ _ _)))
        go_wp2_with fail
        refine ESm.out.mono ?_
        rintro e wr5 ⟨rfl, hX⟩
        have T6 := Lib.hid (T5.out.below hX)
        clear hX T5 ESm c0 c1 c2 c3 c4 c5 c6
        go_wp2_with fail
        go_returns
        exact ⟨rfl, T6.out.bel⟩
      | some r =>
        unfold rN rV at *
        try dsimp only at *
        obtain ⟨B1, n1, rfl⟩ := T1.left.addEmp.vec.slice
        have T2 := Lib.hid (T1.alloc (nodCells r (.slice B1 r.list.length n1)) 64)
        clear T1
        unfold nodCells at *
        try dsimp only at *
        go_upto_region 13 with fail
        obtain ⟨gx, hgz⟩ : ∃ g, g = wr1.heap.size := ⟨_, rfl⟩
        rw [← hgz] at T2 ⊢
        clear hgz
        generalize wr1.alloc _ = wr2 at *
        go_wp2_with fail
        refine (EQ.out _).mono ?_
        rintro e wr3 ⟨r1, rfl, hX⟩
        have T3 := join_own T2.out hX
        clear hX T2 EQ
        unfold dV at *
        try unfold rN at *
        try unfold nodCells at *
        try dsimp only at *
        obtain ⟨D1, k1, rfl⟩ := T3.left.addEmp.vec.slice
        have T4 := Lib.hid (T3.alloc (nodCells r (.slice D1 r.list.length k1)) 64)
        clear T3
        unfold nodCells at T4
        try dsimp only at *
        go_upto_region 14 with fail
        obtain ⟨gy, hgz⟩ : ∃ g, g = wr3.heap.size := ⟨_, rfl⟩
        rw [← hgz] at T4 ⊢
        clear hgz
        generalize wr3.alloc _ = wr4 at *
        have ESm := Lib.hid (refSame_any r r _ _ wr4 (ents_at T4.out.right.right.right.left) (ents_at T4.out.right.left))
        rw [decide_eq_true rfl] at ESm
        unfold nodCells at ESm
        try dsimp only at ESm
        obtain ⟨c0, c1, c2, c3, c4, c5, c6⟩ := nod_cells (T4.out.has (Has.l (has_blk _ _ _)))
        obtain ⟨b0, b1, b2, b3, b4, b5, b6⟩ := nod_cells (T4.out.has (Has.r (Has.r (Has.l (has_blk _ _ _)))))
        go_wp2_with fail
        refine ESm.out.mono ?_
        rintro e wr5 ⟨rfl, hX⟩
        have T6 := Lib.hid (T4.out.below hX)
        clear hX T4 ESm c0 c1 c2 c3 c4 c5 c6 b0 b1 b2 b3 b4 b5 b6
        go_wp2_with fail
        go_returns
        exact ⟨rfl, T6.out.bel⟩
end Go.Proofs.YtmbakcphmblobaaDoor.Nd
