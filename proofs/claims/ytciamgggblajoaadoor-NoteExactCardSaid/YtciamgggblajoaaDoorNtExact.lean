/- NoteExact, walked. -/
import Derived.Test.YtciamgggblajoaaDoorNtQ
import Derived.Test.YtciamgggblajoaaDoorNtK
import Derived.Test.YtciamgggblajoaaDoorNtH
namespace Go.Proofs.YtciamgggblajoaaDoor.Nt
open Go.ChangeShapes Go.WideShapes Go.ChangeAt Go.RowKit Go.PlainAid Aid Cr
set_option linter.unusedVariables false
set_option linter.unusedSimpArgs false
theorem join_own {w0 w w' : World} {O0 : Nat → Prop} {A B : Asn} (h : Own w0 O0 w A) (k : Own w No w' B) : Own w0 O0 w' (B * A) :=
  h.then fun O hO => k.frame hO (fun _ h => h.elim) (fun _ => ⟨Or.inr, fun h => h.elim (fun x => x.elim) id⟩)
set_option maxRecDepth 100000 in
set_option maxHeartbeats 16000000 in
theorem exact_any (q : Rec) (v : Value) (s : ByteArray) (w : World) (hv : RecAt w v q) (ht : Tab w) (hs : s.size ≤ maxLen) :
    Calls Tryd.prog 3 #[v, .string s] w fun e w' => e = .returned (.bool true) ∧ Below w.heap.size w w' := by
  unfold maxLen at hs
  obtain ⟨l, hl⟩ : ∃ l : By, s = ofL l := ⟨s.data.toList, (ofL_back s).symm⟩
  have HT := Lib.hid ht
  have HA := Lib.hid (fun w ht => awake_any w ht)
  have HV := Lib.hid hv
  have GA : Hid (∀ w', Below w.heap.size w w' → _) := Lib.hid (fun w' (hb : Below w.heap.size w w') => great_any q v w' (hv.keep hb))
  have EG : Hid (∀ w', Below w.heap.size w w' → _) := Lib.hid (fun w' (hb : Below w.heap.size w w') => refGood_any q v w' (hv.keep hb))
  have ED : Hid (∀ w', Below w.heap.size w w' → _) := Lib.hid (fun w' (hb : Below w.heap.size w w') => Good_any q v w' (hv.keep hb))
  have ES : Hid (∀ w', Below w.heap.size w w' → _) := Lib.hid (fun w' (hb : Below w.heap.size w w') => Size_any q v w' (hv.keep hb))
  obtain ⟨A1, m1, A2, m2, A3, m3, rfl⟩ := hv.form
  have S1 := Lib.hid ((Own.none w).alloc (recCells q (.slice A1 q.pages.length m1) (.slice A2 q.opn.length m2) (.slice A3 q.dty.length m3)) 28)
  have HL := Lib.hid hl
  clear hl ht hv
  unfold recCells at *
  go_enter Tryd.func3, Tryd.ntmps3
  go_upto_region 1 with fail
  obtain ⟨g1, hg1⟩ : ∃ g, g = w.heap.size := ⟨_, rfl⟩
  rw [← hg1] at S1 ⊢
  clear hg1
  generalize w.alloc _ = w1 at *
  go_wp2_with fail
  refine (HA.out _ (Tab.own HT.out S1.out)).mono ?_
  rintro e w2 ⟨rfl, hX⟩
  have S2 := Lib.hid (S1.out.below hX)
  clear hX S1
  obtain ⟨⟨c0, c1, c2, c3, c4, c5, c6, c7, c8, c9, c10⟩, -⟩ := eleven (S2.out.has (Has.l (has_blk _ _ _)))
  go_wp2_with fail
  refine (GA.out _ S2.out.bel).mono ?_
  rintro e w3 ⟨⟨b1, rfl⟩, hX⟩
  have S3 := Lib.hid (S2.out.below hX)
  clear hX S2 c0 c1 c2 c3 c4 c5 c6 c7 c8 c9 c10
  cases b1 with
  | true =>
    go_wp2_with fail
    go_returns
    exact ⟨rfl, S3.out.bel⟩
  | false =>
  by_cases h4 : 4096 < s.size
  · go_wp2_with fail
    go_returns
    exact ⟨rfl, S3.out.bel⟩
  have hls : l.length ≤ 4096 := by have := HL.out; rw [this, ofL_sz] at h4; omega
  have ER := Lib.hid (fun w' ht => Read_own l w' (by omega) ht)
  have EQ := Lib.hid (fun w' => refRead_own l w' (by omega))
  rw [← HL.out] at ER EQ
  have tail : ∀ (wt : World), Hid (Own w No wt (Asn.blk g1 28 #[.int .i64 q.kind, .int .i64 q.deal, .int .i64 q.prev, .int .i64 q.next, .slice A1 q.pages.length m1, .int .i64 q.und.kind, .int .i64 q.und.tree, .string (ofL q.und.key), .string (ofL q.und.val), .slice A2 q.opn.length m2, .slice A3 q.dty.length m3] * Asn.emp)) → True := fun _ _ => trivial
  clear tail
  generalize readR l = R at *
  obtain ⟨⟨c0, c1, c2, c3, c4, c5, c6, c7, c8, c9, c10⟩, -⟩ := eleven (S3.out.has (Has.l (has_blk _ _ _)))
  go_wp2_with fail
  refine (EG.out _ S3.out.bel).mono ?_
  rintro e w4 ⟨rfl, hX⟩
  have S4 := Lib.hid (S3.out.below hX)
  clear hX S3 c0 c1 c2 c3 c4 c5 c6 c7 c8 c9 c10
  cases hg : goodB q with
  | true =>
    rw [hg] at ED
    try rw [hg] at EG
    have hsz : (if goodB q = true then ((sizeR q : Nat) : Int) else 0) = ((ofL (bytes q)).size : Int) := by
      rw [if_pos hg, ofL_sz, bytes_len, body_size q (goods hg).pg]
    have EB : Hid (∀ w', Below w.heap.size w w' → Tab w' → _) := Lib.hid (fun w' (hb : Below w.heap.size w w') (ht : Tab w') => Bytes_good q _ w' (HV.out.keep hb) hg ht)
    have EC : Hid (∀ w', Below w.heap.size w w' → _) := Lib.hid (fun w' (hb : Below w.heap.size w w') => refBytes_any q (goods hg) _ w' (HV.out.keep hb))
    rw [hsz] at ES
    unfold recCells at EB EC
    clear hsz hg
    generalize ofL (bytes q) = x1 at *
    obtain ⟨⟨c0, c1, c2, c3, c4, c5, c6, c7, c8, c9, c10⟩, -⟩ := eleven (S4.out.has (Has.l (has_blk _ _ _)))
    go_wp2_with fail
    refine (EB.out _ S4.out.bel (Tab.own HT.out S4.out)).mono ?_
    rintro e w5 ⟨rfl, hX⟩
    have S5 := Lib.hid (S4.out.below hX)
    clear hX S4 c0 c1 c2 c3 c4 c5 c6 c7 c8 c9 c10
    obtain ⟨⟨c0, c1, c2, c3, c4, c5, c6, c7, c8, c9, c10⟩, -⟩ := eleven (S5.out.has (Has.l (has_blk _ _ _)))
    go_wp2_with fail
    refine (ED.out _ S5.out.bel).mono ?_
    rintro e w6 ⟨rfl, hX⟩
    have S6 := Lib.hid (S5.out.below hX)
    clear hX S5 c0 c1 c2 c3 c4 c5 c6 c7 c8 c9 c10
    obtain ⟨⟨c0, c1, c2, c3, c4, c5, c6, c7, c8, c9, c10⟩, -⟩ := eleven (S6.out.has (Has.l (has_blk _ _ _)))
    go_wp2_with fail
    refine (EC.out _ S6.out.bel).mono ?_
    rintro e w7 ⟨rfl, hX⟩
    have S7 := Lib.hid (S6.out.below hX)
    clear hX S6 c0 c1 c2 c3 c4 c5 c6 c7 c8 c9 c10
    obtain ⟨⟨c0, c1, c2, c3, c4, c5, c6, c7, c8, c9, c10⟩, -⟩ := eleven (S7.out.has (Has.l (has_blk _ _ _)))
    go_wp2_with fail
    refine (ES.out _ S7.out.bel).mono ?_
    rintro e w8 ⟨rfl, hX⟩
    have S8 := Lib.hid (S7.out.below hX)
    clear hX S7 c0 c1 c2 c3 c4 c5 c6 c7 c8 c9 c10
    clear EB ED EG GA HA ES
    go_wp2_with fail
    refine (ER.out _ (Tab.own HT.out S8.out)).mono ?_
    rintro e wr1 ⟨⟨p1, p2, p3⟩, rfl, hX⟩
    have T1 := join_own S8.out hX
    clear hX S8 ER
    cases R with
    | none =>
      unfold rR at *
      dsimp only at *
      obtain ⟨B1, n1, rfl⟩ := T1.left.vec.slice
      obtain ⟨B2, n2, rfl⟩ := T1.left.right.vec.slice
      obtain ⟨B3, n3, rfl⟩ := T1.left.right.vecR.slice
      have T2 := Lib.hid (T1.alloc (recCells Rec.none (.slice B1 Rec.none.pages.length n1) (.slice B2 Rec.none.opn.length n2) (.slice B3 Rec.none.dty.length n3)) 28)
      clear T1
      rw [rV_none]
      unfold recV recCells at *
      dsimp only at *
      go_upto_region 16 with fail
      obtain ⟨gx, hgz⟩ : ∃ g, g = wr1.heap.size := ⟨_, rfl⟩
      rw [← hgz] at T2 ⊢
      clear hgz
      generalize wr1.alloc _ = wr2 at *
      go_wp2_with fail
      refine (EQ.out _).mono ?_
      rintro e wr3 ⟨⟨r1, r2, r3⟩, rfl, hX⟩
      have T3 := join_own T2.out hX
      clear hX T2 EQ
      obtain ⟨D1, k1, rfl⟩ := T3.left.vec.slice
      obtain ⟨D2, k2, rfl⟩ := T3.left.right.vec.slice
      obtain ⟨D3, k3, rfl⟩ := T3.left.right.vecR.slice
      have T4 := Lib.hid (T3.alloc (recCells Rec.none (.slice D1 Rec.none.pages.length k1) (.slice D2 Rec.none.opn.length k2) (.slice D3 Rec.none.dty.length k3)) 28)
      clear T3
      try unfold dV at *
      try unfold recV at *
      try unfold recCells at *
      dsimp only at *
      go_upto_region 17 with fail
      generalize wr3.alloc _ = wr4 at *
      have T5 := Lib.hid T4.out.right.right
      have ESm := Lib.hid (Same_any Rec.none Rec.none _ (.agg zeroCells) wr4 (lists_at T5.out.right.left) (zero_rec _))
      rw [decide_eq_true rfl] at ESm
      unfold recCells zeroCells at ESm
      dsimp only at ESm
      obtain ⟨⟨c0, c1, c2, c3, c4, c5, c6, c7, c8, c9, c10⟩, -⟩ := eleven (T5.out.has (Has.l (has_blk _ _ _)))
      go_wp2_with fail
      refine ESm.out.mono ?_
      rintro e wr5 ⟨rfl, hX⟩
      have T6 := Lib.hid (T5.out.below hX)
      clear hX T5 T4 ESm c0 c1 c2 c3 c4 c5 c6 c7 c8 c9 c10
      go_wp2_with fail
      go_returns
      exact ⟨rfl, T6.out.bel⟩
    | some R =>
      obtain ⟨r, nr⟩ := R
      unfold rR at *
      dsimp only at *
      obtain ⟨B1, n1, rfl⟩ := T1.left.vec.slice
      obtain ⟨B2, n2, rfl⟩ := T1.left.right.vec.slice
      obtain ⟨B3, n3, rfl⟩ := T1.left.right.vecR.slice
      have T2 := Lib.hid (T1.alloc (recCells r (.slice B1 r.pages.length n1) (.slice B2 r.opn.length n2) (.slice B3 r.dty.length n3)) 28)
      clear T1
      rw [rV_some]
      unfold recV recCells at *
      dsimp only at *
      go_upto_region 16 with fail
      obtain ⟨gx, hgz⟩ : ∃ g, g = wr1.heap.size := ⟨_, rfl⟩
      rw [← hgz] at T2 ⊢
      clear hgz
      generalize wr1.alloc _ = wr2 at *
      go_wp2_with fail
      refine (EQ.out _).mono ?_
      rintro e wr3 ⟨⟨r1, r2, r3⟩, rfl, hX⟩
      have T3 := join_own T2.out hX
      clear hX T2 EQ
      obtain ⟨D1, k1, rfl⟩ := T3.left.vec.slice
      obtain ⟨D2, k2, rfl⟩ := T3.left.right.vec.slice
      obtain ⟨D3, k3, rfl⟩ := T3.left.right.vecR.slice
      have T4 := Lib.hid (T3.alloc (recCells r (.slice D1 r.pages.length k1) (.slice D2 r.opn.length k2) (.slice D3 r.dty.length k3)) 28)
      clear T3
      try unfold dV at *
      try unfold recV at *
      try unfold recCells at *
      dsimp only at *
      go_upto_region 17 with fail
      obtain ⟨gy, hgz⟩ : ∃ g, g = wr3.heap.size := ⟨_, rfl⟩
      rw [← hgz] at T4 ⊢
      clear hgz
      generalize wr3.alloc _ = wr4 at *
      have ESm := Lib.hid (Same_any r r _ _ wr4 (lists_at T4.out.right.right.right.left) (lists_at T4.out.right.left))
      rw [decide_eq_true rfl] at ESm
      unfold recCells at ESm
      dsimp only at ESm
      obtain ⟨⟨c0, c1, c2, c3, c4, c5, c6, c7, c8, c9, c10⟩, -⟩ := eleven (T4.out.has (Has.l (has_blk _ _ _)))
      obtain ⟨⟨b0, b1, b2, b3, b4, b5, b6, b7, b8, b9, b10⟩, -⟩ := eleven (T4.out.has (Has.r (Has.r (Has.l (has_blk _ _ _)))))
      go_wp2_with fail
      refine ESm.out.mono ?_
      rintro e wr5 ⟨rfl, hX⟩
      have T6 := Lib.hid (T4.out.below hX)
      clear hX T4 ESm c0 c1 c2 c3 c4 c5 c6 c7 c8 c9 c10 b0 b1 b2 b3 b4 b5 b6 b7 b8 b9 b10
      go_wp2_with fail
      go_returns
      exact ⟨rfl, T6.out.bel⟩
  | false =>
    rw [hg] at ED
    try rw [hg] at EG
    have EB : Hid (∀ w', Below w.heap.size w w' → Tab w' → _) := Lib.hid (fun w' (hb : Below w.heap.size w w') (ht : Tab w') => Bytes_bad q _ w' (HV.out.keep hb) hg)
    have hsz : (if goodB q = true then ((sizeR q : Nat) : Int) else 0) = 0 := if_neg (by rw [hg]; decide)
    rw [hsz] at ES
    clear hsz
    unfold recCells at EB
    clear hg
    obtain ⟨⟨c0, c1, c2, c3, c4, c5, c6, c7, c8, c9, c10⟩, -⟩ := eleven (S4.out.has (Has.l (has_blk _ _ _)))
    go_wp2_with fail
    refine (EB.out _ S4.out.bel (Tab.own HT.out S4.out)).mono ?_
    rintro e w5 ⟨rfl, hX⟩
    have S5 := Lib.hid (S4.out.below hX)
    clear hX S4 c0 c1 c2 c3 c4 c5 c6 c7 c8 c9 c10
    obtain ⟨⟨c0, c1, c2, c3, c4, c5, c6, c7, c8, c9, c10⟩, -⟩ := eleven (S5.out.has (Has.l (has_blk _ _ _)))
    go_wp2_with fail
    refine (ED.out _ S5.out.bel).mono ?_
    rintro e w6 ⟨rfl, hX⟩
    have S6 := Lib.hid (S5.out.below hX)
    clear hX S5 c0 c1 c2 c3 c4 c5 c6 c7 c8 c9 c10
    obtain ⟨⟨c0, c1, c2, c3, c4, c5, c6, c7, c8, c9, c10⟩, -⟩ := eleven (S6.out.has (Has.l (has_blk _ _ _)))
    go_wp2_with fail
    refine (ES.out _ S6.out.bel).mono ?_
    rintro e w7 ⟨rfl, hX⟩
    have S7 := Lib.hid (S6.out.below hX)
    clear hX S6 c0 c1 c2 c3 c4 c5 c6 c7 c8 c9 c10
    clear EB ED EG GA HA ES
    go_wp2_with fail
    refine (ER.out _ (Tab.own HT.out S7.out)).mono ?_
    rintro e wr1 ⟨⟨p1, p2, p3⟩, rfl, hX⟩
    have T1 := join_own S7.out hX
    clear hX S7 ER
    cases R with
    | none =>
      unfold rR at *
      dsimp only at *
      obtain ⟨B1, n1, rfl⟩ := T1.left.vec.slice
      obtain ⟨B2, n2, rfl⟩ := T1.left.right.vec.slice
      obtain ⟨B3, n3, rfl⟩ := T1.left.right.vecR.slice
      have T2 := Lib.hid (T1.alloc (recCells Rec.none (.slice B1 Rec.none.pages.length n1) (.slice B2 Rec.none.opn.length n2) (.slice B3 Rec.none.dty.length n3)) 28)
      clear T1
      rw [rV_none]
      unfold recV recCells at *
      dsimp only at *
      go_upto_region 16 with fail
      obtain ⟨gx, hgz⟩ : ∃ g, g = wr1.heap.size := ⟨_, rfl⟩
      rw [← hgz] at T2 ⊢
      clear hgz
      generalize wr1.alloc _ = wr2 at *
      go_wp2_with fail
      refine (EQ.out _).mono ?_
      rintro e wr3 ⟨⟨r1, r2, r3⟩, rfl, hX⟩
      have T3 := join_own T2.out hX
      clear hX T2 EQ
      obtain ⟨D1, k1, rfl⟩ := T3.left.vec.slice
      obtain ⟨D2, k2, rfl⟩ := T3.left.right.vec.slice
      obtain ⟨D3, k3, rfl⟩ := T3.left.right.vecR.slice
      have T4 := Lib.hid (T3.alloc (recCells Rec.none (.slice D1 Rec.none.pages.length k1) (.slice D2 Rec.none.opn.length k2) (.slice D3 Rec.none.dty.length k3)) 28)
      clear T3
      try unfold dV at *
      try unfold recV at *
      try unfold recCells at *
      dsimp only at *
      go_upto_region 17 with fail
      generalize wr3.alloc _ = wr4 at *
      have T5 := Lib.hid T4.out.right.right
      have ESm := Lib.hid (Same_any Rec.none Rec.none _ (.agg zeroCells) wr4 (lists_at T5.out.right.left) (zero_rec _))
      rw [decide_eq_true rfl] at ESm
      unfold recCells zeroCells at ESm
      dsimp only at ESm
      obtain ⟨⟨c0, c1, c2, c3, c4, c5, c6, c7, c8, c9, c10⟩, -⟩ := eleven (T5.out.has (Has.l (has_blk _ _ _)))
      go_wp2_with fail
      refine ESm.out.mono ?_
      rintro e wr5 ⟨rfl, hX⟩
      have T6 := Lib.hid (T5.out.below hX)
      clear hX T5 T4 ESm c0 c1 c2 c3 c4 c5 c6 c7 c8 c9 c10
      go_wp2_with fail
      go_returns
      exact ⟨rfl, T6.out.bel⟩
    | some R =>
      obtain ⟨r, nr⟩ := R
      unfold rR at *
      dsimp only at *
      obtain ⟨B1, n1, rfl⟩ := T1.left.vec.slice
      obtain ⟨B2, n2, rfl⟩ := T1.left.right.vec.slice
      obtain ⟨B3, n3, rfl⟩ := T1.left.right.vecR.slice
      have T2 := Lib.hid (T1.alloc (recCells r (.slice B1 r.pages.length n1) (.slice B2 r.opn.length n2) (.slice B3 r.dty.length n3)) 28)
      clear T1
      rw [rV_some]
      unfold recV recCells at *
      dsimp only at *
      go_upto_region 16 with fail
      obtain ⟨gx, hgz⟩ : ∃ g, g = wr1.heap.size := ⟨_, rfl⟩
      rw [← hgz] at T2 ⊢
      clear hgz
      generalize wr1.alloc _ = wr2 at *
      go_wp2_with fail
      refine (EQ.out _).mono ?_
      rintro e wr3 ⟨⟨r1, r2, r3⟩, rfl, hX⟩
      have T3 := join_own T2.out hX
      clear hX T2 EQ
      obtain ⟨D1, k1, rfl⟩ := T3.left.vec.slice
      obtain ⟨D2, k2, rfl⟩ := T3.left.right.vec.slice
      obtain ⟨D3, k3, rfl⟩ := T3.left.right.vecR.slice
      have T4 := Lib.hid (T3.alloc (recCells r (.slice D1 r.pages.length k1) (.slice D2 r.opn.length k2) (.slice D3 r.dty.length k3)) 28)
      clear T3
      try unfold dV at *
      try unfold recV at *
      try unfold recCells at *
      dsimp only at *
      go_upto_region 17 with fail
      obtain ⟨gy, hgz⟩ : ∃ g, g = wr3.heap.size := ⟨_, rfl⟩
      rw [← hgz] at T4 ⊢
      clear hgz
      generalize wr3.alloc _ = wr4 at *
      have ESm := Lib.hid (Same_any r r _ _ wr4 (lists_at T4.out.right.right.right.left) (lists_at T4.out.right.left))
      rw [decide_eq_true rfl] at ESm
      unfold recCells at ESm
      dsimp only at ESm
      obtain ⟨⟨c0, c1, c2, c3, c4, c5, c6, c7, c8, c9, c10⟩, -⟩ := eleven (T4.out.has (Has.l (has_blk _ _ _)))
      obtain ⟨⟨b0, b1, b2, b3, b4, b5, b6, b7, b8, b9, b10⟩, -⟩ := eleven (T4.out.has (Has.r (Has.r (Has.l (has_blk _ _ _)))))
      go_wp2_with fail
      refine ESm.out.mono ?_
      rintro e wr5 ⟨rfl, hX⟩
      have T6 := Lib.hid (T4.out.below hX)
      clear hX T4 ESm c0 c1 c2 c3 c4 c5 c6 c7 c8 c9 c10 b0 b1 b2 b3 b4 b5 b6 b7 b8 b9 b10
      go_wp2_with fail
      go_returns
      exact ⟨rfl, T6.out.bel⟩
end Go.Proofs.YtciamgggblajoaaDoor.Nt
