/- Nodes: which lists, which nodes can be, and fit. -/
import Derived.Test.YtapdpdhibpblgaaShelf
import Derived.Deep.CutBlock
namespace Go.Proofs.Ytapdpdhibpblgaa.Nd
open Go.ChangeShapes Go.WideShapes Go.ChangeAt Go.RowKit Go.PlainAid Aid Cr Nt
set_option linter.unusedVariables false
set_option linter.unusedSimpArgs false
set_option maxRecDepth 100000 in
set_option maxHeartbeats 4000000 in
theorem goodList_any (n : Nod) (v : Value) (w : World) (hv : NodAt w v n) :
    Calls Try.prog 83 #[v] w fun e w' => e = .returned (.bool (gList n)) ∧ Below w.heap.size w w' := by
  obtain ⟨p, rfl, hp⟩ := hv
  obtain ⟨A1, m1, rfl⟩ := hp.slice
  have hm1 := hp.len.2
  unfold maxLen at hm1
  have S := Lib.hid ((Own.none w).alloc (nodCells n (.slice A1 n.list.length m1)) 52).left
  have HP := Lib.hid hp
  have HC := Lib.hid (fun k w => Covers_any n (.slice A1 n.list.length m1) k w)
  have HE := Lib.hid (fun e w => goodEntry_any e n.level w)
  clear hp
  unfold nodCells at *
  unfold entCells at HE
  go_enter Try.func83, Try.ntmps83
  go_upto_region 1 with fail
  obtain ⟨g, hgz⟩ : ∃ g, g = w.heap.size := ⟨_, rfl⟩
  rw [← hgz] at S ⊢
  clear hgz
  generalize w.alloc _ = w1 at *
  obtain ⟨-, -, -, -, -, -, c6⟩ := nod_cells (S.out.has (has_blk _ _ _))
  by_cases h1 : 100 < n.list.length
  · have hr : Hid (gList n = false) := Lib.hid (by unfold gList; rw [decide_eq_false (by omega)]; rfl)
    go_wp2_with fail
    go_returns
    exact ⟨ret_bool hr.out.symm, S.out.bel⟩
  have hr : gTo n n.list.length = gList n := by unfold gList; rw [decide_eq_true (by omega), Bool.true_and]
  have HR := Lib.hid hr
  clear hr
  go_wp2_with fail
  clear c6
  go_loopw [13] (fun i wr => ∃ k : Nat, k ≤ n.list.length ∧ i = .int .i64 k ∧ Hid (gTo n k = true) ∧ Hid (Own w No wr (Asn.blk g 52 (nodCells n (.slice A1 n.list.length m1))))) (fun i _ => n.list.length - (intOf i).toNat)
  case atStart => exact ⟨0, Nat.zero_le _, rfl, Lib.hid rfl, S⟩
  case round =>
    clear S
    obtain ⟨k, hk, rfl, hG, X⟩ := hrel
    by_cases hlt : k < n.list.length
    · obtain ⟨x, hx⟩ : ∃ x, n.list[k]? = some x := ⟨n.list[k]'(by omega), List.getElem?_eq_getElem _⟩
      obtain ⟨b, o, rfl, hbl, a0, a1, a2⟩ := (HP.out.keep X.out.bel).at hx
      have X1 := Lib.hid (X.out.alloc (entCells x) 44)
      have hst := gTo_step n k x hx
      have hf : gAt n k x = false → gList n = false := fun h => by
        rw [← HR.out]; exact gTo_false n (k + 1) _ (by rw [hst, h, Bool.and_false]) (by omega)
      rw [hG.out, Bool.true_and] at hst
      have HST := Lib.hid hst
      have HF := Lib.hid hf
      have HX := Lib.hid hx
      clear hst hf hx X
      unfold entCells at *
      unfold nodCells at *
      have hq : ∃ q, q = rise n.list k x := ⟨_, rfl⟩
      obtain ⟨q, hq⟩ := hq
      have hga : gAt n k x = (q && (cov n x.key && gEnt n.level x)) := by rw [hq]; rfl
      rw [hga] at HST HF
      clear hga
      have E1 := Lib.hid (HC.out x.key)
      have E2 := Lib.hid (HE.out x)
      have rest : Hid (Own w No (wr.alloc (.cells #[.string (ofL x.key), .string (ofL x.val), .bool x.ghost] 44)) (Asn.blk wr.heap.size 44 #[.string (ofL x.key), .string (ofL x.val), .bool x.ghost] * Asn.blk g 52 #[.int .i64 n.tree, .int .i64 n.level, .int .i64 n.stamp, .bool n.has, .string (ofL n.high), .int .i64 n.right, .slice (some ⟨b, o, none⟩) n.list.length m1])) := X1
      clear X1
      go_upto_region 6 with fail
      obtain ⟨ge, hgz⟩ : ∃ g, g = wr.heap.size := ⟨_, rfl⟩
      rw [← hgz] at rest ⊢
      clear hgz
      generalize wr.alloc _ = w2 at *
      obtain ⟨e0, e1, e2⟩ := ent_cells (rest.out.has (Has.l (has_blk _ _ _)))
      obtain ⟨c0, c1, c2, c3, c4, c5, c6⟩ := nod_cells (rest.out.has (Has.r (has_blk _ _ _)))
      cases k with
      | zero =>
        obtain rfl : q = true := hq
        go_wp2_with fail
        go_quiet (fail)
        have Y := Lib.hid (rest.out.drewN nq)
        clear rest e0 e1 e2 c0 c1 c2 c3 c4 c5 c6
        generalize w2.drewN nq = w3 at *
        obtain ⟨e0, e1, e2⟩ := ent_cells (Y.out.has (Has.l (has_blk _ _ _)))
        obtain ⟨c0, c1, c2, c3, c4, c5, c6⟩ := nod_cells (Y.out.has (Has.r (has_blk _ _ _)))
        go_wp2_with fail
        refine (E1.out _).mono ?_
        rintro e w4 ⟨rfl, hX⟩
        have Z := Lib.hid (Y.out.below hX)
        clear hX Y e0 e1 e2 c0 c1 c2 c3 c4 c5 c6
        generalize cov n x.key = q2 at *
        cases q2
        · go_wp2_with fail
          go_returns
          exact ⟨ret_bool (HF.out rfl).symm, Z.out.bel⟩
        obtain ⟨e0, e1, e2⟩ := ent_cells (Z.out.has (Has.l (has_blk _ _ _)))
        obtain ⟨c0, c1, c2, c3, c4, c5, c6⟩ := nod_cells (Z.out.has (Has.r (has_blk _ _ _)))
        go_wp2_with fail
        refine (E2.out _).mono ?_
        rintro e w5 ⟨rfl, hX⟩
        have V := Lib.hid (Z.out.below hX)
        clear hX Z e0 e1 e2 c0 c1 c2 c3 c4 c5 c6
        generalize gEnt n.level x = q3 at *
        cases q3
        · go_wp2_with fail
          go_returns
          exact ⟨ret_bool (HF.out rfl).symm, V.out.bel⟩
        go_wp2_with fail
        go_roundw
        case rel => exact ⟨0 + 1, by omega, by go_num, Lib.hid (by rw [HST.out]; rfl), Lib.hid V.out.right⟩
        case measure => simp [intOf]; omega
      | succ j =>
        obtain ⟨y, hy⟩ : ∃ y, n.list[j]? = some y := ⟨n.list[j]'(by omega), List.getElem?_eq_getElem _⟩
        obtain ⟨d0, d1, d2⟩ := (HP.out.keep rest.out.bel).at' hy
        have hq2 : q = lt y.key x.key := by rw [hq, rise, hy]
        have hl := less y.key x.key
        rw [← hq2] at hl
        have hjj : IntKind.i64.wrap (j : Int) = (j : Int) := by rw [IntKind.wrap_i64]; omega
        have hj0 : (0 : Int) ≤ (j : Int) := by omega
        have hj1 : (j : Int) < (n.list.length : Int) := by omega
        have hj2 : ((j : Int)).toNat = j := rfl
        clear hq hq2 hy
        go_wp2_with fail
        go_quiet (fail)
        have Y := Lib.hid (rest.out.drewN nq)
        clear rest e0 e1 e2 c0 c1 c2 c3 c4 c5 c6 d0 d1 d2
        generalize w2.drewN nq = w3 at *
        clear hl
        cases q
        · go_wp2_with fail
          go_returns
          exact ⟨ret_bool (HF.out rfl).symm, Y.out.bel⟩
        obtain ⟨e0, e1, e2⟩ := ent_cells (Y.out.has (Has.l (has_blk _ _ _)))
        obtain ⟨c0, c1, c2, c3, c4, c5, c6⟩ := nod_cells (Y.out.has (Has.r (has_blk _ _ _)))
        go_wp2_with fail
        refine (E1.out _).mono ?_
        rintro e w4 ⟨rfl, hX⟩
        have Z := Lib.hid (Y.out.below hX)
        clear hX Y e0 e1 e2 c0 c1 c2 c3 c4 c5 c6
        generalize cov n x.key = q2 at *
        cases q2
        · go_wp2_with fail
          go_returns
          exact ⟨ret_bool (HF.out rfl).symm, Z.out.bel⟩
        obtain ⟨e0, e1, e2⟩ := ent_cells (Z.out.has (Has.l (has_blk _ _ _)))
        obtain ⟨c0, c1, c2, c3, c4, c5, c6⟩ := nod_cells (Z.out.has (Has.r (has_blk _ _ _)))
        go_wp2_with fail
        refine (E2.out _).mono ?_
        rintro e w5 ⟨rfl, hX⟩
        have V := Lib.hid (Z.out.below hX)
        clear hX Z e0 e1 e2 c0 c1 c2 c3 c4 c5 c6
        generalize gEnt n.level x = q3 at *
        cases q3
        · go_wp2_with fail
          go_returns
          exact ⟨ret_bool (HF.out rfl).symm, V.out.bel⟩
        go_wp2_with fail
        go_roundw
        case rel => exact ⟨j + 1 + 1, by omega, by go_num, Lib.hid (by rw [HST.out]; rfl), Lib.hid V.out.right⟩
        case measure => simp [intOf]; omega
    · obtain rfl : k = n.list.length := by omega
      have h1 := hG.out
      rw [HR.out] at h1
      have H1 := Lib.hid h1
      clear h1
      go_wp2_with fail
      go_returns
      exact ⟨ret_bool H1.out.symm, X.out.bel⟩
set_option maxRecDepth 100000 in
set_option maxHeartbeats 4000000 in
theorem Good_any (n : Nod) (v : Value) (w : World) (hv : NodAt w v n) :
    Calls Try.prog 66 #[v] w fun e w' => e = .returned (.bool (goodB n)) ∧ Below w.heap.size w w' := by
  have HL : Hid (∀ w', Below w.heap.size w w' → _) := Lib.hid (fun w' (hb : Below w.heap.size w w') => goodList_any n v w' (hv.keep hb))
  obtain ⟨p, rfl, hp⟩ := hv
  have HH := Lib.hid (fun w => goodHigh_any n p w)
  obtain ⟨R, hR⟩ : ∃ R, R = goodB n := ⟨_, rfl⟩
  rw [← hR]
  unfold goodB at hR
  have e1 := fun w => within_any n.tree 255 w
  have e2 := fun w => within_any n.level 12 w
  have e3 := fun w => within_any n.stamp 2147483647 w
  have e4 := fun w => within_any n.right 255 w
  have S := Lib.hid ((Own.none w).alloc (nodCells n p) 52).left
  generalize inN n.tree 255 = b1 at *
  generalize inN n.level 12 = b2 at *
  generalize inN n.stamp 2147483647 = b3 at *
  generalize inN n.right 255 = b4 at *
  generalize gHigh n = b5 at *
  generalize gList n = b6 at *
  obtain ⟨A1, m1, rfl⟩ := hp.slice
  have HR := Lib.hid hR
  clear hR hp
  unfold nodCells at *
  go_enter Try.func66, Try.ntmps66
  go_upto_region 1 with fail
  obtain ⟨g, hgz⟩ : ∃ g, g = w.heap.size := ⟨_, rfl⟩
  rw [← hgz] at S ⊢
  clear hgz
  generalize w.alloc _ = w1 at *
  obtain ⟨c0, c1, c2, c3, c4, c5, c6⟩ := nod_cells (S.out.has (has_blk _ _ _))
  go_wp2_with fail
  refine (e1 _).mono ?_
  rintro e w' ⟨rfl, rfl⟩
  cases b1
  case false =>
    go_wp2_with fail
    go_returns
    exact ⟨ret_bool (by rw [HR.out]; simp), S.out.bel⟩
  go_wp2_with fail
  refine (e2 _).mono ?_
  rintro e w' ⟨rfl, rfl⟩
  cases b2
  case false =>
    go_wp2_with fail
    go_returns
    exact ⟨ret_bool (by rw [HR.out]; simp), S.out.bel⟩
  go_wp2_with fail
  refine (e3 _).mono ?_
  rintro e w' ⟨rfl, rfl⟩
  cases b3
  case false =>
    go_wp2_with fail
    go_returns
    exact ⟨ret_bool (by rw [HR.out]; simp), S.out.bel⟩
  go_wp2_with fail
  refine (e4 _).mono ?_
  rintro e w' ⟨rfl, rfl⟩
  cases b4
  case false =>
    go_wp2_with fail
    go_returns
    exact ⟨ret_bool (by rw [HR.out]; simp), S.out.bel⟩
  go_wp2_with fail
  refine (HH.out _).mono ?_
  rintro e w2 ⟨rfl, hX⟩
  have T := Lib.hid (S.out.below hX)
  clear hX S c0 c1 c2 c3 c4 c5 c6
  cases b5
  case false =>
    go_wp2_with fail
    go_returns
    exact ⟨ret_bool (by rw [HR.out]; simp), T.out.bel⟩
  obtain ⟨c0, c1, c2, c3, c4, c5, c6⟩ := nod_cells (T.out.has (has_blk _ _ _))
  go_wp2_with fail
  refine (HL.out _ T.out.bel).mono ?_
  rintro e w3 ⟨rfl, hX⟩
  have U := Lib.hid (T.out.below hX)
  clear hX T c0 c1 c2 c3 c4 c5 c6
  go_wp2_with fail
  go_returns
  exact ⟨ret_bool (by rw [HR.out]; simp), U.out.bel⟩
set_option maxRecDepth 100000 in
set_option maxHeartbeats 4000000 in
theorem Fits_any (n : Nod) (v : Value) (w : World) (hv : NodAt w v n) :
    Calls Try.prog 67 #[v] w fun e w' => e = .returned (.bool (fitsB n)) ∧ Below w.heap.size w w' := by
  have HG : Hid (∀ w', Below w.heap.size w w' → _) := Lib.hid (fun w' (hb : Below w.heap.size w w') => Good_any n v w' (hv.keep hb))
  have HZ : Hid (goodB n = true → ∀ w', Below w.heap.size w w' → _) := Lib.hid (fun hg w' (hb : Below w.heap.size w w') => Size_any n v w' (hv.keep hb) (by have := size_small (goods hg); omega))
  obtain ⟨p, rfl, hp⟩ := hv
  obtain ⟨A1, m1, rfl⟩ := hp.slice
  have S := Lib.hid ((Own.none w).alloc (nodCells n (.slice A1 n.list.length m1)) 52).left
  clear hp
  unfold fitsB
  generalize goodB n = b1 at *
  unfold nodCells at *
  go_enter Try.func67, Try.ntmps67
  go_upto_region 1 with fail
  obtain ⟨g, hgz⟩ : ∃ g, g = w.heap.size := ⟨_, rfl⟩
  rw [← hgz] at S ⊢
  clear hgz
  generalize w.alloc _ = w1 at *
  obtain ⟨c0, c1, c2, c3, c4, c5, c6⟩ := nod_cells (S.out.has (has_blk _ _ _))
  go_wp2_with fail
  refine (HG.out _ S.out.bel).mono ?_
  rintro e w2 ⟨rfl, hX⟩
  have T := Lib.hid (S.out.below hX)
  clear hX S c0 c1 c2 c3 c4 c5 c6
  cases b1
  · go_wp2_with fail
    go_returns
    exact ⟨rfl, T.out.bel⟩
  obtain ⟨c0, c1, c2, c3, c4, c5, c6⟩ := nod_cells (T.out.has (has_blk _ _ _))
  go_wp2_with fail
  refine (HZ.out (by first | rfl | trivial) _ T.out.bel).mono ?_
  rintro e w3 ⟨rfl, hX⟩
  have U := Lib.hid (T.out.below hX)
  clear hX T c0 c1 c2 c3 c4 c5 c6
  go_wp2_with fail
  go_returns
  exact ⟨ret_bool (by simp <;> omega), U.out.bel⟩
end Go.Proofs.Ytapdpdhibpblgaa.Nd
