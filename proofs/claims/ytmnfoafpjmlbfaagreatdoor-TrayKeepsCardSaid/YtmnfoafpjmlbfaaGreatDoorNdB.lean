/- Texts of ours, joined. -/
import Derived.Test.YtmnfoafpjmlbfaaGreatDoorNdA
import Derived.Deep.CutBlock
import Derived.Test.YtmnfoafpjmlbfaaGreatDoorNdW

-- joined
section
namespace Go.Proofs.YtmnfoafpjmlbfaaGreatDoor.Nd
open Go.ChangeShapes Go.WideShapes Go.ChangeAt Go.RowKit Go.PlainAid Aid Cr Nt
set_option linter.unusedVariables false
set_option linter.unusedSimpArgs false
set_option maxRecDepth 100000 in
set_option maxHeartbeats 4000000 in
theorem goodList_any (n : Nod) (v : Value) (w : World) (hv : NodAt w v n) :
    Calls Tryz.prog 149 #[v] w fun e w' => e = .returned (.bool (gList n)) ∧ Below w.heap.size w w' := by
  obtain ⟨p, rfl, hp⟩ := hv
  obtain ⟨A1, m1, rfl⟩ := hp.slice
  have hm1 := hp.len.2
  unfold maxLen at hm1
  have S := Lib.hid ((Own.none w).alloc (nodCells n (.slice A1 n.list.length m1)) 31).left
  have HP := Lib.hid hp
  have HC := Lib.hid (fun k w => Covers_any n (.slice A1 n.list.length m1) k w)
  have HE := Lib.hid (fun e w => goodEntry_any e n.level w)
  clear hp
  unfold nodCells at *
  unfold entCells at HE
  go_enter Tryz.func149, Tryz.ntmps149
  go_upto_region 1 with fail
  obtain ⟨g, hgz⟩ : ∃ g, g = w.heap.size := ⟨_, rfl⟩
  rw [← hgz] at S ⊢
  clear hgz
  generalize w.alloc _ = w1 at *
  obtain ⟨-, -, -, -, -, -, c6⟩ := nod_cells (S.out.has (has_blk _ _ _))
  by_cases h1 : 100 < n.list.length
  · have hr : Hid (gList n = false) := Lib.hid (by unfold gList; rw [decide_eq_false (by omega)]; rfl)
    go_wp2_with fail
    go_returns
    exact ⟨ret_bool hr.out.symm, S.out.bel⟩
  have hr : gTo n n.list.length = gList n := by unfold gList; rw [decide_eq_true (by omega), Bool.true_and]
  have HR := Lib.hid hr
  clear hr
  go_wp2_with fail
  clear c6
  go_loopw [13] (fun i wr => ∃ k : Nat, k ≤ n.list.length ∧ i = .int .i64 k ∧ Hid (gTo n k = true) ∧ Hid (Own w No wr (Asn.blk g 31 (nodCells n (.slice A1 n.list.length m1))))) (fun i _ => n.list.length - (intOf i).toNat)
  case atStart => exact ⟨0, Nat.zero_le _, rfl, Lib.hid rfl, S⟩
  case round =>
    clear S
    obtain ⟨k, hk, rfl, hG, X⟩ := hrel
    by_cases hlt : k < n.list.length
    · obtain ⟨x, hx⟩ : ∃ x, n.list[k]? = some x := ⟨n.list[k]'(by omega), List.getElem?_eq_getElem _⟩
      obtain ⟨b, o, rfl, hbl, a0, a1, a2⟩ := (HP.out.keep X.out.bel).at hx
      have X1 := Lib.hid (X.out.alloc (entCells x) 84)
      have hst := gTo_step n k x hx
      have hf : gAt n k x = false → gList n = false := fun h => by
        rw [← HR.out]; exact gTo_false n (k + 1) _ (by rw [hst, h, Bool.and_false]) (by omega)
      rw [hG.out, Bool.true_and] at hst
      have HST := Lib.hid hst
      have HF := Lib.hid hf
      have HX := Lib.hid hx
      clear hst hf hx X
      unfold entCells at *
      unfold nodCells at *
      have hq : ∃ q, q = rise n.list k x := ⟨_, rfl⟩
      obtain ⟨q, hq⟩ := hq
      have hga : gAt n k x = (q && (cov n x.key && gEnt n.level x)) := by rw [hq]; rfl
      rw [hga] at HST HF
      clear hga
      have E1 := Lib.hid (HC.out x.key)
      have E2 := Lib.hid (HE.out x)
      have rest : Hid (Own w No (wr.alloc (.cells #[.string (ofL x.key), .string (ofL x.val), .bool x.ghost] 84)) (Asn.blk wr.heap.size 84 #[.string (ofL x.key), .string (ofL x.val), .bool x.ghost] * Asn.blk g 31 #[.int .i64 n.tree, .int .i64 n.level, .int .i64 n.stamp, .bool n.has, .string (ofL n.high), .int .i64 n.right, .slice (some ⟨b, o, none⟩) n.list.length m1])) := X1
      clear X1
      go_upto_region 6 with fail
      obtain ⟨ge, hgz⟩ : ∃ g, g = wr.heap.size := ⟨_, rfl⟩
      rw [← hgz] at rest ⊢
      clear hgz
      generalize wr.alloc _ = w2 at *
      obtain ⟨e0, e1, e2⟩ := ent_cells (rest.out.has (Has.l (has_blk _ _ _)))
      obtain ⟨c0, c1, c2, c3, c4, c5, c6⟩ := nod_cells (rest.out.has (Has.r (has_blk _ _ _)))
      cases k with
      | zero =>
        obtain rfl : q = true := hq
        go_wp2_with fail
        go_quiet (fail)
        have Y := Lib.hid (rest.out.drewN nq)
        clear rest e0 e1 e2 c0 c1 c2 c3 c4 c5 c6
        generalize w2.drewN nq = w3 at *
        obtain ⟨e0, e1, e2⟩ := ent_cells (Y.out.has (Has.l (has_blk _ _ _)))
        obtain ⟨c0, c1, c2, c3, c4, c5, c6⟩ := nod_cells (Y.out.has (Has.r (has_blk _ _ _)))
        go_wp2_with fail
        refine (E1.out _).mono ?_
        rintro e w4 ⟨rfl, hX⟩
        have Z := Lib.hid (Y.out.below hX)
        clear hX Y e0 e1 e2 c0 c1 c2 c3 c4 c5 c6
        generalize cov n x.key = q2 at *
        cases q2
        · go_wp2_with fail
          go_returns
          exact ⟨ret_bool (HF.out rfl).symm, Z.out.bel⟩
        obtain ⟨e0, e1, e2⟩ := ent_cells (Z.out.has (Has.l (has_blk _ _ _)))
        obtain ⟨c0, c1, c2, c3, c4, c5, c6⟩ := nod_cells (Z.out.has (Has.r (has_blk _ _ _)))
        go_wp2_with fail
        refine (E2.out _).mono ?_
        rintro e w5 ⟨rfl, hX⟩
        have V := Lib.hid (Z.out.below hX)
        clear hX Z e0 e1 e2 c0 c1 c2 c3 c4 c5 c6
        generalize gEnt n.level x = q3 at *
        cases q3
        · go_wp2_with fail
          go_returns
          exact ⟨ret_bool (HF.out rfl).symm, V.out.bel⟩
        go_wp2_with fail
        go_roundw
        case rel => exact ⟨0 + 1, by omega, by go_num, Lib.hid (by rw [HST.out]; rfl), Lib.hid V.out.right⟩
        case measure => simp [intOf]; omega
      | succ j =>
        obtain ⟨y, hy⟩ : ∃ y, n.list[j]? = some y := ⟨n.list[j]'(by omega), List.getElem?_eq_getElem _⟩
        obtain ⟨d0, d1, d2⟩ := (HP.out.keep rest.out.bel).at' hy
        have hq2 : q = lt y.key x.key := by rw [hq, rise, hy]
        have hl := less y.key x.key
        rw [← hq2] at hl
        have hjj : IntKind.i64.wrap (j : Int) = (j : Int) := by rw [IntKind.wrap_i64]; omega
        have hj0 : (0 : Int) ≤ (j : Int) := by omega
        have hj1 : (j : Int) < (n.list.length : Int) := by omega
        have hj2 : ((j : Int)).toNat = j := rfl
        clear hq hq2 hy
        go_wp2_with fail
        go_quiet (fail)
        have Y := Lib.hid (rest.out.drewN nq)
        clear rest e0 e1 e2 c0 c1 c2 c3 c4 c5 c6 d0 d1 d2
        generalize w2.drewN nq = w3 at *
        clear hl
        cases q
        · go_wp2_with fail
          go_returns
          exact ⟨ret_bool (HF.out rfl).symm, Y.out.bel⟩
        obtain ⟨e0, e1, e2⟩ := ent_cells (Y.out.has (Has.l (has_blk _ _ _)))
        obtain ⟨c0, c1, c2, c3, c4, c5, c6⟩ := nod_cells (Y.out.has (Has.r (has_blk _ _ _)))
        go_wp2_with fail
        refine (E1.out _).mono ?_
        rintro e w4 ⟨rfl, hX⟩
        have Z := Lib.hid (Y.out.below hX)
        clear hX Y e0 e1 e2 c0 c1 c2 c3 c4 c5 c6
        generalize cov n x.key = q2 at *
        cases q2
        · go_wp2_with fail
          go_returns
          exact ⟨ret_bool (HF.out rfl).symm, Z.out.bel⟩
        obtain ⟨e0, e1, e2⟩ := ent_cells (Z.out.has (Has.l (has_blk _ _ _)))
        obtain ⟨c0, c1, c2, c3, c4, c5, c6⟩ := nod_cells (Z.out.has (Has.r (has_blk _ _ _)))
        go_wp2_with fail
        refine (E2.out _).mono ?_
        rintro e w5 ⟨rfl, hX⟩
        have V := Lib.hid (Z.out.below hX)
        clear hX Z e0 e1 e2 c0 c1 c2 c3 c4 c5 c6
        generalize gEnt n.level x = q3 at *
        cases q3
        · go_wp2_with fail
          go_returns
          exact ⟨ret_bool (HF.out rfl).symm, V.out.bel⟩
        go_wp2_with fail
        go_roundw
        case rel => exact ⟨j + 1 + 1, by omega, by go_num, Lib.hid (by rw [HST.out]; rfl), Lib.hid V.out.right⟩
        case measure => simp [intOf]; omega
    · obtain rfl : k = n.list.length := by omega
      have h1 := hG.out
      rw [HR.out] at h1
      have H1 := Lib.hid h1
      clear h1
      go_wp2_with fail
      go_returns
      exact ⟨ret_bool H1.out.symm, X.out.bel⟩
set_option maxRecDepth 100000 in
set_option maxHeartbeats 4000000 in
theorem Good_any (n : Nod) (v : Value) (w : World) (hv : NodAt w v n) :
    Calls Tryz.prog 121 #[v] w fun e w' => e = .returned (.bool (goodB n)) ∧ Below w.heap.size w w' := by
  have HL : Hid (∀ w', Below w.heap.size w w' → _) := Lib.hid (fun w' (hb : Below w.heap.size w w') => goodList_any n v w' (hv.keep hb))
  obtain ⟨p, rfl, hp⟩ := hv
  have HH := Lib.hid (fun w => goodHigh_any n p w)
  obtain ⟨R, hR⟩ : ∃ R, R = goodB n := ⟨_, rfl⟩
  rw [← hR]
  unfold goodB at hR
  have e1 := fun w => within_any n.tree 255 w
  have e2 := fun w => within_any n.level 12 w
  have e3 := fun w => within_any n.stamp 2147483647 w
  have e4 := fun w => within_any n.right 255 w
  have S := Lib.hid ((Own.none w).alloc (nodCells n p) 31).left
  generalize inN n.tree 255 = b1 at *
  generalize inN n.level 12 = b2 at *
  generalize inN n.stamp 2147483647 = b3 at *
  generalize inN n.right 255 = b4 at *
  generalize gHigh n = b5 at *
  generalize gList n = b6 at *
  obtain ⟨A1, m1, rfl⟩ := hp.slice
  have HR := Lib.hid hR
  clear hR hp
  unfold nodCells at *
  go_enter Tryz.func121, Tryz.ntmps121
  go_upto_region 1 with fail
  obtain ⟨g, hgz⟩ : ∃ g, g = w.heap.size := ⟨_, rfl⟩
  rw [← hgz] at S ⊢
  clear hgz
  generalize w.alloc _ = w1 at *
  obtain ⟨c0, c1, c2, c3, c4, c5, c6⟩ := nod_cells (S.out.has (has_blk _ _ _))
  go_wp2_with fail
  refine (e1 _).mono ?_
  rintro e w' ⟨rfl, rfl⟩
  cases b1
  case false =>
    go_wp2_with fail
    go_returns
    exact ⟨ret_bool (by rw [HR.out]; simp), S.out.bel⟩
  go_wp2_with fail
  refine (e2 _).mono ?_
  rintro e w' ⟨rfl, rfl⟩
  cases b2
  case false =>
    go_wp2_with fail
    go_returns
    exact ⟨ret_bool (by rw [HR.out]; simp), S.out.bel⟩
  go_wp2_with fail
  refine (e3 _).mono ?_
  rintro e w' ⟨rfl, rfl⟩
  cases b3
  case false =>
    go_wp2_with fail
    go_returns
    exact ⟨ret_bool (by rw [HR.out]; simp), S.out.bel⟩
  go_wp2_with fail
  refine (e4 _).mono ?_
  rintro e w' ⟨rfl, rfl⟩
  cases b4
  case false =>
    go_wp2_with fail
    go_returns
    exact ⟨ret_bool (by rw [HR.out]; simp), S.out.bel⟩
  go_wp2_with fail
  refine (HH.out _).mono ?_
  rintro e w2 ⟨rfl, hX⟩
  have T := Lib.hid (S.out.below hX)
  clear hX S c0 c1 c2 c3 c4 c5 c6
  cases b5
  case false =>
    go_wp2_with fail
    go_returns
    exact ⟨ret_bool (by rw [HR.out]; simp), T.out.bel⟩
  obtain ⟨c0, c1, c2, c3, c4, c5, c6⟩ := nod_cells (T.out.has (has_blk _ _ _))
  go_wp2_with fail
  refine (HL.out _ T.out.bel).mono ?_
  rintro e w3 ⟨rfl, hX⟩
  have U := Lib.hid (T.out.below hX)
  clear hX T c0 c1 c2 c3 c4 c5 c6
  go_wp2_with fail
  go_returns
  exact ⟨ret_bool (by rw [HR.out]; simp), U.out.bel⟩
set_option maxRecDepth 100000 in
set_option maxHeartbeats 4000000 in
theorem Fits_any (n : Nod) (v : Value) (w : World) (hv : NodAt w v n) :
    Calls Tryz.prog 81 #[v] w fun e w' => e = .returned (.bool (fitsB n)) ∧ Below w.heap.size w w' := by
  have HG : Hid (∀ w', Below w.heap.size w w' → _) := Lib.hid (fun w' (hb : Below w.heap.size w w') => Good_any n v w' (hv.keep hb))
  have HZ : Hid (goodB n = true → ∀ w', Below w.heap.size w w' → _) := Lib.hid (fun hg w' (hb : Below w.heap.size w w') => Size_any n v w' (hv.keep hb) (by have := size_small (goods hg); omega))
  obtain ⟨p, rfl, hp⟩ := hv
  obtain ⟨A1, m1, rfl⟩ := hp.slice
  have S := Lib.hid ((Own.none w).alloc (nodCells n (.slice A1 n.list.length m1)) 31).left
  clear hp
  unfold fitsB
  generalize goodB n = b1 at *
  unfold nodCells at *
  go_enter Tryz.func81, Tryz.ntmps81
  go_upto_region 1 with fail
  obtain ⟨g, hgz⟩ : ∃ g, g = w.heap.size := ⟨_, rfl⟩
  rw [← hgz] at S ⊢
  clear hgz
  generalize w.alloc _ = w1 at *
  obtain ⟨c0, c1, c2, c3, c4, c5, c6⟩ := nod_cells (S.out.has (has_blk _ _ _))
  go_wp2_with fail
  refine (HG.out _ S.out.bel).mono ?_
  rintro e w2 ⟨rfl, hX⟩
  have T := Lib.hid (S.out.below hX)
  clear hX S c0 c1 c2 c3 c4 c5 c6
  cases b1
  · go_wp2_with fail
    go_returns
    exact ⟨rfl, T.out.bel⟩
  obtain ⟨c0, c1, c2, c3, c4, c5, c6⟩ := nod_cells (T.out.has (has_blk _ _ _))
  go_wp2_with fail
  refine (HZ.out (by first | rfl | trivial) _ T.out.bel).mono ?_
  rintro e w3 ⟨rfl, hX⟩
  have U := Lib.hid (T.out.below hX)
  clear hX T c0 c1 c2 c3 c4 c5 c6
  go_wp2_with fail
  go_returns
  exact ⟨ret_bool (by simp <;> omega), U.out.bel⟩
end Go.Proofs.YtmnfoafpjmlbfaaGreatDoor.Nd
end

-- joined
section
namespace Go.Proofs.YtmnfoafpjmlbfaaGreatDoor.Nd
open Go.ChangeShapes Go.WideShapes Go.ChangeAt Go.RowKit Go.PlainAid Aid Cr Nt
set_option linter.unusedVariables false
set_option linter.unusedSimpArgs false
theorem flat_take {α : Type} (b : α → By) (l : List α) (k : Nat) (x : α) (hx : l[k]? = some x) : (l.take (k + 1)).flatMap b = (l.take k).flatMap b ++ b x := by
  rw [List.take_add_one, hx, List.flatMap_append]; simp
theorem flat_len_take {n : Nod} (g : Goods n) (k : Nat) : ((n.list.take k).flatMap bEnt).length ≤ 11100 := by
  rw [flat_size _ (fun e he => g.ky e (List.mem_of_mem_take he))]
  have h := sizeL_le n.list k
  have h2 := sizeL_bound n.list 100 g.vl
  have := g.ll
  have h3 : (11 + 100) * n.list.length ≤ 111 * 100 := Nat.mul_le_mul (by decide) this
  omega
set_option maxRecDepth 100000 in
set_option maxHeartbeats 4000000 in
theorem nod_write (w0 w : World) (g : Nat) (l : By) (n : Nod) (v : Value) (hg : Goods n) (hv : NodAt w0 v n) (S : Own w0 No w (aN g l)) (hl : l.length < 1000) :
    Calls Tryz.prog 152 #[bPtr g, v] w fun e w' => e = .returned (.tuple #[]) ∧ Own w0 No w' (aN g (l ++ body n)) := by
  obtain ⟨p, rfl, hp⟩ := hv
  obtain ⟨A1, m1, rfl⟩ := hp.slice
  have S0 := Lib.hid (S.alloc (nodCells n (.slice A1 n.list.length m1)) 31)
  have HP := Lib.hid hp
  have HG := Lib.hid hg
  have q1 := hg.ll
  have hhl := high_len hg
  obtain ⟨l1, e1, n1⟩ : ∃ x, x = l ++ numI 1 n.tree ∧ x.length = l.length + 1 := ⟨_, rfl, by simp only [List.length_append, numI, numL_length]⟩
  have T1 := Lib.hid (tNumI g l n.tree 1 (by omega) hg.t1)
  rw [← e1] at T1
  obtain ⟨l2, e2, n2⟩ : ∃ x, x = l1 ++ numI 1 n.level ∧ x.length = l1.length + 1 := ⟨_, rfl, by simp only [List.length_append, numI, numL_length]⟩
  have T2 := Lib.hid (tNumI g l1 n.level 1 (by omega) hg.l1)
  rw [← e2] at T2
  obtain ⟨l3, e3, n3⟩ : ∃ x, x = l2 ++ numI 4 n.stamp ∧ x.length = l2.length + 4 := ⟨_, rfl, by simp only [List.length_append, numI, numL_length]⟩
  have T3 := Lib.hid (tNumI g l2 n.stamp 4 (by omega) hg.s1)
  rw [← e3] at T3
  obtain ⟨l4, e4, n4⟩ : ∃ x, x = l3 ++ flagL n.has ∧ x.length = l3.length + 1 := ⟨_, rfl, by simp only [List.length_append, flag_len]⟩
  have T4 := Lib.hid (tFlag g l3 n.has (by omega))
  rw [← e4] at T4
  obtain ⟨l5, e5, n5⟩ : ∃ x, x = l4 ++ highL n ∧ x.length = l4.length + 9 := ⟨_, rfl, by rw [List.length_append, hhl]⟩
  have T5a := Lib.hid (fun h : n.has = true => (by
    have := tStr g l4 n.high (by rw [hg.hh h]; omega)
    rw [hg.hh h] at this
    rw [e5, highL, h]
    exact this : Tr Tryz.prog 118 #[bPtr g, .string (ofL n.high)] (aN g l4) (.tuple #[.int .i64 ((9 : Nat) : Int), .nilIface]) (aN g l5)))
  have T5b := Lib.hid (fun h : n.has = false => (by
    have := tNum g l4 0 9 (by omega)
    rw [e5, highL, h]
    exact this : Tr Tryz.prog 175 #[bPtr g, .int .i64 ((0 : Nat) : Int), .int .i64 ((9 : Nat) : Int)] (aN g l4) (.tuple #[]) (aN g l5)))
  obtain ⟨l6, e6, n6⟩ : ∃ x, x = l5 ++ numI 2 n.right ∧ x.length = l5.length + 2 := ⟨_, rfl, by simp only [List.length_append, numI, numL_length]⟩
  have T6 := Lib.hid (tNumI g l5 n.right 2 (by omega) hg.r1)
  rw [← e6] at T6
  obtain ⟨l7, e7, n7⟩ : ∃ x, x = l6 ++ numL 2 n.list.length ∧ x.length = l6.length + 2 := ⟨_, rfl, by rw [List.length_append, numL_length]⟩
  have T7 := Lib.hid (tNum g l6 n.list.length 2 (by omega))
  rw [← e7] at T7
  have efin : l7 ++ n.list.flatMap bEnt = l ++ body n := by
    rw [e7, e6, e5, e4, e3, e2, e1]; simp only [body, headL, List.append_assoc]
  have EF := Lib.hid efin
  clear e1 e2 e3 e4 e5 e6 e7 efin S hp hg hhl
  generalize body n = bd at *
  unfold nodCells at *
  unfold bPtr at *
  go_enter Tryz.func152, Tryz.ntmps152
  go_wp2_with fail
  obtain ⟨gr, hgz⟩ : ∃ g, g = w.heap.size := ⟨_, rfl⟩
  rw [← hgz] at S0 ⊢
  clear hgz
  generalize w.alloc _ = w1 at *
  refine (S0.out.call T1.out.r).mono ?_
  rintro e w2 ⟨rfl, hX⟩
  have S1 := Lib.hid hX
  clear hX S0
  obtain ⟨-, c1, -, -, -, -, -⟩ := nod_cells (S1.out.has (Has.l (has_blk _ _ _)))
  go_wp2_with fail
  refine (S1.out.call (T2.out.r)).mono ?_
  rintro e w3 ⟨rfl, hX⟩
  have S2 := Lib.hid hX
  clear hX S1 c1 T1
  obtain ⟨-, -, c1, -, -, -, -⟩ := nod_cells (S2.out.has (Has.l (has_blk _ _ _)))
  go_wp2_with fail
  refine (S2.out.call (T3.out.r)).mono ?_
  rintro e w4 ⟨rfl, hX⟩
  have S3 := Lib.hid hX
  clear hX S2 c1 T2
  obtain ⟨-, -, -, c1, c2, -, -⟩ := nod_cells (S3.out.has (Has.l (has_blk _ _ _)))
  go_wp2_with fail
  refine (S3.out.call (T4.out.r)).mono ?_
  rintro e w5 ⟨rfl, hX⟩
  have S4 := Lib.hid hX
  clear hX S3 c1 c2 T3
  obtain ⟨-, -, -, c1, c2, -, -⟩ := nod_cells (S4.out.has (Has.l (has_blk _ _ _)))
  cases hb : n.has with
  | true =>
    have T5 := Lib.hid (T5a.out hb)
    rw [hb] at c1
    go_wp2_with fail
    go_wp2_with fail
    refine wp_region_still_tail 5 (by kernel_rfl) (by kernel_rfl) ?_
    simp only [List.take_succ_cons, List.take_zero, List.drop_succ_cons, List.drop_zero]
    change wpStill _ _ w5.drew _ _ _
    repeat still_step
    refine wpStill_nil ?_
    change wpList _ _ _ _ _ w5.drew
    have S4d := Lib.hid S4.out.drew
    clear S4 c1 c2 T4
    generalize w5.drew = w5d at *
    go_wp2_with fail
    refine (S4d.out.call (T5.out.r)).mono ?_
    rintro e w6 ⟨rfl, hX⟩
    have S5 := Lib.hid hX
    clear hX S4d 
    obtain ⟨-, -, -, -, -, c1, -⟩ := nod_cells (S5.out.has (Has.l (has_blk _ _ _)))
    go_wp2_with fail
    refine (S5.out.call (T6.out.r)).mono ?_
    rintro e w7 ⟨rfl, hX⟩
    have S6 := Lib.hid hX
    clear hX S5 c1 T5a T5b
    obtain ⟨-, -, -, -, -, -, c1⟩ := nod_cells (S6.out.has (Has.l (has_blk _ _ _)))
    go_wp2_with fail
    refine (S6.out.call (T7.out.r)).mono ?_
    rintro e w8 ⟨rfl, hX⟩
    have S7 := Lib.hid hX
    clear hX S6 c1 T6
    obtain ⟨-, -, -, -, -, -, c1⟩ := nod_cells (S7.out.has (Has.l (has_blk _ _ _)))
    go_wp2_with fail
    go_loopw [44] (fun i wr => ∃ k : Nat, k ≤ n.list.length ∧ i = .int .i64 k ∧ Hid (Own w0 No wr (Asn.blk gr 31 (nodCells n (.slice A1 n.list.length m1)) * aN g (l7 ++ (n.list.take k).flatMap bEnt)))) (fun i _ => n.list.length - (intOf i).toNat)
    case atStart => exact ⟨0, Nat.zero_le _, rfl, by rw [List.take_zero, List.flatMap_nil, List.append_nil]; exact S7⟩
    case round =>
      clear S7 c1 T7
      obtain ⟨k, hk, rfl, X⟩ := hrel
      by_cases hlt : k < n.list.length
      · obtain ⟨x, hx⟩ : ∃ x, n.list[k]? = some x := ⟨n.list[k]'(by omega), List.getElem?_eq_getElem _⟩
        obtain ⟨b, ob, rfl, hbl, a0, a1, a2⟩ := (HP.out.keep X.out.bel).at hx
        have hln := flat_len_take HG.out k
        have hft := flat_take bEnt n.list k x hx
        have Y1 := Lib.hid (tEntry g (l7 ++ (n.list.take k).flatMap bEnt) x (by rw [List.length_append]; omega) (HG.out.ky x (List.mem_of_getElem? hx)) (HG.out.vl x (List.mem_of_getElem? hx)))
        rw [List.append_assoc, ← hft] at Y1
        have X1 := Lib.hid (X.out.alloc (entCells x) 84)
        clear hft hln hx X
        unfold entCells at *
        unfold bPtr at Y1
        go_wp2_with fail
        obtain ⟨gx, hgz⟩ : ∃ g, g = wr.heap.size := ⟨_, rfl⟩
        rw [← hgz] at X1 ⊢
        clear hgz
        generalize wr.alloc _ = wa at *
        clear a0 a1 a2
        obtain ⟨a0, a1, a2⟩ := ent_cells (X1.out.has (Has.l (has_blk _ _ _)))
        go_wp2_with fail
        refine (X1.out.call Y1.out.r.r).mono ?_
        rintro e wb ⟨rfl, hX⟩
        have X2 := Lib.hid hX.right
        clear hX X1 a0 a1 a2 Y1
        go_wp2_with fail
        go_round
        case rel => exact ⟨k + 1, by omega, by go_num, X2⟩
        case measure => simp [intOf]; omega
      · obtain rfl : k = n.list.length := by omega
        rw [List.take_length] at X
        go_wp2_with fail
        go_end0
        rw [EF.out] at X
        exact ⟨rfl, X.out.right⟩
  | false =>
    have T5 := Lib.hid (T5b.out hb)
    rw [hb] at c1
    go_wp2_with fail
    refine (S4.out.call (T5.out.r)).mono ?_
    rintro e w6 ⟨rfl, hX⟩
    have S5 := Lib.hid hX
    clear hX S4 c1 c2 T4
    obtain ⟨-, -, -, -, -, c1, -⟩ := nod_cells (S5.out.has (Has.l (has_blk _ _ _)))
    go_wp2_with fail
    refine (S5.out.call (T6.out.r)).mono ?_
    rintro e w7 ⟨rfl, hX⟩
    have S6 := Lib.hid hX
    clear hX S5 c1 T5a T5b
    obtain ⟨-, -, -, -, -, -, c1⟩ := nod_cells (S6.out.has (Has.l (has_blk _ _ _)))
    go_wp2_with fail
    refine (S6.out.call (T7.out.r)).mono ?_
    rintro e w8 ⟨rfl, hX⟩
    have S7 := Lib.hid hX
    clear hX S6 c1 T6
    obtain ⟨-, -, -, -, -, -, c1⟩ := nod_cells (S7.out.has (Has.l (has_blk _ _ _)))
    go_wp2_with fail
    go_loopw [44] (fun i wr => ∃ k : Nat, k ≤ n.list.length ∧ i = .int .i64 k ∧ Hid (Own w0 No wr (Asn.blk gr 31 (nodCells n (.slice A1 n.list.length m1)) * aN g (l7 ++ (n.list.take k).flatMap bEnt)))) (fun i _ => n.list.length - (intOf i).toNat)
    case atStart => exact ⟨0, Nat.zero_le _, rfl, by rw [List.take_zero, List.flatMap_nil, List.append_nil]; exact S7⟩
    case round =>
      clear S7 c1 T7
      obtain ⟨k, hk, rfl, X⟩ := hrel
      by_cases hlt : k < n.list.length
      · obtain ⟨x, hx⟩ : ∃ x, n.list[k]? = some x := ⟨n.list[k]'(by omega), List.getElem?_eq_getElem _⟩
        obtain ⟨b, ob, rfl, hbl, a0, a1, a2⟩ := (HP.out.keep X.out.bel).at hx
        have hln := flat_len_take HG.out k
        have hft := flat_take bEnt n.list k x hx
        have Y1 := Lib.hid (tEntry g (l7 ++ (n.list.take k).flatMap bEnt) x (by rw [List.length_append]; omega) (HG.out.ky x (List.mem_of_getElem? hx)) (HG.out.vl x (List.mem_of_getElem? hx)))
        rw [List.append_assoc, ← hft] at Y1
        have X1 := Lib.hid (X.out.alloc (entCells x) 84)
        clear hft hln hx X
        unfold entCells at *
        unfold bPtr at Y1
        go_wp2_with fail
        obtain ⟨gx, hgz⟩ : ∃ g, g = wr.heap.size := ⟨_, rfl⟩
        rw [← hgz] at X1 ⊢
        clear hgz
        generalize wr.alloc _ = wa at *
        clear a0 a1 a2
        obtain ⟨a0, a1, a2⟩ := ent_cells (X1.out.has (Has.l (has_blk _ _ _)))
        go_wp2_with fail
        refine (X1.out.call Y1.out.r.r).mono ?_
        rintro e wb ⟨rfl, hX⟩
        have X2 := Lib.hid hX.right
        clear hX X1 a0 a1 a2 Y1
        go_wp2_with fail
        go_round
        case rel => exact ⟨k + 1, by omega, by go_num, X2⟩
        case measure => simp [intOf]; omega
      · obtain rfl : k = n.list.length := by omega
        rw [List.take_length] at X
        go_wp2_with fail
        go_end0
        rw [EF.out] at X
        exact ⟨rfl, X.out.right⟩
end Go.Proofs.YtmnfoafpjmlbfaaGreatDoor.Nd
end
