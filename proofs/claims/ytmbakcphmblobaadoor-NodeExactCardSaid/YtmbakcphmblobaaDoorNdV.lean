/- The writer of a whole node; Bytes. -/
import Derived.Test.YtmbakcphmblobaaDoorNdW
import Derived.Test.YtmbakcphmblobaaDoorNdB
namespace Go.Proofs.YtmbakcphmblobaaDoor.Nd
open Go.ChangeShapes Go.WideShapes Go.ChangeAt Go.RowKit Go.PlainAid Aid Cr Nt
set_option linter.unusedVariables false
set_option linter.unusedSimpArgs false
theorem flat_take {α : Type} (b : α → By) (l : List α) (k : Nat) (x : α) (hx : l[k]? = some x) : (l.take (k + 1)).flatMap b = (l.take k).flatMap b ++ b x := by
  rw [List.take_add_one, hx, List.flatMap_append]; simp
theorem flat_len_take {n : Nod} (g : Goods n) (k : Nat) : ((n.list.take k).flatMap bEnt).length ≤ 11100 := by
  rw [flat_size _ (fun e he => g.ky e (List.mem_of_mem_take he))]
  have h := sizeL_le n.list k
  have h2 := sizeL_bound n.list 100 g.vl
  have := g.ll
  have h3 : (11 + 100) * n.list.length ≤ 111 * 100 := Nat.mul_le_mul (by decide) this
  omega
set_option maxRecDepth 100000 in
set_option maxHeartbeats 4000000 in
theorem nod_write (w0 w : World) (g : Nat) (l : By) (n : Nod) (v : Value) (hg : Goods n) (hv : NodAt w0 v n) (S : Own w0 No w (aN g l)) (hl : l.length < 1000) :
    Calls Tryd.prog 82 #[bPtr g, v] w fun e w' => e = .returned (.tuple #[]) ∧ Own w0 No w' (aN g (l ++ body n)) := by
  obtain ⟨p, rfl, hp⟩ := hv
  obtain ⟨A1, m1, rfl⟩ := hp.slice
  have S0 := Lib.hid (S.alloc (nodCells n (.slice A1 n.list.length m1)) 64)
  have HP := Lib.hid hp
  have HG := Lib.hid hg
  have q1 := hg.ll
  have hhl := high_len hg
  obtain ⟨l1, e1, n1⟩ : ∃ x, x = l ++ numI 1 n.tree ∧ x.length = l.length + 1 := ⟨_, rfl, by simp only [List.length_append, numI, numL_length]⟩
  have T1 := Lib.hid (tNumI g l n.tree 1 (by omega) hg.t1)
  rw [← e1] at T1
  obtain ⟨l2, e2, n2⟩ : ∃ x, x = l1 ++ numI 1 n.level ∧ x.length = l1.length + 1 := ⟨_, rfl, by simp only [List.length_append, numI, numL_length]⟩
  have T2 := Lib.hid (tNumI g l1 n.level 1 (by omega) hg.l1)
  rw [← e2] at T2
  obtain ⟨l3, e3, n3⟩ : ∃ x, x = l2 ++ numI 4 n.stamp ∧ x.length = l2.length + 4 := ⟨_, rfl, by simp only [List.length_append, numI, numL_length]⟩
  have T3 := Lib.hid (tNumI g l2 n.stamp 4 (by omega) hg.s1)
  rw [← e3] at T3
  obtain ⟨l4, e4, n4⟩ : ∃ x, x = l3 ++ flagL n.has ∧ x.length = l3.length + 1 := ⟨_, rfl, by simp only [List.length_append, flag_len]⟩
  have T4 := Lib.hid (tFlag g l3 n.has (by omega))
  rw [← e4] at T4
  obtain ⟨l5, e5, n5⟩ : ∃ x, x = l4 ++ highL n ∧ x.length = l4.length + 9 := ⟨_, rfl, by rw [List.length_append, hhl]⟩
  have T5a := Lib.hid (fun h : n.has = true => (by
    have := tStr g l4 n.high (by rw [hg.hh h]; omega)
    rw [hg.hh h] at this
    rw [e5, highL, h]
    exact this : Tr Tryd.prog 102 #[bPtr g, .string (ofL n.high)] (aN g l4) (.tuple #[.int .i64 ((9 : Nat) : Int), .nilIface]) (aN g l5)))
  have T5b := Lib.hid (fun h : n.has = false => (by
    have := tNum g l4 0 9 (by omega)
    rw [e5, highL, h]
    exact this : Tr Tryd.prog 81 #[bPtr g, .int .i64 ((0 : Nat) : Int), .int .i64 ((9 : Nat) : Int)] (aN g l4) (.tuple #[]) (aN g l5)))
  obtain ⟨l6, e6, n6⟩ : ∃ x, x = l5 ++ numI 2 n.right ∧ x.length = l5.length + 2 := ⟨_, rfl, by simp only [List.length_append, numI, numL_length]⟩
  have T6 := Lib.hid (tNumI g l5 n.right 2 (by omega) hg.r1)
  rw [← e6] at T6
  obtain ⟨l7, e7, n7⟩ : ∃ x, x = l6 ++ numL 2 n.list.length ∧ x.length = l6.length + 2 := ⟨_, rfl, by rw [List.length_append, numL_length]⟩
  have T7 := Lib.hid (tNum g l6 n.list.length 2 (by omega))
  rw [← e7] at T7
  have efin : l7 ++ n.list.flatMap bEnt = l ++ body n := by
    rw [e7, e6, e5, e4, e3, e2, e1]; simp only [body, headL, List.append_assoc]
  have EF := Lib.hid efin
  clear e1 e2 e3 e4 e5 e6 e7 efin S hp hg hhl
  generalize body n = bd at *
  unfold nodCells at *
  unfold bPtr at *
  go_enter Tryd.func82, Tryd.ntmps82
  go_wp2_with fail
  obtain ⟨gr, hgz⟩ : ∃ g, g = w.heap.size := ⟨_, rfl⟩
  rw [← hgz] at S0 ⊢
  clear hgz
  generalize w.alloc _ = w1 at *
  refine (S0.out.call T1.out.r).mono ?_
  rintro e w2 ⟨rfl, hX⟩
  have S1 := Lib.hid hX
  clear hX S0
  obtain ⟨-, c1, -, -, -, -, -⟩ := nod_cells (S1.out.has (Has.l (has_blk _ _ _)))
  go_wp2_with fail
  refine (S1.out.call (T2.out.r)).mono ?_
  rintro e w3 ⟨rfl, hX⟩
  have S2 := Lib.hid hX
  clear hX S1 c1 T1
  obtain ⟨-, -, c1, -, -, -, -⟩ := nod_cells (S2.out.has (Has.l (has_blk _ _ _)))
  go_wp2_with fail
  refine (S2.out.call (T3.out.r)).mono ?_
  rintro e w4 ⟨rfl, hX⟩
  have S3 := Lib.hid hX
  clear hX S2 c1 T2
  obtain ⟨-, -, -, c1, c2, -, -⟩ := nod_cells (S3.out.has (Has.l (has_blk _ _ _)))
  go_wp2_with fail
  refine (S3.out.call (T4.out.r)).mono ?_
  rintro e w5 ⟨rfl, hX⟩
  have S4 := Lib.hid hX
  clear hX S3 c1 c2 T3
  obtain ⟨-, -, -, c1, c2, -, -⟩ := nod_cells (S4.out.has (Has.l (has_blk _ _ _)))
  cases hb : n.has with
  | true =>
    have T5 := Lib.hid (T5a.out hb)
    rw [hb] at c1
    go_wp2_with fail
    go_wp2_with fail
    refine wp_region_still_tail 5 (by kernel_rfl) (by kernel_rfl) ?_
    simp only [List.take_succ_cons, List.take_zero, List.drop_succ_cons, List.drop_zero]
    change wpStill _ _ w5.drew _ _ _
    repeat still_step
    refine wpStill_nil ?_
    change wpList _ _ _ _ _ w5.drew
    have S4d := Lib.hid S4.out.drew
    clear S4 c1 c2 T4
    generalize w5.drew = w5d at *
    go_wp2_with fail
    refine (S4d.out.call (T5.out.r)).mono ?_
    rintro e w6 ⟨rfl, hX⟩
    have S5 := Lib.hid hX
    clear hX S4d 
    obtain ⟨-, -, -, -, -, c1, -⟩ := nod_cells (S5.out.has (Has.l (has_blk _ _ _)))
    go_wp2_with fail
    refine (S5.out.call (T6.out.r)).mono ?_
    rintro e w7 ⟨rfl, hX⟩
    have S6 := Lib.hid hX
    clear hX S5 c1 T5a T5b
    obtain ⟨-, -, -, -, -, -, c1⟩ := nod_cells (S6.out.has (Has.l (has_blk _ _ _)))
    go_wp2_with fail
    refine (S6.out.call (T7.out.r)).mono ?_
    rintro e w8 ⟨rfl, hX⟩
    have S7 := Lib.hid hX
    clear hX S6 c1 T6
    obtain ⟨-, -, -, -, -, -, c1⟩ := nod_cells (S7.out.has (Has.l (has_blk _ _ _)))
    go_wp2_with fail
    go_loopw [44] (fun i wr => ∃ k : Nat, k ≤ n.list.length ∧ i = .int .i64 k ∧ Hid (Own w0 No wr (Asn.blk gr 64 (nodCells n (.slice A1 n.list.length m1)) * aN g (l7 ++ (n.list.take k).flatMap bEnt)))) (fun i _ => n.list.length - (intOf i).toNat)
    case atStart => exact ⟨0, Nat.zero_le _, rfl, by rw [List.take_zero, List.flatMap_nil, List.append_nil]; exact S7⟩
    case round =>
      clear S7 c1 T7
      obtain ⟨k, hk, rfl, X⟩ := hrel
      by_cases hlt : k < n.list.length
      · obtain ⟨x, hx⟩ : ∃ x, n.list[k]? = some x := ⟨n.list[k]'(by omega), List.getElem?_eq_getElem _⟩
        obtain ⟨b, ob, rfl, hbl, a0, a1, a2⟩ := (HP.out.keep X.out.bel).at hx
        have hln := flat_len_take HG.out k
        have hft := flat_take bEnt n.list k x hx
        have Y1 := Lib.hid (tEntry g (l7 ++ (n.list.take k).flatMap bEnt) x (by rw [List.length_append]; omega) (HG.out.ky x (List.mem_of_getElem? hx)) (HG.out.vl x (List.mem_of_getElem? hx)))
        rw [List.append_assoc, ← hft] at Y1
        have X1 := Lib.hid (X.out.alloc (entCells x) 111)
        clear hft hln hx X
        unfold entCells at *
        unfold bPtr at Y1
        go_wp2_with fail
        obtain ⟨gx, hgz⟩ : ∃ g, g = wr.heap.size := ⟨_, rfl⟩
        rw [← hgz] at X1 ⊢
        clear hgz
        generalize wr.alloc _ = wa at *
        clear a0 a1 a2
        obtain ⟨a0, a1, a2⟩ := ent_cells (X1.out.has (Has.l (has_blk _ _ _)))
        go_wp2_with fail
        refine (X1.out.call Y1.out.r.r).mono ?_
        rintro e wb ⟨rfl, hX⟩
        have X2 := Lib.hid hX.right
        clear hX X1 a0 a1 a2 Y1
        go_wp2_with fail
        go_round
        case rel => exact ⟨k + 1, by omega, by go_num, X2⟩
        case measure => simp [intOf]; omega
      · obtain rfl : k = n.list.length := by omega
        rw [List.take_length] at X
        go_wp2_with fail
        go_end0
        rw [EF.out] at X
        exact ⟨rfl, X.out.right⟩
  | false =>
    have T5 := Lib.hid (T5b.out hb)
    rw [hb] at c1
    go_wp2_with fail
    refine (S4.out.call (T5.out.r)).mono ?_
    rintro e w6 ⟨rfl, hX⟩
    have S5 := Lib.hid hX
    clear hX S4 c1 c2 T4
    obtain ⟨-, -, -, -, -, c1, -⟩ := nod_cells (S5.out.has (Has.l (has_blk _ _ _)))
    go_wp2_with fail
    refine (S5.out.call (T6.out.r)).mono ?_
    rintro e w7 ⟨rfl, hX⟩
    have S6 := Lib.hid hX
    clear hX S5 c1 T5a T5b
    obtain ⟨-, -, -, -, -, -, c1⟩ := nod_cells (S6.out.has (Has.l (has_blk _ _ _)))
    go_wp2_with fail
    refine (S6.out.call (T7.out.r)).mono ?_
    rintro e w8 ⟨rfl, hX⟩
    have S7 := Lib.hid hX
    clear hX S6 c1 T6
    obtain ⟨-, -, -, -, -, -, c1⟩ := nod_cells (S7.out.has (Has.l (has_blk _ _ _)))
    go_wp2_with fail
    go_loopw [44] (fun i wr => ∃ k : Nat, k ≤ n.list.length ∧ i = .int .i64 k ∧ Hid (Own w0 No wr (Asn.blk gr 64 (nodCells n (.slice A1 n.list.length m1)) * aN g (l7 ++ (n.list.take k).flatMap bEnt)))) (fun i _ => n.list.length - (intOf i).toNat)
    case atStart => exact ⟨0, Nat.zero_le _, rfl, by rw [List.take_zero, List.flatMap_nil, List.append_nil]; exact S7⟩
    case round =>
      clear S7 c1 T7
      obtain ⟨k, hk, rfl, X⟩ := hrel
      by_cases hlt : k < n.list.length
      · obtain ⟨x, hx⟩ : ∃ x, n.list[k]? = some x := ⟨n.list[k]'(by omega), List.getElem?_eq_getElem _⟩
        obtain ⟨b, ob, rfl, hbl, a0, a1, a2⟩ := (HP.out.keep X.out.bel).at hx
        have hln := flat_len_take HG.out k
        have hft := flat_take bEnt n.list k x hx
        have Y1 := Lib.hid (tEntry g (l7 ++ (n.list.take k).flatMap bEnt) x (by rw [List.length_append]; omega) (HG.out.ky x (List.mem_of_getElem? hx)) (HG.out.vl x (List.mem_of_getElem? hx)))
        rw [List.append_assoc, ← hft] at Y1
        have X1 := Lib.hid (X.out.alloc (entCells x) 111)
        clear hft hln hx X
        unfold entCells at *
        unfold bPtr at Y1
        go_wp2_with fail
        obtain ⟨gx, hgz⟩ : ∃ g, g = wr.heap.size := ⟨_, rfl⟩
        rw [← hgz] at X1 ⊢
        clear hgz
        generalize wr.alloc _ = wa at *
        clear a0 a1 a2
        obtain ⟨a0, a1, a2⟩ := ent_cells (X1.out.has (Has.l (has_blk _ _ _)))
        go_wp2_with fail
        refine (X1.out.call Y1.out.r.r).mono ?_
        rintro e wb ⟨rfl, hX⟩
        have X2 := Lib.hid hX.right
        clear hX X1 a0 a1 a2 Y1
        go_wp2_with fail
        go_round
        case rel => exact ⟨k + 1, by omega, by go_num, X2⟩
        case measure => simp [intOf]; omega
      · obtain rfl : k = n.list.length := by omega
        rw [List.take_length] at X
        go_wp2_with fail
        go_end0
        rw [EF.out] at X
        exact ⟨rfl, X.out.right⟩
end Go.Proofs.YtmbakcphmblobaaDoor.Nd
