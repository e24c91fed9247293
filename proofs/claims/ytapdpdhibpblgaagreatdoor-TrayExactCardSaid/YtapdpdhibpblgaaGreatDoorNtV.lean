/- Texts of ours, joined. -/
import Derived.Test.YtapdpdhibpblgaaGreatDoorNtU

-- joined
section
namespace Go.Proofs.YtapdpdhibpblgaaGreatDoor.Nt
open Go.ChangeShapes Go.WideShapes Go.ChangeAt Go.RowKit Go.PlainAid Aid Cr
set_option linter.unusedVariables false
set_option linter.unusedSimpArgs false
theorem flat_take {α : Type} (b : α → By) (l : List α) (k : Nat) (x : α) (hx : l[k]? = some x) : (l.take (k + 1)).flatMap b = (l.take k).flatMap b ++ b x := by
  rw [List.take_add_one, hx, List.flatMap_append]; simp
theorem flat_len_take {α : Type} (b : α → By) (n : Nat) (xs : List α) (k : Nat) (hk : k ≤ xs.length) (h : ∀ x, x ∈ xs → (b x).length = n) : ((xs.take k).flatMap b).length = n * k := by
  rw [flat_len b n _ (fun x hx => h x (List.mem_of_mem_take hx)), List.length_take, Nat.min_eq_left hk]
set_option maxRecDepth 100000 in
set_option maxHeartbeats 4000000 in
theorem rec_write (w0 w : World) (g : Nat) (l : By) (r : Rec) (v : Value) (hg : Goods r) (hv : RecAt w0 v r) (S : Own w0 No w (aW g l)) (hl : l.length < 100000) :
    Calls Tryz.prog 64 #[bPtr g, v] w fun e w' => e = .returned (.tuple #[]) ∧ Own w0 No w' (aW g (l ++ body r)) := by
  obtain ⟨p, o, d, rfl, hp, ho, hd⟩ := hv
  obtain ⟨A1, m1, rfl⟩ := hp.slice
  obtain ⟨A2, m2, rfl⟩ := ho.slice
  obtain ⟨A3, m3, rfl⟩ := hd.slice
  have S0 := Lib.hid (S.alloc (recCells r (.slice A1 r.pages.length m1) (.slice A2 r.opn.length m2) (.slice A3 r.dty.length m3)) 50)
  have HP := Lib.hid hp
  have HO := Lib.hid ho
  have HD := Lib.hid hd
  have HG := Lib.hid hg
  have q1 := hg.pl; have q2 := hg.ol; have q3 := hg.dl; have q4 := hg.key; have q5 := hg.val
  obtain ⟨l1, e1, n1⟩ : ∃ x, x = l ++ numI 1 r.kind ∧ x.length = l.length + 1 := ⟨_, rfl, by simp only [List.length_append, numI, numL_length, bUnd, bText] <;> omega⟩
  have T1 := Lib.hid (tNumI g l r.kind 1 (by omega) (by have := hg.k1; omega) (by have := hg.k2; omega))
  rw [← e1] at T1
  obtain ⟨l2, e2, n2⟩ : ∃ x, x = l1 ++ numI 4 r.deal ∧ x.length = l1.length + 4 := ⟨_, rfl, by simp only [List.length_append, numI, numL_length, bUnd, bText] <;> omega⟩
  have T2 := Lib.hid (tNumI g l1 r.deal 4 (by omega) hg.d1 (by have := hg.d2; omega))
  rw [← e2] at T2
  obtain ⟨l3, e3, n3⟩ : ∃ x, x = l2 ++ numI 4 r.prev ∧ x.length = l2.length + 4 := ⟨_, rfl, by simp only [List.length_append, numI, numL_length, bUnd, bText] <;> omega⟩
  have T3 := Lib.hid (tNumI g l2 r.prev 4 (by omega) hg.p1 (by have := hg.p2; omega))
  rw [← e3] at T3
  obtain ⟨l4, e4, n4⟩ : ∃ x, x = l3 ++ numI 4 r.next ∧ x.length = l3.length + 4 := ⟨_, rfl, by simp only [List.length_append, numI, numL_length, bUnd, bText] <;> omega⟩
  have T4 := Lib.hid (tNumI g l3 r.next 4 (by omega) hg.n1 (by have := hg.n2; omega))
  rw [← e4] at T4
  obtain ⟨l5, e5, n5⟩ : ∃ x, x = l4 ++ bUnd r.und ∧ x.length = l4.length + (4 + r.und.key.length + r.und.val.length) := ⟨_, rfl, by simp only [List.length_append, numI, numL_length, bUnd, bText] <;> omega⟩
  have T5 := Lib.hid (tUndo g l4 r.und hg.uk1 hg.uk2 hg.ut1 hg.ut2 hg.key hg.val (by omega))
  rw [← e5] at T5
  obtain ⟨l6, e6, n6⟩ : ∃ x, x = l5 ++ numL 1 r.pages.length ∧ x.length = l5.length + 1 := ⟨_, rfl, by simp only [List.length_append, numI, numL_length, bUnd, bText] <;> omega⟩
  have T6 := Lib.hid (tNum g l5 r.pages.length 1 (by omega) (by omega))
  rw [← e6] at T6
  obtain ⟨l7, e7, n7⟩ : ∃ x, x = l6 ++ r.pages.flatMap bImg ++ numL 1 r.opn.length ∧ x.length = l6.length + 258 * r.pages.length + 1 := ⟨_, rfl, by rw [List.length_append, List.length_append, numL_length, flat_len _ 258 _ (fun x hx => bImg_len (hg.pg x hx))]⟩
  have T7 := Lib.hid (tNum g (l6 ++ r.pages.flatMap bImg) r.opn.length 1 (by rw [List.length_append, flat_len _ 258 _ (fun x hx => bImg_len (hg.pg x hx))]; omega) (by omega))
  rw [← e7] at T7
  obtain ⟨l8, e8, n8⟩ : ∃ x, x = l7 ++ r.opn.flatMap bOpn ++ numL 2 r.dty.length ∧ x.length = l7.length + 8 * r.opn.length + 2 := ⟨_, rfl, by rw [List.length_append, List.length_append, numL_length, flat_len _ 8 _ (fun x _ => bOpn_len x)]⟩
  have T8 := Lib.hid (tNum g (l7 ++ r.opn.flatMap bOpn) r.dty.length 2 (by rw [List.length_append, flat_len _ 8 _ (fun x _ => bOpn_len x)]; omega) (by omega))
  rw [← e8] at T8
  have efin : l8 ++ r.dty.flatMap bDty = l ++ body r := by
    rw [e8, e7, e6, e5, e4, e3, e2, e1]; simp only [body, List.append_assoc]
  have EF := Lib.hid efin
  clear e1 e2 e3 e4 e5 e6 e7 e8 efin S hp ho hd hg
  generalize body r = bd at *
  unfold recCells at *
  unfold undV at *
  unfold bPtr at *
  go_enter Tryz.func64, Tryz.ntmps64
  go_wp2_with fail
  obtain ⟨gr, hgz⟩ : ∃ g, g = w.heap.size := ⟨_, rfl⟩
  rw [← hgz] at S0 ⊢
  clear hgz
  generalize w.alloc _ = w1 at *
  refine (S0.out.call T1.out.r).mono ?_
  rintro e w2 ⟨rfl, hX⟩
  have S1 := Lib.hid hX
  clear hX S0
  obtain ⟨-, c1, -, -, -, -, -, -, -, -, -⟩ := rec_cells (S1.out.has (Has.l (has_blk _ _ _)))
  go_wp2_with fail
  refine (S1.out.call (T2.out.r)).mono ?_
  rintro e w3 ⟨rfl, hX⟩
  have S2 := Lib.hid hX
  clear hX S1 c1 T1
  obtain ⟨-, -, c1, -, -, -, -, -, -, -, -⟩ := rec_cells (S2.out.has (Has.l (has_blk _ _ _)))
  go_wp2_with fail
  refine (S2.out.call (T3.out.r)).mono ?_
  rintro e w4 ⟨rfl, hX⟩
  have S3 := Lib.hid hX
  clear hX S2 c1 T2
  obtain ⟨-, -, -, c1, -, -, -, -, -, -, -⟩ := rec_cells (S3.out.has (Has.l (has_blk _ _ _)))
  go_wp2_with fail
  refine (S3.out.call (T4.out.r)).mono ?_
  rintro e w5 ⟨rfl, hX⟩
  have S4 := Lib.hid hX
  clear hX S3 c1 T3
  obtain ⟨-, -, -, -, -, c5, c6, c7, c8, -, -⟩ := rec_cells (S4.out.has (Has.l (has_blk _ _ _)))
  go_wp2_with fail
  refine (S4.out.call (T5.out.r)).mono ?_
  rintro e w6 ⟨rfl, hX⟩
  have S5 := Lib.hid hX
  clear hX S4 c5 c6 c7 c8 T4
  obtain ⟨-, -, -, -, c4, -, -, -, -, -, -⟩ := rec_cells (S5.out.has (Has.l (has_blk _ _ _)))
  go_wp2_with fail
  refine (S5.out.call (T6.out.r)).mono ?_
  rintro e w7 ⟨rfl, hX⟩
  have S6 := Lib.hid hX
  clear hX S5 c4 T5
  obtain ⟨-, -, -, -, c4, -, -, -, -, -, -⟩ := rec_cells (S6.out.has (Has.l (has_blk _ _ _)))
  go_wp2_with fail
  go_loopw [5, 38] (fun _ i wr => ∃ k : Nat, k ≤ r.pages.length ∧ i = .int .i64 k ∧ Hid (Own w0 No wr (Asn.blk gr 50 (recCells r (.slice A1 r.pages.length m1) (.slice A2 r.opn.length m2) (.slice A3 r.dty.length m3)) * aW g (l6 ++ (r.pages.take k).flatMap bImg)))) (fun _ i _ => r.pages.length - (intOf i).toNat)
  case atStart => exact ⟨0, Nat.zero_le _, rfl, by rw [List.take_zero, List.flatMap_nil, List.append_nil]; exact S6⟩
  case round =>
    clear S6 c4
    obtain ⟨k, hk, rfl, X⟩ := hrel
    by_cases hlt : k < r.pages.length
    · obtain ⟨x, hx⟩ : ∃ x, r.pages[k]? = some x := ⟨r.pages[k]'(by omega), List.getElem?_eq_getElem _⟩
      obtain ⟨b, ob, rfl, hbl, c0, c1⟩ := (HP.out.keep X.out.bel).at hx
      have hgx := HG.out.pg x (List.mem_of_getElem? hx)
      have hln := flat_len_take bImg 258 r.pages k hk (fun x hx => bImg_len (HG.out.pg x hx))
      have hft := flat_take bImg r.pages k x hx
      obtain ⟨x1, x2⟩ := x
      simp only [gImg, inN, Bool.and_eq_true, decide_eq_true_eq] at hgx
      obtain ⟨⟨g1, g2⟩, g3⟩ := hgx
      have Y1 := Lib.hid (tNumI g (l6 ++ (r.pages.take k).flatMap bImg) x1 2 (by rw [List.length_append, hln]; omega) g1 (by omega))
      have Y2 := Lib.hid (tStr g (l6 ++ (r.pages.take k).flatMap bImg ++ numI 2 x1) x2 (by rw [List.length_append, List.length_append, hln, numI, numL_length]; omega))
      rw [List.append_assoc _ (numI 2 x1), show numI 2 x1 ++ x2 = bImg (x1, x2) from rfl] at Y2
      unfold fImg at c0 c1
      have X1 := Lib.hid (X.out.alloc #[.int .i64 x1, .string (ofL x2)] 181)
      have HF := Lib.hid hft
      clear hft hln hx X
      go_wp2_with fail
      obtain ⟨gx, hgz⟩ : ∃ g, g = wr.heap.size := ⟨_, rfl⟩
      rw [← hgz] at X1 ⊢
      clear hgz
      generalize wr.alloc _ = wa at *
      clear c0 c1
      refine (X1.out.call Y1.out.r.r).mono ?_
      rintro e wb ⟨rfl, hX⟩
      have X2 := Lib.hid hX
      clear hX X1
      obtain ⟨-, c1⟩ := two_cells (X2.out.has (Has.l (has_blk _ _ _)))
      go_wp2_with fail
      refine wp_region_still_tail 5 (by kernel_rfl) (by kernel_rfl) ?_
      simp only [List.take_succ_cons, List.take_zero, List.drop_succ_cons, List.drop_zero]
      change wpStill _ _ wb.drew _ _ _
      repeat still_step
      refine wpStill_nil ?_
      change wpList _ _ _ _ _ wb.drew
      have X2d := Lib.hid X2.out.drew
      clear X2 c1
      generalize wb.drew = wbd at *
      go_wp2_with fail
      refine (X2d.out.call (Y2.out.r.r)).mono ?_
      rintro e wc ⟨rfl, hX⟩
      have X3 := Lib.hid hX
      clear hX X2d 
      go_wp2_with fail
      go_round
      case rel => exact ⟨k + 1, by omega, by go_num, by rw [HF.out, ← List.append_assoc]; exact Lib.hid X3.out.right⟩
      case measure => simp [intOf]; omega
    · obtain rfl : k = r.pages.length := by omega
      rw [List.take_length] at X
      obtain ⟨-, -, -, -, -, -, -, -, -, c9, -⟩ := rec_cells (X.out.has (Has.l (has_blk _ _ _)))
      go_wp2_with fail
      refine (X.out.call (T7.out.r)).mono ?_
      rintro e wd ⟨rfl, hX⟩
      have S7 := Lib.hid hX
      clear hX X c9 T7
      obtain ⟨-, -, -, -, -, -, -, -, -, c9, -⟩ := rec_cells (S7.out.has (Has.l (has_blk _ _ _)))
      go_wp2_with fail
      go_loopw [7, 61] (fun _ i wr => ∃ k : Nat, k ≤ r.opn.length ∧ i = .int .i64 k ∧ Hid (Own w0 No wr (Asn.blk gr 50 (recCells r (.slice A1 r.pages.length m1) (.slice A2 r.opn.length m2) (.slice A3 r.dty.length m3)) * aW g (l7 ++ (r.opn.take k).flatMap bOpn)))) (fun _ i _ => r.opn.length - (intOf i).toNat)
      case atStart => exact ⟨0, Nat.zero_le _, rfl, by rw [List.take_zero, List.flatMap_nil, List.append_nil]; exact S7⟩
      case round =>
        clear S7 c9
        obtain ⟨k, hk, rfl, X⟩ := hrel
        by_cases hlt : k < r.opn.length
        · obtain ⟨x, hx⟩ : ∃ x, r.opn[k]? = some x := ⟨r.opn[k]'(by omega), List.getElem?_eq_getElem _⟩
          obtain ⟨b, ob, rfl, hbl, c0, c1⟩ := (HO.out.keep X.out.bel).at hx
          have hgx := HG.out.og x (List.mem_of_getElem? hx)
          have hln := flat_len_take bOpn 8 r.opn k hk (fun x _ => bOpn_len x)
          have hft := flat_take bOpn r.opn k x hx
          obtain ⟨x1, x2⟩ := x
          simp only [gOpn, inN, Bool.and_eq_true, decide_eq_true_eq] at hgx
          obtain ⟨⟨g1, g2⟩, g3, g4⟩ := hgx
          have Y1 := Lib.hid (tNumI g (l7 ++ (r.opn.take k).flatMap bOpn) x1 4 (by rw [List.length_append, hln]; omega) g1 (by omega))
          have Y2 := Lib.hid (tNumI g (l7 ++ (r.opn.take k).flatMap bOpn ++ numI 4 x1) x2 4 (by rw [List.length_append, List.length_append, hln, numI, numL_length]; omega) g3 (by omega))
          rw [List.append_assoc _ (numI 4 x1), show numI 4 x1 ++ numI 4 x2 = bOpn (x1, x2) from rfl] at Y2
          unfold fNum at c0 c1
          have X1 := Lib.hid (X.out.alloc #[.int .i64 x1, .int .i64 x2] 185)
          have HF := Lib.hid hft
          clear hft hln hx X
          go_wp2_with fail
          obtain ⟨gx, hgz⟩ : ∃ g, g = wr.heap.size := ⟨_, rfl⟩
          rw [← hgz] at X1 ⊢
          clear hgz
          generalize wr.alloc _ = wa at *
          clear c0 c1
          refine (X1.out.call Y1.out.r.r).mono ?_
          rintro e wb ⟨rfl, hX⟩
          have X2 := Lib.hid hX
          clear hX X1
          obtain ⟨-, c1⟩ := two_cells (X2.out.has (Has.l (has_blk _ _ _)))
          go_wp2_with fail
          refine (X2.out.call (Y2.out.r.r)).mono ?_
          rintro e wc ⟨rfl, hX⟩
          have X3 := Lib.hid hX
          clear hX X2 c1
          go_wp2_with fail
          go_round
          case rel => exact ⟨k + 1, by omega, by go_num, by rw [HF.out, ← List.append_assoc]; exact Lib.hid X3.out.right⟩
          case measure => simp [intOf]; omega
        · obtain rfl : k = r.opn.length := by omega
          rw [List.take_length] at X
          obtain ⟨-, -, -, -, -, -, -, -, -, -, c10⟩ := rec_cells (X.out.has (Has.l (has_blk _ _ _)))
          go_wp2_with fail
          refine (X.out.call (T8.out.r)).mono ?_
          rintro e we ⟨rfl, hX⟩
          have S8 := Lib.hid hX
          clear hX X c10 T8
          obtain ⟨-, -, -, -, -, -, -, -, -, -, c10⟩ := rec_cells (S8.out.has (Has.l (has_blk _ _ _)))
          go_wp2_with fail
          go_loopw [9, 82] (fun _ i wr => ∃ k : Nat, k ≤ r.dty.length ∧ i = .int .i64 k ∧ Hid (Own w0 No wr (Asn.blk gr 50 (recCells r (.slice A1 r.pages.length m1) (.slice A2 r.opn.length m2) (.slice A3 r.dty.length m3)) * aW g (l8 ++ (r.dty.take k).flatMap bDty)))) (fun _ i _ => r.dty.length - (intOf i).toNat)
          case atStart => exact ⟨0, Nat.zero_le _, rfl, by rw [List.take_zero, List.flatMap_nil, List.append_nil]; exact S8⟩
          case round =>
            clear S8 c10
            obtain ⟨k, hk, rfl, X⟩ := hrel
            by_cases hlt : k < r.dty.length
            · obtain ⟨x, hx⟩ : ∃ x, r.dty[k]? = some x := ⟨r.dty[k]'(by omega), List.getElem?_eq_getElem _⟩
              obtain ⟨b, ob, rfl, hbl, c0, c1⟩ := (HD.out.keep X.out.bel).at hx
              have hgx := HG.out.dg x (List.mem_of_getElem? hx)
              have hln := flat_len_take bDty 6 r.dty k hk (fun x _ => bDty_len x)
              have hft := flat_take bDty r.dty k x hx
              obtain ⟨x1, x2⟩ := x
              simp only [gDty, inN, Bool.and_eq_true, decide_eq_true_eq] at hgx
              obtain ⟨⟨g1, g2⟩, g3, g4⟩ := hgx
              have Y1 := Lib.hid (tNumI g (l8 ++ (r.dty.take k).flatMap bDty) x1 2 (by rw [List.length_append, hln]; omega) g1 (by omega))
              have Y2 := Lib.hid (tNumI g (l8 ++ (r.dty.take k).flatMap bDty ++ numI 2 x1) x2 4 (by rw [List.length_append, List.length_append, hln, numI, numL_length]; omega) g3 (by omega))
              rw [List.append_assoc _ (numI 2 x1), show numI 2 x1 ++ numI 4 x2 = bDty (x1, x2) from rfl] at Y2
              unfold fNum at c0 c1
              have X1 := Lib.hid (X.out.alloc #[.int .i64 x1, .int .i64 x2] 72)
              have HF := Lib.hid hft
              clear hft hln hx X
              go_wp2_with fail
              obtain ⟨gx, hgz⟩ : ∃ g, g = wr.heap.size := ⟨_, rfl⟩
              rw [← hgz] at X1 ⊢
              clear hgz
              generalize wr.alloc _ = wa at *
              clear c0 c1
              refine (X1.out.call Y1.out.r.r).mono ?_
              rintro e wb ⟨rfl, hX⟩
              have X2 := Lib.hid hX
              clear hX X1
              obtain ⟨-, c1⟩ := two_cells (X2.out.has (Has.l (has_blk _ _ _)))
              go_wp2_with fail
              refine (X2.out.call (Y2.out.r.r)).mono ?_
              rintro e wc ⟨rfl, hX⟩
              have X3 := Lib.hid hX
              clear hX X2 c1
              go_wp2_with fail
              go_round
              case rel => exact ⟨k + 1, by omega, by go_num, by rw [HF.out, ← List.append_assoc]; exact Lib.hid X3.out.right⟩
              case measure => simp [intOf]; omega
            · obtain rfl : k = r.dty.length := by omega
              rw [List.take_length] at X
              go_wp2_with fail
              go_end0
              rw [EF.out] at X
              exact ⟨rfl, X.out.right⟩
end Go.Proofs.YtapdpdhibpblgaaGreatDoor.Nt
end

-- joined
section
namespace Go.Proofs.YtapdpdhibpblgaaGreatDoor.Nt
open Go.ChangeShapes Go.WideShapes Go.ChangeAt Go.RowKit Go.PlainAid Aid Cr
set_option linter.unusedVariables false
set_option linter.unusedSimpArgs false
def bytesV (r : Rec) : Value := if goodB r then .tuple #[.string (ofL (bytes r)), .int .i64 0] else .tuple #[.string ⟨#[]⟩, .int .i64 1]
theorem sealS_ofL (l : By) : sealS (ofL l) = ofL (l ++ tailL (crc l)) := rfl
theorem headed_ne (r : Rec) : headed r ≠ [] := by unfold headed; simp [numL]
set_option maxRecDepth 100000 in
set_option maxHeartbeats 4000000 in
theorem Bytes_good (r : Rec) (v : Value) (w : World) (hv : RecAt w v r) (hg : goodB r = true) (ht : Tab w) :
    Calls Tryz.prog 28 #[v] w fun e w' => e = .returned (.tuple #[.string (ofL (bytes r)), .int .i64 0]) ∧ Below w.heap.size w w' := by
  have g := goods hg
  have hsz := size_small g
  have hbs := body_size r g.pg
  have E1 : Hid (∀ w', Below w.heap.size w w' → _) := Lib.hid (fun w' (hb : Below w.heap.size w w') => Good_any r v w' (hv.keep hb))
  rw [hg] at E1
  have E2 : Hid (∀ w', Below w.heap.size w w' → _) := Lib.hid (fun w' (hb : Below w.heap.size w w') => sizeOf_any r g v w' (hv.keep hb))
  have E3 := Lib.hid (fun (gb : Nat) (l : By) w' (S : Own w No w' (aW gb l)) (hl : l.length < 100000) => rec_write w w' gb l r v g hv S hl)
  have ET : Hid (∀ w', Below w.heap.size w w' → Tab w') := Lib.hid (fun w' hb => by
    obtain ⟨h1, h2⟩ := ht
    exact ⟨by have := hb.size; omega, fun i hi => by rw [(bcell hb).1 _ _ h1]; exact h2 i hi⟩)
  have ES := Lib.hid (fun w' (ht : Tab w') => Seal_any (ofL (headed r)) w' (by rw [ofL_sz, headed_len]; omega) ht)
  rw [sealS_ofL, show headed r ++ tailL (crc (headed r)) = bytes r from rfl] at ES
  have EQ := Lib.hid (fun gb => bString 146 gb (headed r) (headed_ne r))
  have EG := Lib.hid (fun gb => bGrow 146 bldW gb (sizeR r) (by unfold sizeR; omega) (by omega))
  have hnum : numI 4 ((sizeR r : Int) - 4 - 4) = numL 4 (body r).length := by unfold numI; congr 1; omega
  have EN := Lib.hid (fun gb => tNumI gb [] ((sizeR r : Int) - 4 - 4) 4 (by simp) (by omega) (by omega))
  rw [List.nil_append, hnum] at EN
  have hl4 : (numL 4 (body r).length).length < 100000 := by rw [numL_length]; decide
  have E3' := Lib.hid (fun gb w' S => E3.out gb (numL 4 (body r).length) w' S hl4)
  rw [show numL 4 (body r).length ++ body r = headed r from rfl] at E3'
  clear hbs hnum E3 ht hl4
  generalize numL 4 (body r).length = l0 at *
  generalize headed r = l1 at *
  generalize ofL l1 = x1 at *
  generalize ofL (bytes r) = x2 at *
  generalize sizeR r = N at *
  obtain ⟨p, o, d, rfl, -⟩ := hv
  have S := Lib.hid ((Own.none w).alloc (recCells r p o d) 50).left
  clear g hg
  unfold recCells at *
  unfold bPtr at *
  go_enter Tryz.func28, Tryz.ntmps28
  go_wp2_with fail
  obtain ⟨gr, hgz⟩ : ∃ g, g = w.heap.size := ⟨_, rfl⟩
  rw [← hgz] at S ⊢
  clear hgz
  generalize w.alloc _ = w1 at *
  refine (E1.out _ S.out.bel).mono ?_
  rintro e w2 ⟨rfl, hX⟩
  have S2 := Lib.hid ((S.out.below hX).alloc #[.pointer none, .slice none 0 0] 146)
  clear hX S
  obtain ⟨c0, c1, c2, c3, c4, c5, c6, c7, c8, c9, c10⟩ := rec_cells (S2.out.has (Has.r (has_blk _ _ _)))
  go_wp2_with fail
  obtain ⟨gb, hgz⟩ : ∃ g, g = w2.heap.size := ⟨_, rfl⟩
  rw [← hgz] at S2 ⊢
  clear hgz
  generalize w2.alloc _ = w3 at *
  refine (E2.out _ S2.out.bel).mono ?_
  rintro e w4 ⟨rfl, hX⟩
  have S3 := Lib.hid (S2.out.below hX)
  clear hX S2 c0 c1 c2 c3 c4 c5 c6 c7 c8 c9 c10
  go_wp2_with fail
  refine (S3.out.call ((EG.out gb).l)).mono ?_
  rintro e w5 ⟨rfl, hX⟩
  have S4 := Lib.hid hX
  clear hX S3 
  obtain ⟨c0, c1, c2, c3, c4, c5, c6, c7, c8, c9, c10⟩ := rec_cells (S4.out.has (Has.r (has_blk _ _ _)))
  go_wp2_with fail
  refine (E2.out _ S4.out.bel).mono ?_
  rintro e w6 ⟨rfl, hX⟩
  have S5 := Lib.hid (S4.out.below hX)
  clear hX S4 c0 c1 c2 c3 c4 c5 c6 c7 c8 c9 c10
  go_wp2_with fail
  refine (S5.out.call ((EN.out gb).l)).mono ?_
  rintro e w7 ⟨rfl, hX⟩
  have S6 := Lib.hid hX
  clear hX S5 
  obtain ⟨c0, c1, c2, c3, c4, c5, c6, c7, c8, c9, c10⟩ := rec_cells (S6.out.has (Has.r (has_blk _ _ _)))
  go_wp2_with fail
  refine (E3'.out gb _ S6.out.left).mono ?_
  rintro e w8 ⟨rfl, hX⟩
  have S7 := Lib.hid hX
  clear hX S6 c0 c1 c2 c3 c4 c5 c6 c7 c8 c9 c10
  go_wp2_with fail
  refine (S7.out.call (EQ.out gb)).mono ?_
  rintro e w9 ⟨rfl, hX⟩
  have S8 := Lib.hid hX
  clear hX S7 
  go_wp2_with fail
  refine (ES.out _ (ET.out _ S8.out.bel)).mono ?_
  rintro e w10 ⟨rfl, hX⟩
  have S9 := Lib.hid (S8.out.below hX)
  clear hX S8 
  go_wp2_with fail
  go_returns
  exact ⟨rfl, S9.out.bel⟩
set_option maxRecDepth 100000 in
set_option maxHeartbeats 4000000 in
theorem Bytes_bad (r : Rec) (v : Value) (w : World) (hv : RecAt w v r) (hg : goodB r = false) :
    Calls Tryz.prog 28 #[v] w fun e w' => e = .returned (.tuple #[.string ⟨#[]⟩, .int .i64 1]) ∧ Below w.heap.size w w' := by
  have E1 : Hid (∀ w', Below w.heap.size w w' → _) := Lib.hid (fun w' (hb : Below w.heap.size w w') => Good_any r v w' (hv.keep hb))
  rw [hg] at E1
  obtain ⟨p, o, d, rfl, -⟩ := hv
  have S := Lib.hid ((Own.none w).alloc (recCells r p o d) 50).left
  clear hg
  unfold recCells at *
  go_enter Tryz.func28, Tryz.ntmps28
  go_wp2_with fail
  obtain ⟨gr, hgz⟩ : ∃ g, g = w.heap.size := ⟨_, rfl⟩
  rw [← hgz] at S ⊢
  clear hgz
  generalize w.alloc _ = w1 at *
  refine (E1.out _ S.out.bel).mono ?_
  rintro e w2 ⟨rfl, hX⟩
  have S2 := Lib.hid (S.out.below hX)
  clear hX S
  go_wp2_with fail
  go_returns
  exact ⟨rfl, S2.out.bel⟩
theorem Bytes_any (r : Rec) (v : Value) (w : World) (hv : RecAt w v r) (ht : Tab w) :
    Calls Tryz.prog 28 #[v] w fun e w' => e = .returned (bytesV r) ∧ Below w.heap.size w w' := by
  unfold bytesV
  cases hg : goodB r
  · exact Bytes_bad r v w hv hg
  · exact Bytes_good r v w hv hg ht
end Go.Proofs.YtapdpdhibpblgaaGreatDoor.Nt
end

-- joined
section
namespace Go.Proofs.YtapdpdhibpblgaaGreatDoor.Nt
open Go.ChangeShapes Go.WideShapes Go.ChangeAt Go.RowKit Go.PlainAid Aid Cr
set_option linter.unusedVariables false
set_option linter.unusedSimpArgs false
def SomeBool (e : Ending) : Prop := ∃ b, e = .returned (.bool b)
end Go.Proofs.YtapdpdhibpblgaaGreatDoor.Nt
end

-- joined
section
namespace Go.Proofs.YtapdpdhibpblgaaGreatDoor.Nt
open Go.ChangeShapes Go.WideShapes Go.ChangeAt Go.RowKit Go.PlainAid Aid Cr
set_option linter.unusedVariables false
set_option linter.unusedSimpArgs false
def r35 : Rec := ⟨3, 5, 0, 0, [], Und.none, [], []⟩
theorem r35_good : goodB r35 = true := by decide +kernel
theorem r35_len : (bytes r35).length = 29 := by decide +kernel
theorem r35_nine : (bytes r35).take 9 = [21, 0, 0, 0, 3, 5, 0, 0, 0] := by decide +kernel
theorem read_nil : readR [] = none := by decide +kernel
theorem rV_some (r : Rec) (n : Nat) (v : Value) : rV (some (r, n)) v = .tuple #[v, .int .i64 n, .int .i64 0] := rfl
theorem rV_none (v : Value) : rV none v = .tuple #[v, .int .i64 0, .int .i64 3] := rfl
theorem RecAt.form {w : World} {v : Value} {r : Rec} (h : RecAt w v r) : ∃ A1 m1 A2 m2 A3 m3, v = .agg (recCells r (.slice A1 r.pages.length m1) (.slice A2 r.opn.length m2) (.slice A3 r.dty.length m3)) := by
  obtain ⟨p, o, d, rfl, hp, ho, hd⟩ := h
  obtain ⟨A1, m1, rfl⟩ := hp.slice
  obtain ⟨A2, m2, rfl⟩ := ho.slice
  obtain ⟨A3, m3, rfl⟩ := hd.slice
  exact ⟨_, _, _, _, _, _, rfl⟩
end Go.Proofs.YtapdpdhibpblgaaGreatDoor.Nt
end
