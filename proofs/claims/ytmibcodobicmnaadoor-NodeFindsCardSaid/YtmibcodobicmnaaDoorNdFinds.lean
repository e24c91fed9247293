/- NodeFinds, walked. -/
import Derived.Test.YtmibcodobicmnaaDoorNdK
import Derived.Test.YtmibcodobicmnaaDoorNdM
import Derived.Deep.RegionHeld3
namespace Go.Proofs.YtmibcodobicmnaaDoor.Nd
open Go.ChangeShapes Go.WideShapes Go.ChangeAt Go.RowKit Go.PlainAid Aid Cr Nt
set_option linter.unusedVariables false
set_option linter.unusedSimpArgs false
set_option maxRecDepth 100000 in
set_option maxHeartbeats 16000000 in
theorem finds_any (n m : Nod) (va vb : Value) (s : ByteArray) (w : World) (hva : NodAt w va n) (hvb : NodAt w vb m) (ht : Tab w) :
    Calls Tryd.prog 5 #[va, vb, .string s] w fun e w' => e = .returned (.bool true) ∧ Below w.heap.size w w' := by
  obtain ⟨l, hl⟩ : ∃ l : By, s = ofL l := ⟨s.data.toList, (ofL_back s).symm⟩
  have HT := Lib.hid ht
  have HA := Lib.hid (fun w ht => awake_any w ht)
  have HV := Lib.hid hva
  have GA : Hid (∀ w', Below w.heap.size w w' → _) := Lib.hid (fun w' (hb : Below w.heap.size w w') => great_small n va w' (hva.keep hb))
  have GB : Hid (∀ w', Below w.heap.size w w' → _) := Lib.hid (fun w' (hb : Below w.heap.size w w') => great_small m vb w' (hvb.keep hb))
  have EA : Hid (∀ w', Below w.heap.size w w' → _) := Lib.hid (fun w' (hb : Below w.heap.size w w') => Same_any n m va vb w' (hva.keep hb) (hvb.keep hb))
  have EB : Hid (∀ w', Below w.heap.size w w' → _) := Lib.hid (fun w' (hb : Below w.heap.size w w') => refSame_any n m va vb w' (hva.keep hb) (hvb.keep hb))
  have EF : Hid (∀ w', Below w.heap.size w w' → _) := Lib.hid (fun w' (hb : Below w.heap.size w w') => Find_any n l va w' (hva.keep hb))
  have ER : Hid (∀ w', Below w.heap.size w w' → Small n → l.length ≤ 100 → _) := Lib.hid (fun w' (hb : Below w.heap.size w w') hs hk => refFind_any n l va w' (hva.keep hb) hs hk)
  have hsz0 : s.size = l.length := by rw [hl]; rfl
  rw [← hl] at EF ER
  obtain ⟨p, rfl, hp⟩ := hva
  obtain ⟨p', rfl, hp'⟩ := hvb
  have EC := Lib.hid (fun w => Covers_any n p l w)
  rw [← hl] at EC
  have ET := Lib.hid (fun (hh : n.high.length ≤ 100) (hk : s.size ≤ 100) w => Texts_q s (ofL n.high) w (by unfold maxLen; omega) (by show n.high.length ≤ _; unfold maxLen; omega))
  have hcn : decide (Lib.compareBytes s.data.toList (ofL n.high).data.toList < 0) = lt l n.high := by rw [hl]; exact cmp_neg l n.high
  have HCN := Lib.hid hcn
  obtain ⟨A1, m1, rfl⟩ := hp.slice
  obtain ⟨B1, n1, rfl⟩ := hp'.slice
  have HP := Lib.hid hp
  have hm1 := hp.len.2
  unfold maxLen at hm1
  have hsz : ∀ cs T, (w.alloc (.cells cs T)).heap.size = w.heap.size + 1 := fun cs T => by simp
  have S := Lib.hid ((((Own.none w).alloc (nodCells n (.slice A1 n.list.length m1)) 64).left).alloc (nodCells m (.slice B1 m.list.length n1)) 64)
  rw [hsz] at S
  clear hsz ht hl hp hp' hcn
  unfold nodCells at *
  generalize decide (n = m) = R at *
  generalize lastLe n.list l n.list.length = F at *
  go_enter Tryd.func5, Tryd.ntmps5
  go_upto_region 1 with fail
  obtain ⟨g2, hg2⟩ : ∃ g, g = w.heap.size + 1 := ⟨_, rfl⟩
  rw [← hg2] at S ⊢
  obtain ⟨g1, hg1⟩ : ∃ g, g = w.heap.size := ⟨_, rfl⟩
  rw [← hg1] at S ⊢
  clear hg1 hg2
  generalize (w.alloc _).alloc _ = w1 at *
  go_wp2_with fail
  refine (HA.out _ (Tab.own HT.out S.out)).mono ?_
  rintro e w2 ⟨rfl, hX⟩
  have S1 := Lib.hid (S.out.below hX)
  clear hX S
  obtain ⟨c0, c1, c2, c3, c4, c5, c6⟩ := nod_cells (S1.out.has (Has.r (has_blk _ _ _)))
  go_wp2_with fail
  refine (GA.out _ S1.out.bel).mono ?_
  rintro e w3 ⟨hE, hX⟩
  have S2 := Lib.hid (S1.out.below hX)
  clear hX S1 c0 c1 c2 c3 c4 c5 c6
  rcases hE with rfl | ⟨rfl, hsn⟩
  · go_wp2_with fail
    go_returns
    exact ⟨rfl, S2.out.bel⟩
  have SN := Lib.hid hsn
  clear hsn
  obtain ⟨c0, c1, c2, c3, c4, c5, c6⟩ := nod_cells (S2.out.has (Has.l (has_blk _ _ _)))
  go_wp2_with fail
  refine (GB.out _ S2.out.bel).mono ?_
  rintro e w4 ⟨hE, hX⟩
  have S3 := Lib.hid (S2.out.below hX)
  clear hX S2 c0 c1 c2 c3 c4 c5 c6
  rcases hE with rfl | ⟨rfl, -⟩
  · go_wp2_with fail
    go_returns
    exact ⟨rfl, S3.out.bel⟩
  by_cases h4 : 100 < s.size
  · go_wp2_with fail
    go_returns
    exact ⟨rfl, S3.out.bel⟩
  have HS4 := Lib.hid h4
  go_upto_region 5 with fail
  have F1 : Hid (∀ W, Hid (Own w No W (Asn.blk g2 64 #[.int .i64 m.tree, .int .i64 m.level, .int .i64 m.stamp, .bool m.has, .string (ofL m.high), .int .i64 m.right, .slice B1 m.list.length n1] * Asn.blk g1 64 #[.int .i64 n.tree, .int .i64 n.level, .int .i64 n.stamp, .bool n.has, .string (ofL n.high), .int .i64 n.right, .slice A1 n.list.length m1])) → (W.cell? ⟨g1, 0, none⟩ = some (.int .i64 n.tree) ∧ W.cell? ⟨g1, 1, none⟩ = some (.int .i64 n.level) ∧ W.cell? ⟨g1, 2, none⟩ = some (.int .i64 n.stamp) ∧ W.cell? ⟨g1, 3, none⟩ = some (.bool n.has) ∧ W.cell? ⟨g1, 4, none⟩ = some (.string (ofL n.high)) ∧ W.cell? ⟨g1, 5, none⟩ = some (.int .i64 n.right) ∧ W.cell? ⟨g1, 6, none⟩ = some (.slice A1 n.list.length m1)) ∧ (W.cell? ⟨g2, 0, none⟩ = some (.int .i64 m.tree) ∧ W.cell? ⟨g2, 1, none⟩ = some (.int .i64 m.level) ∧ W.cell? ⟨g2, 2, none⟩ = some (.int .i64 m.stamp) ∧ W.cell? ⟨g2, 3, none⟩ = some (.bool m.has) ∧ W.cell? ⟨g2, 4, none⟩ = some (.string (ofL m.high)) ∧ W.cell? ⟨g2, 5, none⟩ = some (.int .i64 m.right) ∧ W.cell? ⟨g2, 6, none⟩ = some (.slice B1 m.list.length n1))) := Lib.hid fun W h => ⟨(seven (h.out.has (Has.r (has_blk _ _ _)))).1, (seven (h.out.has (Has.l (has_blk _ _ _)))).1⟩
  have HO : Hid (∀ W W', Below W.heap.size W W' → Hid (Own w No W (Asn.blk g2 64 #[.int .i64 m.tree, .int .i64 m.level, .int .i64 m.stamp, .bool m.has, .string (ofL m.high), .int .i64 m.right, .slice B1 m.list.length n1] * Asn.blk g1 64 #[.int .i64 n.tree, .int .i64 n.level, .int .i64 n.stamp, .bool n.has, .string (ofL n.high), .int .i64 n.right, .slice A1 n.list.length m1])) → Hid (Own w No W' (Asn.blk g2 64 #[.int .i64 m.tree, .int .i64 m.level, .int .i64 m.stamp, .bool m.has, .string (ofL m.high), .int .i64 m.right, .slice B1 m.list.length n1] * Asn.blk g1 64 #[.int .i64 n.tree, .int .i64 n.level, .int .i64 n.stamp, .bool n.has, .string (ofL n.high), .int .i64 n.right, .slice A1 n.list.length m1]))) := Lib.hid fun W W' hb h => Lib.hid (h.out.below hb)
  have SD := Lib.hid S3.out.drew
  have t0 := F1.out _ SD
  go_region_held3 (fun W => ((W.cell? ⟨g1, 0, none⟩ = some (.int .i64 n.tree) ∧ W.cell? ⟨g1, 1, none⟩ = some (.int .i64 n.level) ∧ W.cell? ⟨g1, 2, none⟩ = some (.int .i64 n.stamp) ∧ W.cell? ⟨g1, 3, none⟩ = some (.bool n.has) ∧ W.cell? ⟨g1, 4, none⟩ = some (.string (ofL n.high)) ∧ W.cell? ⟨g1, 5, none⟩ = some (.int .i64 n.right) ∧ W.cell? ⟨g1, 6, none⟩ = some (.slice A1 n.list.length m1)) ∧ (W.cell? ⟨g2, 0, none⟩ = some (.int .i64 m.tree) ∧ W.cell? ⟨g2, 1, none⟩ = some (.int .i64 m.level) ∧ W.cell? ⟨g2, 2, none⟩ = some (.int .i64 m.stamp) ∧ W.cell? ⟨g2, 3, none⟩ = some (.bool m.has) ∧ W.cell? ⟨g2, 4, none⟩ = some (.string (ofL m.high)) ∧ W.cell? ⟨g2, 5, none⟩ = some (.int .i64 m.right) ∧ W.cell? ⟨g2, 6, none⟩ = some (.slice B1 m.list.length n1))) ∧ Hid (Own w No W (Asn.blk g2 64 #[.int .i64 m.tree, .int .i64 m.level, .int .i64 m.stamp, .bool m.has, .string (ofL m.high), .int .i64 m.right, .slice B1 m.list.length n1] * Asn.blk g1 64 #[.int .i64 n.tree, .int .i64 n.level, .int .i64 n.stamp, .bool n.has, .string (ofL n.high), .int .i64 n.right, .slice A1 n.list.length m1]))) (first | exact ⟨t0, SD⟩ | exact ⟨t20, s20⟩ | exact ⟨t21, s21⟩) (first | (go_at_call 41; refine (EA.out _ SD.out.bel).mono ?_; rintro e w20 ⟨rfl, hb20⟩; have s20 := HO.out _ _ hb20 (by assumption); have t20 := F1.out _ s20) | (go_at_call 40; refine (EB.out _ s20.out.bel).mono ?_; rintro e w21 ⟨rfl, hb21⟩; have s21 := HO.out _ _ hb21 (by assumption); have t21 := F1.out _ s21))
  have S4 := s21
  have hrr : (R != R) = false := by simp
  clear t0 t20 t21 s20 s21 SD S3 hb20 hb21 F1 HO EA EB h4
  go_wp2_with fail
  go_loopw [7] (fun i wr => ∃ k : Nat, 1 ≤ k ∧ (k ≤ n.list.length ∨ k = 1) ∧ i = .int .i64 k ∧ Hid (Own w No wr (Asn.blk g2 64 #[.int .i64 m.tree, .int .i64 m.level, .int .i64 m.stamp, .bool m.has, .string (ofL m.high), .int .i64 m.right, .slice B1 m.list.length n1] * Asn.blk g1 64 #[.int .i64 n.tree, .int .i64 n.level, .int .i64 n.stamp, .bool n.has, .string (ofL n.high), .int .i64 n.right, .slice A1 n.list.length m1]))) (fun i _ => n.list.length - (intOf i).toNat)
  case atStart => exact ⟨1, Nat.le_refl _, Or.inr rfl, rfl, S4⟩
  case round =>
    clear S4 hrr
    obtain ⟨k, hk1, hk2, rfl, X⟩ := hrel
    obtain ⟨c0, c1, c2, c3, c4, c5, c6⟩ := nod_cells (X.out.has (Has.r (has_blk _ _ _)))
    by_cases hlt : k < n.list.length
    · obtain ⟨j, rfl⟩ : ∃ j, k = j + 1 := ⟨k - 1, by omega⟩
      obtain ⟨x, hx⟩ : ∃ x, n.list[j + 1]? = some x := ⟨n.list[j + 1]'(by omega), List.getElem?_eq_getElem _⟩
      obtain ⟨y, hy⟩ : ∃ x, n.list[j]? = some x := ⟨n.list[j]'(by omega), List.getElem?_eq_getElem _⟩
      obtain ⟨b, o, rfl, hbl, a0, -, -⟩ := (HP.out.keep X.out.bel).at hx
      obtain ⟨d0, -, -⟩ := (HP.out.keep X.out.bel).at' hy
      have T := Lib.hid (fun w => Texts_q (ofL y.key) (ofL x.key) w (by have := (SN.out.ky y (List.mem_of_getElem? hy)).1; show y.key.length ≤ _; unfold maxLen; omega) (by have := (SN.out.ky x (List.mem_of_getElem? hx)).1; show x.key.length ≤ _; unfold maxLen; omega))
      have hj0 : (0 : Int) ≤ (j : Int) := by omega
      have hj1 : (j : Int) < (n.list.length : Int) := by omega
      have hjw : IntKind.i64.wrap (j : Int) = (j : Int) := by rw [IntKind.wrap_i64]; omega
      have hk0 : (0 : Int) ≤ ((j + 1 : Nat) : Int) := by omega
      have hkl : ((j + 1 : Nat) : Int) < (n.list.length : Int) := by omega
      clear hx hy
      generalize ofL x.key = xk at *
      generalize ofL y.key = yk at *
      generalize Lib.compareBytes yk.data.toList xk.data.toList = cv at *
      by_cases hc : 0 ≤ cv
      · go_wp2_with fail
        go_quiet ((go_at_call 42; exact Calls.quiet_of (T.out _)))
        have X2 := Lib.hid (X.out.drewN nq)
        clear X c0 c1 c2 c3 c4 c5 c6 a0 d0
        generalize wr.drewN nq = w6 at *
        go_wp2_with fail
        go_returns
        exact ⟨rfl, X2.out.bel⟩
      · go_wp2_with fail
        go_quiet ((go_at_call 42; exact Calls.quiet_of (T.out _)))
        have X2 := Lib.hid (X.out.drewN nq)
        clear X c0 c1 c2 c3 c4 c5 c6 a0 d0
        generalize wr.drewN nq = w6 at *
        go_wp2_with fail
        go_roundw
        case rel => exact ⟨j + 1 + 1, by omega, by omega, by go_num, X2⟩
        case measure => simp [intOf]; omega
    · go_upto_region 12 with fail
      clear c0 c1 c2 c3 c4 c5 c6
      have E2 := Lib.hid (ET.out SN.out.hi (by have := HS4.out; omega))
      have hcn := HCN.out
      generalize Lib.compareBytes s.data.toList (ofL n.high).data.toList = cv at *
      have hcov : cov n l = (!n.has || decide (cv < 0)) := by rw [hcn]; rfl
      rw [hcov] at EC
      clear hcov hcn HCN
      have hFF : (F == F) = true := by simp
      cases hb : n.has with
      | false =>
        rw [hb] at X EC EF ER
        have F1 : Hid (∀ W, Hid (Own w No W (Asn.blk g2 64 #[.int .i64 m.tree, .int .i64 m.level, .int .i64 m.stamp, .bool m.has, .string (ofL m.high), .int .i64 m.right, .slice B1 m.list.length n1] * Asn.blk g1 64 #[.int .i64 n.tree, .int .i64 n.level, .int .i64 n.stamp, .bool false, .string (ofL n.high), .int .i64 n.right, .slice A1 n.list.length m1])) → (W.cell? ⟨g1, 0, none⟩ = some (.int .i64 n.tree) ∧ W.cell? ⟨g1, 1, none⟩ = some (.int .i64 n.level) ∧ W.cell? ⟨g1, 2, none⟩ = some (.int .i64 n.stamp) ∧ W.cell? ⟨g1, 3, none⟩ = some (.bool false) ∧ W.cell? ⟨g1, 4, none⟩ = some (.string (ofL n.high)) ∧ W.cell? ⟨g1, 5, none⟩ = some (.int .i64 n.right) ∧ W.cell? ⟨g1, 6, none⟩ = some (.slice A1 n.list.length m1))) := Lib.hid fun W h => (seven (h.out.has (Has.r (has_blk _ _ _)))).1
        have HO : Hid (∀ W W', Below W.heap.size W W' → Hid (Own w No W (Asn.blk g2 64 #[.int .i64 m.tree, .int .i64 m.level, .int .i64 m.stamp, .bool m.has, .string (ofL m.high), .int .i64 m.right, .slice B1 m.list.length n1] * Asn.blk g1 64 #[.int .i64 n.tree, .int .i64 n.level, .int .i64 n.stamp, .bool false, .string (ofL n.high), .int .i64 n.right, .slice A1 n.list.length m1])) → Hid (Own w No W' (Asn.blk g2 64 #[.int .i64 m.tree, .int .i64 m.level, .int .i64 m.stamp, .bool m.has, .string (ofL m.high), .int .i64 m.right, .slice B1 m.list.length n1] * Asn.blk g1 64 #[.int .i64 n.tree, .int .i64 n.level, .int .i64 n.stamp, .bool false, .string (ofL n.high), .int .i64 n.right, .slice A1 n.list.length m1]))) := Lib.hid fun W W' hb h => Lib.hid (h.out.below hb)
        have SD := Lib.hid X.out.drew
        have t0 := F1.out _ SD
        refine wp_region_held_drew (S := fun W => (W.cell? ⟨g1, 0, none⟩ = some (.int .i64 n.tree) ∧ W.cell? ⟨g1, 1, none⟩ = some (.int .i64 n.level) ∧ W.cell? ⟨g1, 2, none⟩ = some (.int .i64 n.stamp) ∧ W.cell? ⟨g1, 3, none⟩ = some (.bool false) ∧ W.cell? ⟨g1, 4, none⟩ = some (.string (ofL n.high)) ∧ W.cell? ⟨g1, 5, none⟩ = some (.int .i64 n.right) ∧ W.cell? ⟨g1, 6, none⟩ = some (.slice A1 n.list.length m1)) ∧ Hid (Own w No W (Asn.blk g2 64 #[.int .i64 m.tree, .int .i64 m.level, .int .i64 m.stamp, .bool m.has, .string (ofL m.high), .int .i64 m.right, .slice B1 m.list.length n1] * Asn.blk g1 64 #[.int .i64 n.tree, .int .i64 n.level, .int .i64 n.stamp, .bool false, .string (ofL n.high), .int .i64 n.right, .slice A1 n.list.length m1]))) (by kernel_rfl) ⟨t0, SD⟩ (fun hHeld => ?_)
        refine' wpAnyH_take (i := 0) (oi := ?o0) (v := ?v0) ?h0 ?s0 ?f0 ?z0 ?q0 ?y0 ?a0 ?r0
        case h0 => (simp only [List.getElem?_toArray, List.getElem?_cons_succ, List.getElem?_cons_zero]; rfl)
        case s0 => kernel_rfl
        case f0 => kernel_rfl
        case z0 => kernel_rfl
        case q0 => exact fun _ _ _ h => h
        case y0 => (refine Or.inl ⟨rfl, ?_⟩; intro w hSw; (try dsimp only at hSw); go_simp; try with_reducible rfl)
        case a0 => assumption
        case r0 =>
        simp only [Act.put, List.setIfInBounds_toArray, List.set_cons_zero, List.set_cons_succ]
        refine' wpAnyH_take (i := 1) (oi := ?o1) (v := ?v1) ?h1 ?s1 ?f1 ?z1 ?q1 ?y1 ?a1 ?r1
        case h1 => (simp only [List.getElem?_toArray, List.getElem?_cons_succ, List.getElem?_cons_zero]; rfl)
        case s1 => kernel_rfl
        case f1 => kernel_rfl
        case z1 => kernel_rfl
        case q1 => exact fun _ _ _ h => h
        case y1 => (refine Or.inl ⟨rfl, ?_⟩; intro w hSw; (try dsimp only at hSw); go_simp; try with_reducible rfl)
        case a1 => assumption
        case r1 =>
        simp only [Act.put, List.setIfInBounds_toArray, List.set_cons_zero, List.set_cons_succ]
        refine' wpAnyH_take (i := 3) (oi := ?o3) (v := ?v3) ?h3 ?s3 ?f3 ?z3 ?q3 ?y3 ?a3 ?r3
        case h3 => (simp only [List.getElem?_toArray, List.getElem?_cons_succ, List.getElem?_cons_zero]; rfl)
        case s3 => kernel_rfl
        case f3 => kernel_rfl
        case z3 => kernel_rfl
        case q3 => exact fun _ _ _ h => h
        case y3 => (refine Or.inl ⟨rfl, ?_⟩; intro w hSw; (try dsimp only at hSw); go_simp; try with_reducible rfl)
        case a3 => assumption
        case r3 =>
        simp only [Act.put, List.setIfInBounds_toArray, List.set_cons_zero, List.set_cons_succ]
        refine' wpAnyH_take (i := 4) (oi := ?o4) (v := ?v4) ?h4 ?s4 ?f4 ?z4 ?q4 ?y4 ?a4 ?r4
        case h4 => (simp only [List.getElem?_toArray, List.getElem?_cons_succ, List.getElem?_cons_zero]; rfl)
        case s4 => kernel_rfl
        case f4 => kernel_rfl
        case z4 => kernel_rfl
        case q4 => exact fun _ _ _ h => h
        case y4 => (refine Or.inl ⟨rfl, ?_⟩; intro w hSw; (try dsimp only at hSw); go_simp; try with_reducible rfl)
        case a4 => assumption
        case r4 =>
        simp only [Act.put, List.setIfInBounds_toArray, List.set_cons_zero, List.set_cons_succ]
        refine wpAnyH_ready (rs := [2]) (by kernel_rfl) (by simp) ?_
        refine' AllReadyH.cons (o := ?o2) ?h2 ?k2 AllReadyH.nil
        case h2 => (simp only [List.getElem?_toArray, List.getElem?_cons_succ, List.getElem?_cons_zero]; rfl)
        case k2 =>
        intro K hK
        go_simp
        have sx : Hid (Own w No _ (Asn.blk g2 64 #[.int .i64 m.tree, .int .i64 m.level, .int .i64 m.stamp, .bool m.has, .string (ofL m.high), .int .i64 m.right, .slice B1 m.list.length n1] * Asn.blk g1 64 #[.int .i64 n.tree, .int .i64 n.level, .int .i64 n.stamp, .bool false, .string (ofL n.high), .int .i64 n.right, .slice A1 n.list.length m1])) := hHeld.2
        go_at_call 43
        refine (EF.out _ sx.out.bel).mono ?_
        rintro e w20 ⟨rfl, hb20⟩
        have s20 := HO.out _ _ hb20 sx
        have t20 := F1.out _ s20
        refine hK.out _ _ ?_ (fun hHeld => ?_)
        · exact ⟨t20, s20⟩
        clear hK K
        (try simp only [Act.put, List.setIfInBounds_toArray, List.set_cons_zero, List.set_cons_succ])
        refine wpAnyH_ready (rs := [5]) (by kernel_rfl) (by simp) ?_
        refine' AllReadyH.cons (o := ?o5) ?h5 ?k5 AllReadyH.nil
        case h5 => (simp only [List.getElem?_toArray, List.getElem?_cons_succ, List.getElem?_cons_zero]; rfl)
        case k5 =>
        intro K hK
        go_simp
        go_at_call 44
        refine (ER.out _ s20.out.bel SN.out (by have := HS4.out; omega)).mono ?_
        rintro e w21 ⟨rfl, hb21⟩
        have s21 := HO.out _ _ hb21 s20
        have t21 := F1.out _ s21
        refine hK.out _ _ ?_ (fun hHeld => ?_)
        · exact ⟨t21, s21⟩
        clear hK K
        (try simp only [Act.put, List.setIfInBounds_toArray, List.set_cons_zero, List.set_cons_succ])
        refine' wpAnyH_take (i := 6) (oi := ?o6) (v := ?v6) ?h6 ?s6 ?f6 ?z6 ?q6 ?y6 ?a6 ?r6
        case h6 => (simp only [List.getElem?_toArray, List.getElem?_cons_succ, List.getElem?_cons_zero]; rfl)
        case s6 => kernel_rfl
        case f6 => kernel_rfl
        case z6 => kernel_rfl
        case q6 => exact fun _ _ _ h => h
        case y6 => (refine Or.inl ⟨rfl, ?_⟩; intro w hSw; (try dsimp only at hSw); go_simp; try with_reducible rfl)
        case a6 => assumption
        case r6 =>
        simp only [Act.put, List.setIfInBounds_toArray, List.set_cons_zero, List.set_cons_succ]
        refine' wpAnyH_take (i := 7) (oi := ?o7) (v := ?v7) ?h7 ?s7 ?f7 ?z7 ?q7 ?y7 ?a7 ?r7
        case h7 => (simp only [List.getElem?_toArray, List.getElem?_cons_succ, List.getElem?_cons_zero]; rfl)
        case s7 => kernel_rfl
        case f7 => kernel_rfl
        case z7 => kernel_rfl
        case q7 => exact fun _ _ _ h => h
        case y7 => (refine Or.inl ⟨rfl, ?_⟩; intro w hSw; (try dsimp only at hSw); go_simp; try with_reducible rfl)
        case a7 => assumption
        case r7 =>
        simp only [Act.put, List.setIfInBounds_toArray, List.set_cons_zero, List.set_cons_succ]
        refine' wpAnyH_take (i := 8) (oi := ?o8) (v := ?v8) ?h8 ?s8 ?f8 ?z8 ?q8 ?y8 ?a8 ?r8
        case h8 => (simp only [List.getElem?_toArray, List.getElem?_cons_succ, List.getElem?_cons_zero]; rfl)
        case s8 => kernel_rfl
        case f8 => kernel_rfl
        case z8 => kernel_rfl
        case q8 => exact fun _ _ _ h => h
        case y8 => (refine Or.inl ⟨rfl, ?_⟩; intro w hSw; (try dsimp only at hSw); go_simp; try with_reducible rfl)
        case a8 => assumption
        case r8 =>
        simp only [Act.put, List.setIfInBounds_toArray, List.set_cons_zero, List.set_cons_succ]
        refine' wpAnyH_take (i := 9) (oi := ?o9) (v := ?v9) ?h9 ?s9 ?f9 ?z9 ?q9 ?y9 ?a9 ?r9
        case h9 => (simp only [List.getElem?_toArray, List.getElem?_cons_succ, List.getElem?_cons_zero]; rfl)
        case s9 => kernel_rfl
        case f9 => kernel_rfl
        case z9 => kernel_rfl
        case q9 => exact fun _ _ _ h => h
        case y9 => (refine Or.inl ⟨rfl, ?_⟩; intro w hSw; (try dsimp only at hSw); go_simp; try with_reducible rfl)
        case a9 => assumption
        case r9 =>
        simp only [Act.put, List.setIfInBounds_toArray, List.set_cons_zero, List.set_cons_succ]
        refine' wpAnyH_take (i := 11) (oi := ?o11) (v := ?v11) ?h11 ?s11 ?f11 ?z11 ?q11 ?y11 ?a11 ?r11
        case h11 => (simp only [List.getElem?_toArray, List.getElem?_cons_succ, List.getElem?_cons_zero]; rfl)
        case s11 => kernel_rfl
        case f11 => kernel_rfl
        case z11 => kernel_rfl
        case q11 => exact fun _ _ _ h => h
        case y11 => (refine Or.inl ⟨rfl, ?_⟩; intro w hSw; (try dsimp only at hSw); go_simp; try with_reducible rfl)
        case a11 => assumption
        case r11 =>
        simp only [Act.put, List.setIfInBounds_toArray, List.set_cons_zero, List.set_cons_succ]
        refine' wpAnyH_take (i := 12) (oi := ?o12) (v := ?v12) ?h12 ?s12 ?f12 ?z12 ?q12 ?y12 ?a12 ?r12
        case h12 => (simp only [List.getElem?_toArray, List.getElem?_cons_succ, List.getElem?_cons_zero]; rfl)
        case s12 => kernel_rfl
        case f12 => kernel_rfl
        case z12 => kernel_rfl
        case q12 => exact fun _ _ _ h => h
        case y12 => (refine Or.inl ⟨rfl, ?_⟩; intro w hSw; (try dsimp only at hSw); go_simp; try with_reducible rfl)
        case a12 => assumption
        case r12 =>
        simp only [Act.put, List.setIfInBounds_toArray, List.set_cons_zero, List.set_cons_succ]
        refine' wpAnyH_take (i := 13) (oi := ?o13) (v := ?v13) ?h13 ?s13 ?f13 ?z13 ?q13 ?y13 ?a13 ?r13
        case h13 => (simp only [List.getElem?_toArray, List.getElem?_cons_succ, List.getElem?_cons_zero]; rfl)
        case s13 => kernel_rfl
        case f13 => kernel_rfl
        case z13 => kernel_rfl
        case q13 => exact fun _ _ _ h => h
        case y13 => (refine Or.inl ⟨rfl, ?_⟩; intro w hSw; (try dsimp only at hSw); go_simp; try with_reducible rfl)
        case a13 => assumption
        case r13 =>
        simp only [Act.put, List.setIfInBounds_toArray, List.set_cons_zero, List.set_cons_succ]
        refine wpAnyH_ready (rs := [10]) (by kernel_rfl) (by simp) ?_
        refine' AllReadyH.cons (o := ?o10) ?h10 ?k10 AllReadyH.nil
        case h10 => (simp only [List.getElem?_toArray, List.getElem?_cons_succ, List.getElem?_cons_zero]; rfl)
        case k10 =>
        intro K hK
        go_simp
        go_at_call 45
        refine (EC.out _).mono ?_
        rintro e w22 ⟨rfl, hb22⟩
        have s22 := HO.out _ _ hb22 s21
        have t22 := F1.out _ s22
        refine hK.out _ _ ?_ (fun hHeld => ?_)
        · exact ⟨t22, s22⟩
        clear hK K
        (try simp only [Act.put, List.setIfInBounds_toArray, List.set_cons_zero, List.set_cons_succ])
        refine' wpAnyH_take (i := 14) (oi := ?o14) (v := ?v14) ?h14 ?s14 ?f14 ?z14 ?q14 ?y14 ?a14 ?r14
        case h14 => (simp only [List.getElem?_toArray, List.getElem?_cons_succ, List.getElem?_cons_zero]; rfl)
        case s14 => kernel_rfl
        case f14 => kernel_rfl
        case z14 => kernel_rfl
        case q14 => exact fun _ _ _ h => h
        case y14 => (refine Or.inl ⟨rfl, ?_⟩; intro w hSw; (try dsimp only at hSw); go_simp; try with_reducible rfl)
        case a14 => assumption
        case r14 =>
        simp only [Act.put, List.setIfInBounds_toArray, List.set_cons_zero, List.set_cons_succ]
        refine' wpAnyH_take (i := 15) (oi := ?o15) (v := undef) ?h15 ?s15 ?f15 ?z15 ?q15 ?y15 ?a15 ?r15
        case h15 => (simp only [List.getElem?_toArray, List.getElem?_cons_succ, List.getElem?_cons_zero]; rfl)
        case s15 => kernel_rfl
        case f15 => kernel_rfl
        case z15 => kernel_rfl
        case q15 => exact fun _ _ _ h => h
        case y15 => exact Or.inr ⟨rfl, rfl⟩
        case a15 => assumption
        case r15 =>
        simp only [Act.put, List.setIfInBounds_toArray, List.set_cons_zero, List.set_cons_succ]
        refine' wpAnyH_take (i := 16) (oi := ?o16) (v := undef) ?h16 ?s16 ?f16 ?z16 ?q16 ?y16 ?a16 ?r16
        case h16 => (simp only [List.getElem?_toArray, List.getElem?_cons_succ, List.getElem?_cons_zero]; rfl)
        case s16 => kernel_rfl
        case f16 => kernel_rfl
        case z16 => kernel_rfl
        case q16 => exact fun _ _ _ h => h
        case y16 => exact Or.inr ⟨rfl, rfl⟩
        case a16 => assumption
        case r16 =>
        simp only [Act.put, List.setIfInBounds_toArray, List.set_cons_zero, List.set_cons_succ]
        refine' wpAnyH_take (i := 17) (oi := ?o17) (v := undef) ?h17 ?s17 ?f17 ?z17 ?q17 ?y17 ?a17 ?r17
        case h17 => (simp only [List.getElem?_toArray, List.getElem?_cons_succ, List.getElem?_cons_zero]; rfl)
        case s17 => kernel_rfl
        case f17 => kernel_rfl
        case z17 => kernel_rfl
        case q17 => exact fun _ _ _ h => h
        case y17 => exact Or.inr ⟨rfl, rfl⟩
        case a17 => assumption
        case r17 =>
        simp only [Act.put, List.setIfInBounds_toArray, List.set_cons_zero, List.set_cons_succ]
        refine' wpAnyH_take (i := 18) (oi := ?o18) (v := undef) ?h18 ?s18 ?f18 ?z18 ?q18 ?y18 ?a18 ?r18
        case h18 => (simp only [List.getElem?_toArray, List.getElem?_cons_succ, List.getElem?_cons_zero]; rfl)
        case s18 => kernel_rfl
        case f18 => kernel_rfl
        case z18 => kernel_rfl
        case q18 => exact fun _ _ _ h => h
        case y18 => exact Or.inr ⟨rfl, rfl⟩
        case a18 => assumption
        case r18 =>
        simp only [Act.put, List.setIfInBounds_toArray, List.set_cons_zero, List.set_cons_succ]
        refine' wpAnyH_take (i := 19) (oi := ?o19) (v := undef) ?h19 ?s19 ?f19 ?z19 ?q19 ?y19 ?a19 ?r19
        case h19 => (simp only [List.getElem?_toArray, List.getElem?_cons_succ, List.getElem?_cons_zero]; rfl)
        case s19 => kernel_rfl
        case f19 => kernel_rfl
        case z19 => kernel_rfl
        case q19 => exact fun _ _ _ h => h
        case y19 => exact Or.inr ⟨rfl, rfl⟩
        case a19 => assumption
        case r19 =>
        simp only [Act.put, List.setIfInBounds_toArray, List.set_cons_zero, List.set_cons_succ]
        refine' wpAnyH_take (i := 20) (oi := ?o20) (v := ?v20) ?h20 ?s20 ?f20 ?z20 ?q20 ?y20 ?a20 ?r20
        case h20 => (simp only [List.getElem?_toArray, List.getElem?_cons_succ, List.getElem?_cons_zero]; rfl)
        case s20 => kernel_rfl
        case f20 => kernel_rfl
        case z20 => kernel_rfl
        case q20 => exact fun _ _ _ h => h
        case y20 => (refine Or.inl ⟨rfl, ?_⟩; intro w hSw; (try dsimp only at hSw); go_simp; try with_reducible rfl)
        case a20 => assumption
        case r20 =>
        simp only [Act.put, List.setIfInBounds_toArray, List.set_cons_zero, List.set_cons_succ]
        refine' wpAnyH_take (i := 21) (oi := ?o21) (v := ?v21) ?h21 ?s21 ?f21 ?z21 ?q21 ?y21 ?a21 ?r21
        case h21 => (simp only [List.getElem?_toArray, List.getElem?_cons_succ, List.getElem?_cons_zero]; rfl)
        case s21 => kernel_rfl
        case f21 => kernel_rfl
        case z21 => kernel_rfl
        case q21 => exact fun _ _ _ h => h
        case y21 => (refine Or.inl ⟨rfl, ?_⟩; intro w hSw; (try dsimp only at hSw); go_simp; try with_reducible rfl)
        case a21 => assumption
        case r21 =>
        simp only [Act.put, List.setIfInBounds_toArray, List.set_cons_zero, List.set_cons_succ]
        refine' wpAnyH_take (i := 22) (oi := ?o22) (v := ?v22) ?h22 ?s22 ?f22 ?z22 ?q22 ?y22 ?a22 ?r22
        case h22 => (simp only [List.getElem?_toArray, List.getElem?_cons_succ, List.getElem?_cons_zero]; rfl)
        case s22 => kernel_rfl
        case f22 => kernel_rfl
        case z22 => kernel_rfl
        case q22 => exact fun _ _ _ h => h
        case y22 => (refine Or.inl ⟨rfl, ?_⟩; intro w hSw; (try dsimp only at hSw); go_simp; try with_reducible rfl)
        case a22 => assumption
        case r22 =>
        simp only [Act.put, List.setIfInBounds_toArray, List.set_cons_zero, List.set_cons_succ]
        refine' wpAnyH_take (i := 23) (oi := ?o23) (v := ?v23) ?h23 ?s23 ?f23 ?z23 ?q23 ?y23 ?a23 ?r23
        case h23 => (simp only [List.getElem?_toArray, List.getElem?_cons_succ, List.getElem?_cons_zero]; rfl)
        case s23 => kernel_rfl
        case f23 => kernel_rfl
        case z23 => kernel_rfl
        case q23 => exact fun _ _ _ h => h
        case y23 => (refine Or.inl ⟨rfl, ?_⟩; intro w hSw; (try dsimp only at hSw); go_simp; try with_reducible rfl)
        case a23 => assumption
        case r23 =>
        simp only [Act.put, List.setIfInBounds_toArray, List.set_cons_zero, List.set_cons_succ]
        refine wpAnyH_done (by kernel_rfl) ?_ _
        have SZ := Lib.hid s22.out.bel
        go_wp2_with fail
        go_returns
        exact ⟨ret_bool (by first | rfl | simp), SZ.out⟩
      | true =>
        rw [hb] at X EC EF ER
        have F1 : Hid (∀ W, Hid (Own w No W (Asn.blk g2 64 #[.int .i64 m.tree, .int .i64 m.level, .int .i64 m.stamp, .bool m.has, .string (ofL m.high), .int .i64 m.right, .slice B1 m.list.length n1] * Asn.blk g1 64 #[.int .i64 n.tree, .int .i64 n.level, .int .i64 n.stamp, .bool true, .string (ofL n.high), .int .i64 n.right, .slice A1 n.list.length m1])) → (W.cell? ⟨g1, 0, none⟩ = some (.int .i64 n.tree) ∧ W.cell? ⟨g1, 1, none⟩ = some (.int .i64 n.level) ∧ W.cell? ⟨g1, 2, none⟩ = some (.int .i64 n.stamp) ∧ W.cell? ⟨g1, 3, none⟩ = some (.bool true) ∧ W.cell? ⟨g1, 4, none⟩ = some (.string (ofL n.high)) ∧ W.cell? ⟨g1, 5, none⟩ = some (.int .i64 n.right) ∧ W.cell? ⟨g1, 6, none⟩ = some (.slice A1 n.list.length m1))) := Lib.hid fun W h => (seven (h.out.has (Has.r (has_blk _ _ _)))).1
        have HO : Hid (∀ W W', Below W.heap.size W W' → Hid (Own w No W (Asn.blk g2 64 #[.int .i64 m.tree, .int .i64 m.level, .int .i64 m.stamp, .bool m.has, .string (ofL m.high), .int .i64 m.right, .slice B1 m.list.length n1] * Asn.blk g1 64 #[.int .i64 n.tree, .int .i64 n.level, .int .i64 n.stamp, .bool true, .string (ofL n.high), .int .i64 n.right, .slice A1 n.list.length m1])) → Hid (Own w No W' (Asn.blk g2 64 #[.int .i64 m.tree, .int .i64 m.level, .int .i64 m.stamp, .bool m.has, .string (ofL m.high), .int .i64 m.right, .slice B1 m.list.length n1] * Asn.blk g1 64 #[.int .i64 n.tree, .int .i64 n.level, .int .i64 n.stamp, .bool true, .string (ofL n.high), .int .i64 n.right, .slice A1 n.list.length m1]))) := Lib.hid fun W W' hb h => Lib.hid (h.out.below hb)
        have SD := Lib.hid X.out.drew
        have t0 := F1.out _ SD
        first | (go_region_held3 (fun W => (W.cell? ⟨g1, 0, none⟩ = some (.int .i64 n.tree) ∧ W.cell? ⟨g1, 1, none⟩ = some (.int .i64 n.level) ∧ W.cell? ⟨g1, 2, none⟩ = some (.int .i64 n.stamp) ∧ W.cell? ⟨g1, 3, none⟩ = some (.bool true) ∧ W.cell? ⟨g1, 4, none⟩ = some (.string (ofL n.high)) ∧ W.cell? ⟨g1, 5, none⟩ = some (.int .i64 n.right) ∧ W.cell? ⟨g1, 6, none⟩ = some (.slice A1 n.list.length m1)) ∧ Hid (Own w No W (Asn.blk g2 64 #[.int .i64 m.tree, .int .i64 m.level, .int .i64 m.stamp, .bool m.has, .string (ofL m.high), .int .i64 m.right, .slice B1 m.list.length n1] * Asn.blk g1 64 #[.int .i64 n.tree, .int .i64 n.level, .int .i64 n.stamp, .bool true, .string (ofL n.high), .int .i64 n.right, .slice A1 n.list.length m1]))) (first | exact ⟨t0, SD⟩ | exact ⟨t20, s20⟩ | exact ⟨t21, s21⟩ | exact ⟨t22, s22⟩ | exact ⟨t23, s23⟩ | exact ⟨F1.out _ (by assumption), by assumption⟩) (first | (go_at_call 43; have sx : Hid (Own w No _ (Asn.blk g2 64 #[.int .i64 m.tree, .int .i64 m.level, .int .i64 m.stamp, .bool m.has, .string (ofL m.high), .int .i64 m.right, .slice B1 m.list.length n1] * Asn.blk g1 64 #[.int .i64 n.tree, .int .i64 n.level, .int .i64 n.stamp, .bool true, .string (ofL n.high), .int .i64 n.right, .slice A1 n.list.length m1])) := (by assumption); refine (EF.out _ sx.out.bel).mono ?_; rintro e w20 ⟨rfl, hb20⟩; have s20 := HO.out _ _ hb20 (by assumption); have t20 := F1.out _ s20) | (go_at_call 44; refine (ER.out _ s20.out.bel SN.out (by have := HS4.out; omega)).mono ?_; rintro e w21 ⟨rfl, hb21⟩; have s21 := HO.out _ _ hb21 (by assumption); have t21 := F1.out _ s21) | (go_at_call 45; refine (EC.out _).mono ?_; rintro e w22 ⟨rfl, hb22⟩; have s22 := HO.out _ _ hb22 (by assumption); have t22 := F1.out _ s22) | (go_at_call 42; refine (E2.out _).mono ?_; rintro e w23 ⟨rfl, k23, rfl⟩; have s23 : Hid (Own w No _ (Asn.blk g2 64 #[.int .i64 m.tree, .int .i64 m.level, .int .i64 m.stamp, .bool m.has, .string (ofL m.high), .int .i64 m.right, .slice B1 m.list.length n1] * Asn.blk g1 64 #[.int .i64 n.tree, .int .i64 n.level, .int .i64 n.stamp, .bool true, .string (ofL n.high), .int .i64 n.right, .slice A1 n.list.length m1])) := Lib.hid (s22.out.drewN k23); have t23 := F1.out _ s23))) | (fail)
        have SZ := Lib.hid s23.out.bel
        go_wp2_with fail
        go_returns
        exact ⟨ret_bool (by first | rfl | simp), SZ.out⟩
end Go.Proofs.YtmibcodobicmnaaDoor.Nd
