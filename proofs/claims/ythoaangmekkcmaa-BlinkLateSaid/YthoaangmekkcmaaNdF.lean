/- The document's nodes: which can be, how many bytes. -/
import Derived.Test.YthoaangmekkcmaaDyB
import Derived.Deep.CutBlock
namespace Go.Proofs.Ythoaangmekkcmaa.Nd
open Go.ChangeShapes Go.WideShapes Go.ChangeAt Go.RowKit Go.PlainAid Aid Cr Nt
set_option linter.unusedVariables false
set_option linter.unusedSimpArgs false
theorem gTo_key (n : Nod) (k : Nat) (h : gTo n (k + 1) = true) (e : Ent) (he : n.list[k]? = some e) : e.key.length = 9 := by
  have := gTo_at n (k + 1) k h (by omega) e he
  simp only [gAt, gEnt, Bool.and_eq_true, decide_eq_true_eq] at this
  exact this.2.2.1
set_option maxRecDepth 100000 in
set_option maxHeartbeats 16000000 in
theorem refGood_any (n : Nod) (v : Value) (w : World) (hv : NodAt w v n) :
    Calls Try.prog 36 #[v] w fun e w' => e = .returned (.bool (goodB n)) ∧ Below w.heap.size w w' := by
  obtain ⟨p, rfl, hp⟩ := hv
  obtain ⟨A1, m1, rfl⟩ := hp.slice
  have hm1 := hp.len.2
  unfold maxLen at hm1
  have HP := Lib.hid hp
  obtain ⟨R, hR⟩ : ∃ R, R = goodB n := ⟨_, rfl⟩
  rw [← hR]
  have hR2 : R = (inN n.tree 255 && inN n.level 12 && inN n.stamp 2147483647 && inN n.right 255 && gHigh n && gList n) := hR
  have HR := Lib.hid hR2
  have S := Lib.hid ((Own.none w).alloc (nodCells n (.slice A1 n.list.length m1)) 52).left
  have hhz : (ofL n.high).size = n.high.length := rfl
  have HHZ := Lib.hid hhz
  have hhn := nil_str n.high
  have HHN := Lib.hid hhn
  have HTX := Lib.hid (fun (a b : By) (ha : a.length = 9) (hb : b.length = 9) w => Texts_q (ofL a) (ofL b) w (by show a.length ≤ _; rw [ha]; decide) (by show b.length ≤ _; rw [hb]; decide))
  clear hR hR2 hp hhz hhn
  unfold nodCells at *
  go_enter Try.func36, Try.ntmps36
  go_upto_region 1 with fail
  obtain ⟨g, hgz⟩ : ∃ g, g = w.heap.size := ⟨_, rfl⟩
  rw [← hgz] at S ⊢
  clear hgz
  generalize w.alloc _ = w1 at *
  obtain ⟨c0, c1, c2, c3, c4, c5, c6⟩ := nod_cells (S.out.has (has_blk _ _ _))
  by_cases k0 : n.tree < 0
  case pos =>
    go_wp2_with fail
    go_returns
    exact ⟨ret_bool (by rw [HR.out]; simp [inN, show ¬ 0 ≤ n.tree by omega]), S.out.bel⟩
  by_cases k1 : 255 < n.tree
  case pos =>
    go_wp2_with fail
    go_returns
    exact ⟨ret_bool (by rw [HR.out]; simp [inN, show ¬ n.tree ≤ 255 by omega]), S.out.bel⟩
  by_cases k2 : n.level < 0
  case pos =>
    go_wp2_with fail
    go_returns
    exact ⟨ret_bool (by rw [HR.out]; simp [inN, show ¬ 0 ≤ n.level by omega]), S.out.bel⟩
  by_cases k3 : 12 < n.level
  case pos =>
    go_wp2_with fail
    go_returns
    exact ⟨ret_bool (by rw [HR.out]; simp [inN, show ¬ n.level ≤ 12 by omega]), S.out.bel⟩
  by_cases k4 : n.stamp < 0
  case pos =>
    go_wp2_with fail
    go_returns
    exact ⟨ret_bool (by rw [HR.out]; simp [inN, show ¬ 0 ≤ n.stamp by omega]), S.out.bel⟩
  by_cases k5 : 2147483647 < n.stamp
  case pos =>
    go_wp2_with fail
    go_returns
    exact ⟨ret_bool (by rw [HR.out]; simp [inN, show ¬ n.stamp ≤ 2147483647 by omega]), S.out.bel⟩
  by_cases k6 : n.right < 0
  case pos =>
    go_wp2_with fail
    go_returns
    exact ⟨ret_bool (by rw [HR.out]; simp [inN, show ¬ 0 ≤ n.right by omega]), S.out.bel⟩
  by_cases k7 : 255 < n.right
  case pos =>
    go_wp2_with fail
    go_returns
    exact ⟨ret_bool (by rw [HR.out]; simp [inN, show ¬ n.right ≤ 255 by omega]), S.out.bel⟩
  by_cases k8 : 100 < n.list.length
  case pos =>
    go_wp2_with fail
    go_returns
    exact ⟨ret_bool (by rw [HR.out]; simp [gList, show ¬ n.list.length ≤ 100 by omega]), S.out.bel⟩
  have hR3 : R = (gHigh n && gTo n n.list.length) := by
    rw [HR.out]; simp [inN, gList, show 0 ≤ n.tree by omega, show n.tree ≤ 255 by omega, show 0 ≤ n.level by omega, show n.level ≤ 12 by omega, show 0 ≤ n.stamp by omega, show n.stamp ≤ 2147483647 by omega, show 0 ≤ n.right by omega, show n.right ≤ 255 by omega, show n.list.length ≤ 100 by omega]
  have HR3 := Lib.hid hR3
  clear hR3
  obtain ⟨hi, hhi⟩ : ∃ x, x = ofL n.high := ⟨_, rfl⟩
  rw [← hhi] at c4
  have hz1 := HHZ.out
  have hn1 := HHN.out
  rw [← hhi] at hz1 hn1
  have HHI := Lib.hid hhi
  clear hhi
  have S2 := Lib.hid S.out
  rw [← HHI.out] at S2
  clear S
  cases hb : n.has with
  | false =>
    rw [hb] at c3 S2
    by_cases hn : n.high = []
    case neg =>
      have hn2 : hi.toList.isEmpty = false := by rw [toList_isEmpty, decide_eq_false]; intro h0; exact hn (List.eq_nil_of_length_eq_zero (by omega))
      clear hn1
      have hq : Hid (R = false) := Lib.hid (by rw [HR3.out]; simp [gHigh, hb, hn])
      go_wp2_with fail
      go_returns
      exact ⟨ret_bool hq.out.symm, S2.out.bel⟩
    have hn2 : hi.toList.isEmpty = true := by rw [toList_isEmpty, decide_eq_true]; rw [hn] at hz1; exact hz1
    clear hn1
    have hgh : Hid (gHigh n = true) := Lib.hid (by simp [gHigh, hb, hn])
    clear hn
    have HRL : Hid (R = gTo n n.list.length) := Lib.hid (by rw [HR3.out, hgh.out, Bool.true_and])
    go_wp2_with fail
    go_loopw [3] (fun i wr => ∃ k : Nat, k ≤ n.list.length ∧ i = .int .i64 k ∧ Hid (gTo n k = true) ∧ Hid (Own w No wr (Asn.blk g 52 #[.int .i64 n.tree, .int .i64 n.level, .int .i64 n.stamp, .bool false, .string hi, .int .i64 n.right, .slice A1 n.list.length m1]))) (fun i _ => n.list.length - (intOf i).toNat)
    case atStart => exact ⟨0, Nat.zero_le _, rfl, Lib.hid rfl, S2⟩
    case round =>
      clear S2 c0 c1 c2 c3 c4 c5 c6
      obtain ⟨k, hk, rfl, hG, X⟩ := hrel
      obtain ⟨c0, c1, c2, c3, c4, c5, c6⟩ := nod_cells (X.out.has (has_blk _ _ _))
      by_cases hlt : k < n.list.length
      · obtain ⟨x, hx⟩ : ∃ x, n.list[k]? = some x := ⟨n.list[k]'(by omega), List.getElem?_eq_getElem _⟩
        obtain ⟨b, o, rfl, hbl, a0, a1, a2⟩ := (HP.out.keep X.out.bel).at hx
        have X1 := Lib.hid (X.out.alloc #[.string (ofL x.key), .string (ofL x.val), .bool x.ghost] 44)
        have hst := gTo_step n k x hx
        rw [hG.out, Bool.true_and] at hst
        have HF : Hid (gAt n k x = false → R = false) := Lib.hid fun h => by
          rw [HRL.out]; exact gTo_false n (k + 1) _ (by rw [hst, h]) (by omega)
        have HST := Lib.hid hst
        have HX := Lib.hid hx
        have hxk : (ofL x.key).size = x.key.length := rfl
        have hxv : (ofL x.val).size = x.val.length := rfl
        have HXK := Lib.hid hxk
        have HXV := Lib.hid hxv
        clear hst hx X
        go_upto_region 9 with fail
        obtain ⟨ge, hgz⟩ : ∃ g, g = wr.heap.size := ⟨_, rfl⟩
        rw [← hgz] at X1 ⊢
        clear hgz
        generalize wr.alloc _ = w2 at *
        clear c0 c1 c2 c3 c4 c5 c6 a0 a1 a2
        obtain ⟨c0, c1, c2, c3, c4, c5, c6⟩ := nod_cells (X1.out.has (Has.r (has_blk _ _ _)))
        obtain ⟨a0, a1, a2⟩ := ent_cells (X1.out.has (Has.l (has_blk _ _ _)))
        obtain ⟨xk, hxkk⟩ : ∃ y, y = ofL x.key := ⟨_, rfl⟩
        obtain ⟨xv, hxvv⟩ : ∃ y, y = ofL x.val := ⟨_, rfl⟩
        rw [← hxkk] at a0 hxk X1
        rw [← hxvv] at a1 hxv X1
        have HKK := Lib.hid hxkk
        clear hxkk hxvv
        by_cases m1' : xk.size = 9
        case neg =>
          have hq : Hid (R = false) := Lib.hid (HF.out (by unfold gAt gEnt; rw [decide_eq_false (by omega)]; simp))
          go_wp2_with fail
          go_returns
          exact ⟨ret_bool hq.out.symm, X1.out.bel⟩
        by_cases m2 : 100 < xv.size
        case pos =>
          have hq : Hid (R = false) := Lib.hid (HF.out (by unfold gAt gEnt; rw [decide_eq_false (show ¬ x.val.length = 2 by omega), decide_eq_false (show ¬ x.val.length ≤ 100 by omega)]; simp))
          go_wp2_with fail
          go_returns
          exact ⟨ret_bool hq.out.symm, X1.out.bel⟩
        have hcase : (0 < n.level ∧ ¬ xv.size = 2) ∨ (0 < n.level ∧ xv.size = 2 ∧ x.ghost = true) ∨ gEnt n.level x = true := by
          by_cases hl : 0 < n.level
          · by_cases h2 : xv.size = 2
            · cases hgx : x.ghost
              · right; right; unfold gEnt; rw [if_pos hl, decide_eq_true (by omega), decide_eq_true (by omega), hgx]; rfl
              · exact Or.inr (Or.inl ⟨hl, h2, rfl⟩)
            · exact Or.inl ⟨hl, h2⟩
          · right; right; unfold gEnt; rw [if_neg hl, decide_eq_true (by omega), decide_eq_true (by omega)]; rfl
        rcases hcase with ⟨hl, h2⟩ | ⟨hl, h2, hgx⟩ | hge
        · have hq : Hid (R = false) := Lib.hid (HF.out (by unfold gAt gEnt; rw [if_pos hl, decide_eq_false (show ¬ x.val.length = 2 by omega)]; simp))
          go_wp2_with fail
          go_returns
          exact ⟨ret_bool hq.out.symm, X1.out.bel⟩
        · have hq : Hid (R = false) := Lib.hid (HF.out (by unfold gAt gEnt; rw [if_pos hl, hgx]; simp))
          rw [hgx] at a2
          go_wp2_with fail
          go_returns
          exact ⟨ret_bool hq.out.symm, X1.out.bel⟩
        have hpass : 0 < n.level → xv.size = 2 ∧ x.ghost = false := fun hl => by
          unfold gEnt at hge; rw [if_pos hl] at hge
          simp only [Bool.and_eq_true, decide_eq_true_eq, Bool.not_eq_true'] at hge
          exact ⟨by omega, hge.2.2⟩
        have hga : gAt n k x = (rise n.list k x && cov n x.key) := by unfold gAt; rw [hge, Bool.and_true]
        rw [hga] at HST HF
        have HK9 : Hid (x.key.length = 9) := Lib.hid (by omega)
        clear hge hga
        have stop11 : True := trivial
        by_cases hl : 0 < n.level
        · obtain ⟨h2, hgx⟩ := hpass hl
          rw [hgx] at a2 X1
          clear hpass
          go_upto_region 11 with fail
          cases k with
          | zero =>
            have hq : Hid (gTo n (0 + 1) = true) := Lib.hid (by rw [HST.out]; simp [rise, cov, hb])
            go_wp2_with fail
            go_quiet (fail)
            have X2 := Lib.hid (X1.out.drewN nq).right
            clear X1 c0 c1 c2 c3 c4 c5 c6 a0 a1 a2
            generalize w2.drewN nq = w3 at *
            go_wp2_with fail
            go_roundw
            case rel => exact ⟨0 + 1, by omega, by go_num, hq, X2⟩
            case measure => simp [intOf]; omega
          | succ j =>
            obtain ⟨y, hy⟩ : ∃ y, n.list[j]? = some y := ⟨n.list[j]'(by omega), List.getElem?_eq_getElem _⟩
            obtain ⟨d0, -, -⟩ := (HP.out.keep X1.out.bel).at' hy
            have hrs : rise n.list (j + 1) x = lt y.key x.key := by rw [rise, hy]
            have T1 := Lib.hid (HTX.out y.key x.key (gTo_key n j hG.out y hy) HK9.out)
            rw [← HKK.out, show Lib.compareBytes (ofL y.key).data.toList xk.data.toList = Lib.compareBytes y.key x.key by rw [HKK.out]; rfl] at T1
            have hcg := cmp_ge y.key x.key
            rw [hrs] at HST HF
            generalize Lib.compareBytes y.key x.key = cv at *
            generalize lt y.key x.key = q at *
            have hj0 : (0 : Int) ≤ (j : Int) := by omega
            have hj1 : (j : Int) < (n.list.length : Int) := by omega
            have hjw : IntKind.i64.wrap (j : Int) = (j : Int) := by rw [IntKind.wrap_i64]; omega
            clear hrs hy
            generalize ofL y.key = yk at *
            cases q with
            | true =>
              have hcc : ¬ 0 ≤ cv := of_decide_eq_false hcg
              have hq : Hid (gTo n (j + 1 + 1) = true) := Lib.hid (by rw [HST.out]; simp [cov, hb])
              go_wp2_with fail
              go_quiet ((go_at_call 18; exact Calls.quiet_of (T1.out _)))
              have X2 := Lib.hid (X1.out.drewN nq).right
              clear X1 c0 c1 c2 c3 c4 c5 c6 a0 a1 a2 d0
              generalize w2.drewN nq = w3 at *
              go_wp2_with fail
              go_roundw
              case rel => exact ⟨j + 1 + 1, by omega, by go_num, hq, X2⟩
              case measure => simp [intOf]; omega
            | false =>
              have hcc : 0 ≤ cv := of_decide_eq_true hcg
              have hq : Hid (R = false) := Lib.hid (HF.out (by simp))
              go_wp2_with fail
              go_quiet ((go_at_call 18; exact Calls.quiet_of (T1.out _)))
              have X2 := Lib.hid (X1.out.drewN nq).right
              clear X1 c0 c1 c2 c3 c4 c5 c6 a0 a1 a2 d0
              generalize w2.drewN nq = w3 at *
              go_wp2_with fail
              go_returns
              exact ⟨ret_bool hq.out.symm, X2.out.bel⟩
        · clear hpass
          go_upto_region 11 with fail
          cases k with
          | zero =>
            have hq : Hid (gTo n (0 + 1) = true) := Lib.hid (by rw [HST.out]; simp [rise, cov, hb])
            go_wp2_with fail
            go_quiet (fail)
            have X2 := Lib.hid (X1.out.drewN nq).right
            clear X1 c0 c1 c2 c3 c4 c5 c6 a0 a1 a2
            generalize w2.drewN nq = w3 at *
            go_wp2_with fail
            go_roundw
            case rel => exact ⟨0 + 1, by omega, by go_num, hq, X2⟩
            case measure => simp [intOf]; omega
          | succ j =>
            obtain ⟨y, hy⟩ : ∃ y, n.list[j]? = some y := ⟨n.list[j]'(by omega), List.getElem?_eq_getElem _⟩
            obtain ⟨d0, -, -⟩ := (HP.out.keep X1.out.bel).at' hy
            have hrs : rise n.list (j + 1) x = lt y.key x.key := by rw [rise, hy]
            have T1 := Lib.hid (HTX.out y.key x.key (gTo_key n j hG.out y hy) HK9.out)
            rw [← HKK.out, show Lib.compareBytes (ofL y.key).data.toList xk.data.toList = Lib.compareBytes y.key x.key by rw [HKK.out]; rfl] at T1
            have hcg := cmp_ge y.key x.key
            rw [hrs] at HST HF
            generalize Lib.compareBytes y.key x.key = cv at *
            generalize lt y.key x.key = q at *
            have hj0 : (0 : Int) ≤ (j : Int) := by omega
            have hj1 : (j : Int) < (n.list.length : Int) := by omega
            have hjw : IntKind.i64.wrap (j : Int) = (j : Int) := by rw [IntKind.wrap_i64]; omega
            clear hrs hy
            generalize ofL y.key = yk at *
            cases q with
            | true =>
              have hcc : ¬ 0 ≤ cv := of_decide_eq_false hcg
              have hq : Hid (gTo n (j + 1 + 1) = true) := Lib.hid (by rw [HST.out]; simp [cov, hb])
              go_wp2_with fail
              go_quiet ((go_at_call 18; exact Calls.quiet_of (T1.out _)))
              have X2 := Lib.hid (X1.out.drewN nq).right
              clear X1 c0 c1 c2 c3 c4 c5 c6 a0 a1 a2 d0
              generalize w2.drewN nq = w3 at *
              go_wp2_with fail
              go_roundw
              case rel => exact ⟨j + 1 + 1, by omega, by go_num, hq, X2⟩
              case measure => simp [intOf]; omega
            | false =>
              have hcc : 0 ≤ cv := of_decide_eq_true hcg
              have hq : Hid (R = false) := Lib.hid (HF.out (by simp))
              go_wp2_with fail
              go_quiet ((go_at_call 18; exact Calls.quiet_of (T1.out _)))
              have X2 := Lib.hid (X1.out.drewN nq).right
              clear X1 c0 c1 c2 c3 c4 c5 c6 a0 a1 a2 d0
              generalize w2.drewN nq = w3 at *
              go_wp2_with fail
              go_returns
              exact ⟨ret_bool hq.out.symm, X2.out.bel⟩
      · obtain rfl : k = n.list.length := by omega
        have h1 := hG.out
        rw [← HRL.out] at h1
        have H1 := Lib.hid h1
        clear h1
        go_wp2_with fail
        go_returns
        exact ⟨ret_bool H1.out.symm, X.out.bel⟩
  | true =>
    rw [hb] at c3 S2
    by_cases hn : hi.size = 9
    case neg =>
      have hq : Hid (R = false) := Lib.hid (by rw [HR3.out]; simp [gHigh, hb, show ¬ n.high.length = 9 by omega])
      go_wp2_with fail
      go_returns
      exact ⟨ret_bool hq.out.symm, S2.out.bel⟩
    have hgh : Hid (gHigh n = true) := Lib.hid (by simp [gHigh, hb, show n.high.length = 9 by omega])
    have HRL : Hid (R = gTo n n.list.length) := Lib.hid (by rw [HR3.out, hgh.out, Bool.true_and])
    go_wp2_with fail
    go_loopw [3] (fun i wr => ∃ k : Nat, k ≤ n.list.length ∧ i = .int .i64 k ∧ Hid (gTo n k = true) ∧ Hid (Own w No wr (Asn.blk g 52 #[.int .i64 n.tree, .int .i64 n.level, .int .i64 n.stamp, .bool true, .string hi, .int .i64 n.right, .slice A1 n.list.length m1]))) (fun i _ => n.list.length - (intOf i).toNat)
    case atStart => exact ⟨0, Nat.zero_le _, rfl, Lib.hid rfl, S2⟩
    case round =>
      clear S2 c0 c1 c2 c3 c4 c5 c6
      obtain ⟨k, hk, rfl, hG, X⟩ := hrel
      obtain ⟨c0, c1, c2, c3, c4, c5, c6⟩ := nod_cells (X.out.has (has_blk _ _ _))
      by_cases hlt : k < n.list.length
      · obtain ⟨x, hx⟩ : ∃ x, n.list[k]? = some x := ⟨n.list[k]'(by omega), List.getElem?_eq_getElem _⟩
        obtain ⟨b, o, rfl, hbl, a0, a1, a2⟩ := (HP.out.keep X.out.bel).at hx
        have X1 := Lib.hid (X.out.alloc #[.string (ofL x.key), .string (ofL x.val), .bool x.ghost] 44)
        have hst := gTo_step n k x hx
        rw [hG.out, Bool.true_and] at hst
        have HF : Hid (gAt n k x = false → R = false) := Lib.hid fun h => by
          rw [HRL.out]; exact gTo_false n (k + 1) _ (by rw [hst, h]) (by omega)
        have HST := Lib.hid hst
        have HX := Lib.hid hx
        have hxk : (ofL x.key).size = x.key.length := rfl
        have hxv : (ofL x.val).size = x.val.length := rfl
        have HXK := Lib.hid hxk
        have HXV := Lib.hid hxv
        clear hst hx X
        go_upto_region 9 with fail
        obtain ⟨ge, hgz⟩ : ∃ g, g = wr.heap.size := ⟨_, rfl⟩
        rw [← hgz] at X1 ⊢
        clear hgz
        generalize wr.alloc _ = w2 at *
        clear c0 c1 c2 c3 c4 c5 c6 a0 a1 a2
        obtain ⟨c0, c1, c2, c3, c4, c5, c6⟩ := nod_cells (X1.out.has (Has.r (has_blk _ _ _)))
        obtain ⟨a0, a1, a2⟩ := ent_cells (X1.out.has (Has.l (has_blk _ _ _)))
        obtain ⟨xk, hxkk⟩ : ∃ y, y = ofL x.key := ⟨_, rfl⟩
        obtain ⟨xv, hxvv⟩ : ∃ y, y = ofL x.val := ⟨_, rfl⟩
        rw [← hxkk] at a0 hxk X1
        rw [← hxvv] at a1 hxv X1
        have HKK := Lib.hid hxkk
        clear hxkk hxvv
        by_cases m1' : xk.size = 9
        case neg =>
          have hq : Hid (R = false) := Lib.hid (HF.out (by unfold gAt gEnt; rw [decide_eq_false (by omega)]; simp))
          go_wp2_with fail
          go_returns
          exact ⟨ret_bool hq.out.symm, X1.out.bel⟩
        by_cases m2 : 100 < xv.size
        case pos =>
          have hq : Hid (R = false) := Lib.hid (HF.out (by unfold gAt gEnt; rw [decide_eq_false (show ¬ x.val.length = 2 by omega), decide_eq_false (show ¬ x.val.length ≤ 100 by omega)]; simp))
          go_wp2_with fail
          go_returns
          exact ⟨ret_bool hq.out.symm, X1.out.bel⟩
        have hcase : (0 < n.level ∧ ¬ xv.size = 2) ∨ (0 < n.level ∧ xv.size = 2 ∧ x.ghost = true) ∨ gEnt n.level x = true := by
          by_cases hl : 0 < n.level
          · by_cases h2 : xv.size = 2
            · cases hgx : x.ghost
              · right; right; unfold gEnt; rw [if_pos hl, decide_eq_true (by omega), decide_eq_true (by omega), hgx]; rfl
              · exact Or.inr (Or.inl ⟨hl, h2, rfl⟩)
            · exact Or.inl ⟨hl, h2⟩
          · right; right; unfold gEnt; rw [if_neg hl, decide_eq_true (by omega), decide_eq_true (by omega)]; rfl
        rcases hcase with ⟨hl, h2⟩ | ⟨hl, h2, hgx⟩ | hge
        · have hq : Hid (R = false) := Lib.hid (HF.out (by unfold gAt gEnt; rw [if_pos hl, decide_eq_false (show ¬ x.val.length = 2 by omega)]; simp))
          go_wp2_with fail
          go_returns
          exact ⟨ret_bool hq.out.symm, X1.out.bel⟩
        · have hq : Hid (R = false) := Lib.hid (HF.out (by unfold gAt gEnt; rw [if_pos hl, hgx]; simp))
          rw [hgx] at a2
          go_wp2_with fail
          go_returns
          exact ⟨ret_bool hq.out.symm, X1.out.bel⟩
        have hpass : 0 < n.level → xv.size = 2 ∧ x.ghost = false := fun hl => by
          unfold gEnt at hge; rw [if_pos hl] at hge
          simp only [Bool.and_eq_true, decide_eq_true_eq, Bool.not_eq_true'] at hge
          exact ⟨by omega, hge.2.2⟩
        have hga : gAt n k x = (rise n.list k x && cov n x.key) := by unfold gAt; rw [hge, Bool.and_true]
        rw [hga] at HST HF
        have HK9 : Hid (x.key.length = 9) := Lib.hid (by omega)
        clear hge hga
        have stop11 : True := trivial
        by_cases hl : 0 < n.level
        · obtain ⟨h2, hgx⟩ := hpass hl
          rw [hgx] at a2 X1
          clear hpass
          go_upto_region 11 with fail
          have T2 := Lib.hid (HTX.out x.key n.high HK9.out (by omega))
          rw [← HKK.out, ← HHI.out, show Lib.compareBytes xk.data.toList hi.data.toList = Lib.compareBytes x.key n.high by rw [HKK.out, HHI.out]; rfl] at T2
          have hcv2 := cmp_ge x.key n.high
          have hcov : cov n x.key = lt x.key n.high := by unfold cov; rw [hb]; rfl
          rw [hcov] at HST HF
          generalize Lib.compareBytes x.key n.high = cw at *
          generalize lt x.key n.high = q2 at *
          clear hcov
          cases k with
          | zero =>
            have hrs : rise n.list 0 x = true := rfl
            rw [hrs, Bool.true_and] at HST HF
            clear hrs
            cases q2 with
            | true =>
              have hcc : ¬ 0 ≤ cw := of_decide_eq_false hcv2
              have hq : Hid (gTo n (0 + 1) = true) := Lib.hid HST.out
              go_wp2_with fail
              go_quiet ((go_at_call 18; exact Calls.quiet_of (T2.out _)))
              have X2 := Lib.hid (X1.out.drewN nq).right
              clear X1 c0 c1 c2 c3 c4 c5 c6 a0 a1 a2
              generalize w2.drewN nq = w3 at *
              go_wp2_with fail
              go_roundw
              case rel => exact ⟨0 + 1, by omega, by go_num, hq, X2⟩
              case measure => simp [intOf]; omega
            | false =>
              have hcc : 0 ≤ cw := of_decide_eq_true hcv2
              have hq : Hid (R = false) := Lib.hid (HF.out (by first | rfl | trivial))
              go_wp2_with fail
              go_quiet ((go_at_call 18; exact Calls.quiet_of (T2.out _)))
              have X2 := Lib.hid (X1.out.drewN nq).right
              clear X1 c0 c1 c2 c3 c4 c5 c6 a0 a1 a2
              generalize w2.drewN nq = w3 at *
              go_wp2_with fail
              go_returns
              exact ⟨ret_bool hq.out.symm, X2.out.bel⟩
          | succ j =>
            obtain ⟨y, hy⟩ : ∃ y, n.list[j]? = some y := ⟨n.list[j]'(by omega), List.getElem?_eq_getElem _⟩
            obtain ⟨d0, -, -⟩ := (HP.out.keep X1.out.bel).at' hy
            have hrs : rise n.list (j + 1) x = lt y.key x.key := by rw [rise, hy]
            have T1 := Lib.hid (HTX.out y.key x.key (gTo_key n j hG.out y hy) HK9.out)
            rw [← HKK.out, show Lib.compareBytes (ofL y.key).data.toList xk.data.toList = Lib.compareBytes y.key x.key by rw [HKK.out]; rfl] at T1
            have hcg := cmp_ge y.key x.key
            rw [hrs] at HST HF
            generalize Lib.compareBytes y.key x.key = cv at *
            generalize lt y.key x.key = q at *
            have hj0 : (0 : Int) ≤ (j : Int) := by omega
            have hj1 : (j : Int) < (n.list.length : Int) := by omega
            have hjw : IntKind.i64.wrap (j : Int) = (j : Int) := by rw [IntKind.wrap_i64]; omega
            clear hrs hy
            generalize ofL y.key = yk at *
            cases q with
            | true =>
              have hcc : ¬ 0 ≤ cv := of_decide_eq_false hcg
              cases q2 with
              | true =>
                have hcc2 : ¬ 0 ≤ cw := of_decide_eq_false hcv2
                have hq : Hid (gTo n (j + 1 + 1) = true) := Lib.hid (by rw [HST.out]; rfl)
                go_wp2_with fail
                go_quiet (first | (go_at_call 18; with_reducible exact Calls.quiet_of (T1.out _)) | (go_at_call 18; with_reducible exact Calls.quiet_of (T2.out _)))
                have X2 := Lib.hid (X1.out.drewN nq).right
                clear X1 c0 c1 c2 c3 c4 c5 c6 a0 a1 a2 d0
                generalize w2.drewN nq = w3 at *
                go_wp2_with fail
                go_roundw
                case rel => exact ⟨j + 1 + 1, by omega, by go_num, hq, X2⟩
                case measure => simp [intOf]; omega
              | false =>
                have hcc2 : 0 ≤ cw := of_decide_eq_true hcv2
                have hq : Hid (R = false) := Lib.hid (HF.out (by first | rfl | trivial | simp))
                go_wp2_with fail
                go_quiet (first | (go_at_call 18; with_reducible exact Calls.quiet_of (T1.out _)) | (go_at_call 18; with_reducible exact Calls.quiet_of (T2.out _)))
                have X2 := Lib.hid (X1.out.drewN nq).right
                clear X1 c0 c1 c2 c3 c4 c5 c6 a0 a1 a2 d0
                generalize w2.drewN nq = w3 at *
                go_wp2_with fail
                go_returns
                exact ⟨ret_bool hq.out.symm, X2.out.bel⟩
            | false =>
              have hcc : 0 ≤ cv := of_decide_eq_true hcg
              have hq : Hid (R = false) := Lib.hid (HF.out (by first | rfl | trivial | simp))
              go_wp2_with fail
              go_quiet ((go_at_call 18; with_reducible exact Calls.quiet_of (T1.out _)))
              have X2 := Lib.hid (X1.out.drewN nq).right
              clear X1 c0 c1 c2 c3 c4 c5 c6 a0 a1 a2 d0
              generalize w2.drewN nq = w3 at *
              go_wp2_with fail
              go_returns
              exact ⟨ret_bool hq.out.symm, X2.out.bel⟩
        · clear hpass
          go_upto_region 11 with fail
          have T2 := Lib.hid (HTX.out x.key n.high HK9.out (by omega))
          rw [← HKK.out, ← HHI.out, show Lib.compareBytes xk.data.toList hi.data.toList = Lib.compareBytes x.key n.high by rw [HKK.out, HHI.out]; rfl] at T2
          have hcv2 := cmp_ge x.key n.high
          have hcov : cov n x.key = lt x.key n.high := by unfold cov; rw [hb]; rfl
          rw [hcov] at HST HF
          generalize Lib.compareBytes x.key n.high = cw at *
          generalize lt x.key n.high = q2 at *
          clear hcov
          cases k with
          | zero =>
            have hrs : rise n.list 0 x = true := rfl
            rw [hrs, Bool.true_and] at HST HF
            clear hrs
            cases q2 with
            | true =>
              have hcc : ¬ 0 ≤ cw := of_decide_eq_false hcv2
              have hq : Hid (gTo n (0 + 1) = true) := Lib.hid HST.out
              go_wp2_with fail
              go_quiet ((go_at_call 18; exact Calls.quiet_of (T2.out _)))
              have X2 := Lib.hid (X1.out.drewN nq).right
              clear X1 c0 c1 c2 c3 c4 c5 c6 a0 a1 a2
              generalize w2.drewN nq = w3 at *
              go_wp2_with fail
              go_roundw
              case rel => exact ⟨0 + 1, by omega, by go_num, hq, X2⟩
              case measure => simp [intOf]; omega
            | false =>
              have hcc : 0 ≤ cw := of_decide_eq_true hcv2
              have hq : Hid (R = false) := Lib.hid (HF.out (by first | rfl | trivial))
              go_wp2_with fail
              go_quiet ((go_at_call 18; exact Calls.quiet_of (T2.out _)))
              have X2 := Lib.hid (X1.out.drewN nq).right
              clear X1 c0 c1 c2 c3 c4 c5 c6 a0 a1 a2
              generalize w2.drewN nq = w3 at *
              go_wp2_with fail
              go_returns
              exact ⟨ret_bool hq.out.symm, X2.out.bel⟩
          | succ j =>
            obtain ⟨y, hy⟩ : ∃ y, n.list[j]? = some y := ⟨n.list[j]'(by omega), List.getElem?_eq_getElem _⟩
            obtain ⟨d0, -, -⟩ := (HP.out.keep X1.out.bel).at' hy
            have hrs : rise n.list (j + 1) x = lt y.key x.key := by rw [rise, hy]
            have T1 := Lib.hid (HTX.out y.key x.key (gTo_key n j hG.out y hy) HK9.out)
            rw [← HKK.out, show Lib.compareBytes (ofL y.key).data.toList xk.data.toList = Lib.compareBytes y.key x.key by rw [HKK.out]; rfl] at T1
            have hcg := cmp_ge y.key x.key
            rw [hrs] at HST HF
            generalize Lib.compareBytes y.key x.key = cv at *
            generalize lt y.key x.key = q at *
            have hj0 : (0 : Int) ≤ (j : Int) := by omega
            have hj1 : (j : Int) < (n.list.length : Int) := by omega
            have hjw : IntKind.i64.wrap (j : Int) = (j : Int) := by rw [IntKind.wrap_i64]; omega
            clear hrs hy
            generalize ofL y.key = yk at *
            cases q with
            | true =>
              have hcc : ¬ 0 ≤ cv := of_decide_eq_false hcg
              cases q2 with
              | true =>
                have hcc2 : ¬ 0 ≤ cw := of_decide_eq_false hcv2
                have hq : Hid (gTo n (j + 1 + 1) = true) := Lib.hid (by rw [HST.out]; rfl)
                go_wp2_with fail
                go_quiet (first | (go_at_call 18; with_reducible exact Calls.quiet_of (T1.out _)) | (go_at_call 18; with_reducible exact Calls.quiet_of (T2.out _)))
                have X2 := Lib.hid (X1.out.drewN nq).right
                clear X1 c0 c1 c2 c3 c4 c5 c6 a0 a1 a2 d0
                generalize w2.drewN nq = w3 at *
                go_wp2_with fail
                go_roundw
                case rel => exact ⟨j + 1 + 1, by omega, by go_num, hq, X2⟩
                case measure => simp [intOf]; omega
              | false =>
                have hcc2 : 0 ≤ cw := of_decide_eq_true hcv2
                have hq : Hid (R = false) := Lib.hid (HF.out (by first | rfl | trivial | simp))
                go_wp2_with fail
                go_quiet (first | (go_at_call 18; with_reducible exact Calls.quiet_of (T1.out _)) | (go_at_call 18; with_reducible exact Calls.quiet_of (T2.out _)))
                have X2 := Lib.hid (X1.out.drewN nq).right
                clear X1 c0 c1 c2 c3 c4 c5 c6 a0 a1 a2 d0
                generalize w2.drewN nq = w3 at *
                go_wp2_with fail
                go_returns
                exact ⟨ret_bool hq.out.symm, X2.out.bel⟩
            | false =>
              have hcc : 0 ≤ cv := of_decide_eq_true hcg
              have hq : Hid (R = false) := Lib.hid (HF.out (by first | rfl | trivial | simp))
              go_wp2_with fail
              go_quiet ((go_at_call 18; with_reducible exact Calls.quiet_of (T1.out _)))
              have X2 := Lib.hid (X1.out.drewN nq).right
              clear X1 c0 c1 c2 c3 c4 c5 c6 a0 a1 a2 d0
              generalize w2.drewN nq = w3 at *
              go_wp2_with fail
              go_returns
              exact ⟨ret_bool hq.out.symm, X2.out.bel⟩
      · obtain rfl : k = n.list.length := by omega
        have h1 := hG.out
        rw [← HRL.out] at h1
        have H1 := Lib.hid h1
        clear h1
        go_wp2_with fail
        go_returns
        exact ⟨ret_bool H1.out.symm, X.out.bel⟩
end Go.Proofs.Ythoaangmekkcmaa.Nd
