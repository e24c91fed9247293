/- The document's records: what can be; a number's bytes. -/
import Derived.Test.YtaacinhmgmmcaaaDoorNtS
import Derived.Deep.CutBlock
namespace Go.Proofs.YtaacinhmgmmcaaaDoor.Nt
open Go.ChangeShapes Go.WideShapes Go.ChangeAt Go.RowKit Go.PlainAid Aid Cr
set_option linter.unusedVariables false
set_option linter.unusedSimpArgs false
set_option maxHeartbeats 400000 in
theorem in_any (n hi : Int) (w : World) :
    Calls Tryd.prog 31 #[.int .i64 n, .int .i64 hi] w fun e w' => e = .returned (.bool (inN n hi)) ∧ w' = w := by
  by_cases h : 0 ≤ n
  · go_enter Tryd.func31, Tryd.ntmps31
    go_wp2_with fail
    go_returns
    simp [h, inN]
  · go_enter Tryd.func31, Tryd.ntmps31
    go_wp2_with fail
    go_returns
    simp [inN]
    omega
set_option maxRecDepth 100000 in
set_option maxHeartbeats 16000000 in
theorem refGood_any (r : Rec) (v : Value) (w : World) (hv : RecAt w v r) :
    Calls Tryd.prog 10 #[v] w fun e w' => e = .returned (.bool (goodB r)) ∧ Below w.heap.size w w' := by
  obtain ⟨p, o, d, rfl, hp, ho, hd⟩ := hv
  obtain ⟨A1, m1, rfl⟩ := hp.slice
  obtain ⟨A2, m2, rfl⟩ := ho.slice
  obtain ⟨A3, m3, rfl⟩ := hd.slice
  have hm1 := hp.len.2
  have hm2 := ho.len.2
  have hm3 := hd.len.2
  unfold maxLen at hm1 hm2 hm3
  have HP := Lib.hid hp
  have HO := Lib.hid ho
  have HD := Lib.hid hd
  obtain ⟨R, hR⟩ : ∃ R, R = goodB r := ⟨_, rfl⟩
  rw [← hR]
  have hR2 : R = ((decide (1 ≤ r.kind) && decide (r.kind ≤ 6)) && inN r.deal 2147483647 && inN r.prev 2147483647 && inN r.next 2147483647 &&
    (inN r.und.kind 4 && inN r.und.tree 255 && decide ((ofL r.und.key).size ≤ 255) && decide ((ofL r.und.val).size ≤ 255)) &&
    (decide (r.pages.length ≤ 8) && r.pages.all gImg) && (decide (r.opn.length ≤ 16) && r.opn.all gOpn) && (decide (r.dty.length ≤ 256) && r.dty.all gDty)) := hR
  have e1 := fun w => in_any r.deal 2147483647 w
  have e2 := fun w => in_any r.prev 2147483647 w
  have e3 := fun w => in_any r.next 2147483647 w
  have e4 := fun w => in_any r.und.kind 4 w
  have e5 := fun w => in_any r.und.tree 255 w
  have S := Lib.hid ((Own.none w).alloc (recCells r (.slice A1 r.pages.length m1) (.slice A2 r.opn.length m2) (.slice A3 r.dty.length m3)) 45).left
  generalize inN r.deal 2147483647 = b1 at *
  generalize inN r.prev 2147483647 = b2 at *
  generalize inN r.next 2147483647 = b3 at *
  generalize inN r.und.kind 4 = b4 at *
  generalize inN r.und.tree 255 = b5 at *
  have HR := Lib.hid hR2
  clear hR hR2 hp ho hd
  unfold recCells at *
  generalize ofL r.und.key = u1 at *
  generalize ofL r.und.val = u2 at *
  go_enter Tryd.func10, Tryd.ntmps10
  go_upto_region 2 with fail
  obtain ⟨g, hgz⟩ : ∃ g, g = w.heap.size := ⟨_, rfl⟩
  rw [← hgz] at S ⊢
  clear hgz
  generalize w.alloc _ = w1 at *
  obtain ⟨⟨c0, c1, c2, c3, c4, c5, c6, c7, c8, c9, c10⟩, -⟩ := eleven (S.out.has (has_blk _ _ _))
  by_cases k1 : r.kind < 1
  case pos =>
    go_wp2_with fail
    go_returns
    exact ⟨ret_bool (by rw [HR.out]; simp [show ¬ 1 ≤ r.kind by omega]), S.out.bel⟩
  by_cases k2 : 6 < r.kind
  case pos =>
    go_wp2_with fail
    go_returns
    exact ⟨ret_bool (by rw [HR.out]; simp [show ¬ r.kind ≤ 6 by omega]), S.out.bel⟩
  go_wp2_with fail
  refine (e1 _).mono ?_
  rintro e w' ⟨rfl, rfl⟩
  cases b1
  case false =>
    go_wp2_with fail
    go_returns
    exact ⟨ret_bool (by rw [HR.out]; simp [decide_true]), S.out.bel⟩
  go_wp2_with fail
  refine (e2 _).mono ?_
  rintro e w' ⟨rfl, rfl⟩
  cases b2
  case false =>
    go_wp2_with fail
    go_returns
    exact ⟨ret_bool (by rw [HR.out]; simp [decide_true]), S.out.bel⟩
  go_wp2_with fail
  refine (e3 _).mono ?_
  rintro e w' ⟨rfl, rfl⟩
  cases b3
  case false =>
    go_wp2_with fail
    go_returns
    exact ⟨ret_bool (by rw [HR.out]; simp [decide_true]), S.out.bel⟩
  by_cases k4 : 8 < r.pages.length
  case pos =>
    go_wp2_with fail
    go_returns
    exact ⟨ret_bool (by rw [HR.out]; simp [show ¬ r.pages.length ≤ 8 by omega]), S.out.bel⟩
  by_cases k5 : 16 < r.opn.length
  case pos =>
    go_wp2_with fail
    go_returns
    exact ⟨ret_bool (by rw [HR.out]; simp [show ¬ r.opn.length ≤ 16 by omega]), S.out.bel⟩
  by_cases k6 : 256 < r.dty.length
  case pos =>
    go_wp2_with fail
    go_returns
    exact ⟨ret_bool (by rw [HR.out]; simp [show ¬ r.dty.length ≤ 256 by omega]), S.out.bel⟩
  go_wp2_with fail
  refine (e4 _).mono ?_
  rintro e w' ⟨rfl, rfl⟩
  cases b4
  case false =>
    go_wp2_with fail
    go_returns
    exact ⟨ret_bool (by rw [HR.out]; simp [decide_true]), S.out.bel⟩
  go_wp2_with fail
  refine (e5 _).mono ?_
  rintro e w' ⟨rfl, rfl⟩
  cases b5
  case false =>
    go_wp2_with fail
    go_returns
    exact ⟨ret_bool (by rw [HR.out]; simp [decide_true]), S.out.bel⟩
  by_cases k7 : 255 < u1.size
  case pos =>
    go_wp2_with fail
    go_returns
    exact ⟨ret_bool (by rw [HR.out]; simp [show ¬ u1.size ≤ 255 by omega]), S.out.bel⟩
  by_cases k8 : 255 < u2.size
  case pos =>
    go_wp2_with fail
    go_returns
    exact ⟨ret_bool (by rw [HR.out]; simp [show ¬ u2.size ≤ 255 by omega]), S.out.bel⟩
  have hR3 : R = (r.pages.all gImg && r.opn.all gOpn && r.dty.all gDty) := by
    rw [HR.out]; simp [show 1 ≤ r.kind by omega, show r.kind ≤ 6 by omega, show r.pages.length ≤ 8 by omega, show r.opn.length ≤ 16 by omega, show r.dty.length ≤ 256 by omega, show u1.size ≤ 255 by omega, show u2.size ≤ 255 by omega]
  have HR3 := Lib.hid hR3
  clear hR3
  go_wp2_with fail
  go_loop [4] (fun i => ∃ k : Nat, k ≤ r.pages.length ∧ i = .int .i64 k ∧ Hid ((r.pages.take k).all gImg = true)) (fun i => r.pages.length - (intOf i).toNat)
  case atStart => exact ⟨0, Nat.zero_le _, rfl, Lib.hid rfl⟩
  case round =>
    obtain ⟨k, hk, rfl, hA⟩ := hrel
    by_cases hlt : k < r.pages.length
    · obtain ⟨x, hx⟩ : ∃ x, r.pages[k]? = some x := ⟨r.pages[k]'(by omega), List.getElem?_eq_getElem _⟩
      obtain ⟨b, ob, rfl, hbl, x0, x1⟩ := (HP.out.keep S.out.bel).at hx
      have h1 := all_take gImg r.pages k x hx hA.out
      have h2 := all_not gImg r.pages k x hx
      obtain ⟨xa, xb⟩ := x
      unfold fImg at x0 x1
      dsimp only at x0 x1
      have hgx : gImg (xa, xb) = (inN xa 255 && decide ((ofL xb).size = 256)) := rfl
      generalize ofL xb = y at *
      have ea := fun w => in_any xa 255 w
      generalize inN xa 255 = q1 at *
      rw [hgx] at h1 h2
      have H1 := Lib.hid h1
      have H2 := Lib.hid h2
      clear h1 h2 hx hgx
      go_wp2_with fail
      refine (ea _).mono ?_
      rintro e w' ⟨rfl, rfl⟩
      cases q1
      case false =>
        go_wp2_with fail
        go_returns
        exact ⟨ret_bool (by rw [HR3.out, H2.out (by simp)]; rfl), S.out.bel⟩
      by_cases hy : y.size = 256
      case neg =>
        go_wp2_with fail
        go_returns
        exact ⟨ret_bool (by rw [HR3.out, H2.out (by simp [hy])]; rfl), S.out.bel⟩
      go_wp2_with fail
      go_round
      case rel => exact ⟨k + 1, by omega, by go_num, Lib.hid (by rw [H1.out]; simp [hy])⟩
      case measure => simp [intOf]; omega
    · have AL4 : Hid (r.pages.all gImg = true) := by
        have := hA.out
        rw [show k = r.pages.length by omega, List.take_length] at this
        exact Lib.hid this
      go_wp2_with fail
      go_loop [5] (fun i => ∃ k : Nat, k ≤ r.opn.length ∧ i = .int .i64 k ∧ Hid ((r.opn.take k).all gOpn = true)) (fun i => r.opn.length - (intOf i).toNat)
      case atStart => exact ⟨0, Nat.zero_le _, rfl, Lib.hid rfl⟩
      case round =>
        obtain ⟨k, hk, rfl, hA⟩ := hrel
        by_cases hlt : k < r.opn.length
        · obtain ⟨x, hx⟩ : ∃ x, r.opn[k]? = some x := ⟨r.opn[k]'(by omega), List.getElem?_eq_getElem _⟩
          obtain ⟨b, ob, rfl, hbl, x0, x1⟩ := (HO.out.keep S.out.bel).at hx
          have h1 := all_take gOpn r.opn k x hx hA.out
          have h2 := all_not gOpn r.opn k x hx
          obtain ⟨xa, xb⟩ := x
          unfold fNum at x0 x1
          dsimp only at x0 x1
          have hgx : gOpn (xa, xb) = (inN xa 2147483647 && inN xb 2147483647) := rfl
          have ea := fun w => in_any xa 2147483647 w
          have eb := fun w => in_any xb 2147483647 w
          rw [hgx] at h1 h2
          generalize inN xa 2147483647 = q1 at *
          generalize inN xb 2147483647 = q2 at *
          have H1 := Lib.hid h1
          have H2 := Lib.hid h2
          clear h1 h2 hx hgx
          go_wp2_with fail
          refine (ea _).mono ?_
          rintro e w' ⟨rfl, rfl⟩
          cases q1
          case false =>
            go_wp2_with fail
            go_returns
            exact ⟨ret_bool (by rw [HR3.out, H2.out (by simp)]; simp), S.out.bel⟩
          go_wp2_with fail
          refine (eb _).mono ?_
          rintro e w' ⟨rfl, rfl⟩
          cases q2
          case false =>
            go_wp2_with fail
            go_returns
            exact ⟨ret_bool (by rw [HR3.out, H2.out (by simp)]; simp), S.out.bel⟩
          go_wp2_with fail
          go_round
          case rel => exact ⟨k + 1, by omega, by go_num, Lib.hid (by rw [H1.out]; simp)⟩
          case measure => simp [intOf]; omega
        · have AL5 : Hid (r.opn.all gOpn = true) := by
            have := hA.out
            rw [show k = r.opn.length by omega, List.take_length] at this
            exact Lib.hid this
          go_wp2_with fail
          go_loop [6] (fun i => ∃ k : Nat, k ≤ r.dty.length ∧ i = .int .i64 k ∧ Hid ((r.dty.take k).all gDty = true)) (fun i => r.dty.length - (intOf i).toNat)
          case atStart => exact ⟨0, Nat.zero_le _, rfl, Lib.hid rfl⟩
          case round =>
            obtain ⟨k, hk, rfl, hA⟩ := hrel
            by_cases hlt : k < r.dty.length
            · obtain ⟨x, hx⟩ : ∃ x, r.dty[k]? = some x := ⟨r.dty[k]'(by omega), List.getElem?_eq_getElem _⟩
              obtain ⟨b, ob, rfl, hbl, x0, x1⟩ := (HD.out.keep S.out.bel).at hx
              have h1 := all_take gDty r.dty k x hx hA.out
              have h2 := all_not gDty r.dty k x hx
              obtain ⟨xa, xb⟩ := x
              unfold fNum at x0 x1
              dsimp only at x0 x1
              have hgx : gDty (xa, xb) = (inN xa 255 && inN xb 2147483647) := rfl
              have ea := fun w => in_any xa 255 w
              have eb := fun w => in_any xb 2147483647 w
              rw [hgx] at h1 h2
              generalize inN xa 255 = q1 at *
              generalize inN xb 2147483647 = q2 at *
              have H1 := Lib.hid h1
              have H2 := Lib.hid h2
              clear h1 h2 hx hgx
              go_wp2_with fail
              refine (ea _).mono ?_
              rintro e w' ⟨rfl, rfl⟩
              cases q1
              case false =>
                go_wp2_with fail
                go_returns
                exact ⟨ret_bool (by rw [HR3.out, H2.out (by simp)]; simp), S.out.bel⟩
              go_wp2_with fail
              refine (eb _).mono ?_
              rintro e w' ⟨rfl, rfl⟩
              cases q2
              case false =>
                go_wp2_with fail
                go_returns
                exact ⟨ret_bool (by rw [HR3.out, H2.out (by simp)]; simp), S.out.bel⟩
              go_wp2_with fail
              go_round
              case rel => exact ⟨k + 1, by omega, by go_num, Lib.hid (by rw [H1.out]; simp)⟩
              case measure => simp [intOf]; omega
            · have AL6 : Hid (r.dty.all gDty = true) := by
                have := hA.out
                rw [show k = r.dty.length by omega, List.take_length] at this
                exact Lib.hid this
              go_wp2_with fail
              go_returns
              exact ⟨ret_bool (by rw [HR3.out, AL4.out, AL5.out, AL6.out]; rfl), S.out.bel⟩
end Go.Proofs.YtaacinhmgmmcaaaDoor.Nt
