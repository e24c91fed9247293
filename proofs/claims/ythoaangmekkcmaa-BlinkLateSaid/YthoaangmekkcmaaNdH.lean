/- The document's Same. -/
import Derived.Test.YthoaangmekkcmaaNdV
import Derived.Deep.CutBlock
namespace Go.Proofs.Ythoaangmekkcmaa.Nd
open Go.ChangeShapes Go.WideShapes Go.ChangeAt Go.RowKit Go.PlainAid Aid Cr Nt
set_option linter.unusedVariables false
set_option linter.unusedSimpArgs false
theorem take_step {α : Type} (a b : List α) (k : Nat) (x y : α) (hx : a[k]? = some x) (hy : b[k]? = some y) (h : a.take k = b.take k) (e : x = y) : a.take (k + 1) = b.take (k + 1) := by
  rw [List.take_add_one, List.take_add_one, hx, hy, h, e]
theorem take_full {α : Type} (a b : List α) (n : Nat) (ha : n = a.length) (hb : n = b.length) (h : a.take n = b.take n) : a = b := by
  rw [List.take_of_length_le (by omega), List.take_of_length_le (by omega)] at h; exact h
theorem not_at {α : Type} (a b : List α) (k : Nat) (x y : α) (hx : a[k]? = some x) (hy : b[k]? = some y) (e : ¬ x = y) : ¬ a = b := by
  intro h; rw [h, hy] at hx; exact e (Option.some.inj hx).symm
set_option maxRecDepth 100000 in
set_option maxHeartbeats 16000000 in
theorem refSame_any (a b : Nod) (va vb : Value) (w : World) (hva : NodAt w va a) (hvb : NodAt w vb b) :
    Calls Try.prog 26 #[va, vb] w fun e w' => e = .returned (.bool (decide (a = b))) ∧ Below w.heap.size w w' := by
  obtain ⟨p, rfl, hp⟩ := hva
  obtain ⟨p', rfl, hp'⟩ := hvb
  obtain ⟨A1, m1, rfl⟩ := hp.slice
  obtain ⟨B1, n1, rfl⟩ := hp'.slice
  have hm1 := hp.len.2
  have hn1 := hp'.len.2
  unfold maxLen at hm1 hn1
  obtain ⟨at_, al, ast, ah, ahi, ar, aps⟩ := a
  obtain ⟨bt_, bl, bst, bh, bhi, br, bps⟩ := b
  dsimp only at *
  obtain ⟨R, hR⟩ : ∃ R : Bool, R = decide ((⟨at_, al, ast, ah, ahi, ar, aps⟩ : Nod) = ⟨bt_, bl, bst, bh, bhi, br, bps⟩) := ⟨_, rfl⟩
  rw [← hR]
  have h1 : R = decide (at_ = bt_ ∧ al = bl ∧ ast = bst ∧ ah = bh ∧ ahi = bhi ∧ ar = br ∧ aps = bps) := by
    rw [hR]; simp only [Nod.mk.injEq]
  have HR := Lib.hid h1
  have HP := Lib.hid hp; have HP' := Lib.hid hp'
  have hsz : ∀ cs T, (w.alloc (.cells cs T)).heap.size = w.heap.size + 1 := fun cs T => by simp
  have S := Lib.hid ((((Own.none w).alloc (nodCells ⟨at_, al, ast, ah, ahi, ar, aps⟩ (.slice A1 aps.length m1)) 52).left).alloc (nodCells ⟨bt_, bl, bst, bh, bhi, br, bps⟩ (.slice B1 bps.length n1)) 52)
  rw [hsz] at S
  clear hp hp' hR h1 hsz
  obtain ⟨La1, la1⟩ : ∃ n, n = aps.length := ⟨_, rfl⟩
  obtain ⟨Lb1, lb1⟩ : ∃ n, n = bps.length := ⟨_, rfl⟩
  rw [← la1] at hm1
  rw [← lb1] at hn1
  rw [← la1] at HP; rw [← lb1] at HP'
  rw [← la1, ← lb1] at S ⊢
  have LA1 := Lib.hid la1; have LB1 := Lib.hid lb1
  clear la1 lb1
  unfold nodCells at *
  dsimp only at *
  have hk1 : ∀ x y : By, ¬ x = y → ((ofL x).toList == (ofL y).toList) = false := fun x y h => by rw [str_eq, decide_eq_false (fun e => h (ofL_inj e))]
  have HK := Lib.hid hk1
  clear hk1
  go_enter Try.func26, Try.ntmps26
  go_upto_region 1 with fail
  obtain ⟨g2, hg2⟩ : ∃ g, g = w.heap.size + 1 := ⟨_, rfl⟩
  rw [← hg2] at S ⊢
  obtain ⟨g1, hg1⟩ : ∃ g, g = w.heap.size := ⟨_, rfl⟩
  rw [← hg1] at S ⊢
  clear hg1 hg2
  generalize (w.alloc _).alloc _ = w1 at *
  obtain ⟨⟨c0, c1, c2, c3, c4, c5, c6⟩, -⟩ := seven (S.out.has (Has.r (has_blk _ _ _)))
  obtain ⟨⟨e0, e1, e2, e3, e4, e5, e6⟩, -⟩ := seven (S.out.has (Has.l (has_blk _ _ _)))
  by_cases q : at_ = bt_
  case neg =>
    go_wp2_with fail
    go_returns
    exact ⟨ret_bool (by rw [HR.out, decide_eq_false]; rintro ⟨h, -⟩; exact q h), S.out.bel⟩
  subst q
  by_cases q : al = bl
  case neg =>
    go_wp2_with fail
    go_returns
    exact ⟨ret_bool (by rw [HR.out, decide_eq_false]; rintro ⟨-, h, -⟩; exact q h), S.out.bel⟩
  subst q
  by_cases q : ast = bst
  case neg =>
    go_wp2_with fail
    go_returns
    exact ⟨ret_bool (by rw [HR.out, decide_eq_false]; rintro ⟨-, -, h, -⟩; exact q h), S.out.bel⟩
  subst q
  by_cases q : ah = bh
  case neg =>
    have q2 : ¬ (ah == bh) = true := by simpa using q
    cases ah <;> cases bh <;> first | exact absurd rfl q | skip
    all_goals
      go_wp2_with fail
      go_returns
      exact ⟨ret_bool (by rw [HR.out, decide_eq_false]; rintro ⟨-, -, -, h, -⟩; exact q h), S.out.bel⟩
  subst q
  by_cases q : ahi = bhi
  case neg =>
    have hq := HK.out _ _ q
    go_wp2_with fail
    go_returns
    exact ⟨ret_bool (by rw [HR.out, decide_eq_false]; rintro ⟨-, -, -, -, h, -⟩; exact q h), S.out.bel⟩
  subst q
  by_cases q : ar = br
  case neg =>
    go_wp2_with fail
    go_returns
    exact ⟨ret_bool (by rw [HR.out, decide_eq_false]; rintro ⟨-, -, -, -, -, h, -⟩; exact q h), S.out.bel⟩
  subst q
  by_cases q : La1 = Lb1
  case neg =>
    go_wp2_with fail
    go_returns
    exact ⟨ret_bool (by rw [HR.out, decide_eq_false]; rintro ⟨-, -, -, -, -, -, h⟩; exact q (by rw [LA1.out, LB1.out, h])), S.out.bel⟩
  subst q
  go_wp2_with fail
  clear c0 c1 c2 c3 c4 c5 c6 e0 e1 e2 e3 e4 e5 e6
  go_loopw [5] (fun i wr => ∃ k : Nat, k ≤ La1 ∧ i = .int .i64 k ∧ Hid (aps.take k = bps.take k) ∧ Hid (Own w No wr (Asn.blk g2 52 #[.int .i64 at_, .int .i64 al, .int .i64 ast, .bool ah, .string (ofL ahi), .int .i64 ar, .slice B1 La1 n1] * Asn.blk g1 52 #[.int .i64 at_, .int .i64 al, .int .i64 ast, .bool ah, .string (ofL ahi), .int .i64 ar, .slice A1 La1 m1]))) (fun i _ => La1 - (intOf i).toNat)
  case atStart => exact ⟨0, Nat.zero_le _, rfl, Lib.hid rfl, S⟩
  case round =>
    clear S
    obtain ⟨k, hk, rfl, hT, S⟩ := hrel
    obtain ⟨-, -, -, -, -, -, c6⟩ := nod_cells (S.out.has (Has.r (has_blk _ _ _)))
    obtain ⟨-, -, -, -, -, -, e6⟩ := nod_cells (S.out.has (Has.l (has_blk _ _ _)))
    by_cases hlt : k < La1
    · have hla := LA1.out
      have hlb := LB1.out
      obtain ⟨x, hx⟩ : ∃ x, aps[k]? = some x := ⟨aps[k]'(by omega), List.getElem?_eq_getElem _⟩
      obtain ⟨y, hy⟩ : ∃ x, bps[k]? = some x := ⟨bps[k]'(by omega), List.getElem?_eq_getElem _⟩
      clear hla hlb
      obtain ⟨ba, oa, rfl, hba, x0, x1, x2⟩ := (HP.out.keep S.out.bel).at hx
      obtain ⟨bb, ob, rfl, hbb, y0, y1, y2⟩ := (HP'.out.keep S.out.bel).at hy
      obtain ⟨xa, xb, xc⟩ := x
      obtain ⟨ya, yb, yc⟩ := y
      dsimp only at x0 x1 x2 y0 y1 y2
      have TS := Lib.hid (take_step aps bps k _ _ hx hy hT.out)
      have NA := Lib.hid (not_at aps bps k _ _ hx hy)
      clear hx hy hT
      by_cases q1 : xa = ya
      case neg =>
        have hq := HK.out _ _ q1
        go_wp2_with fail
        go_quiet (fail)
        have S2 := Lib.hid (S.out.drewN nq)
        clear S c6 e6 x0 x1 x2 y0 y1 y2
        generalize wr.drewN nq = w2 at *
        go_wp2_with fail
        go_returns
        exact ⟨ret_bool (by rw [HR.out, decide_eq_false]; rintro ⟨-, -, -, -, -, -, h⟩; exact NA.out (fun e => q1 (congrArg Ent.key e)) h), S2.out.bel⟩
      subst q1
      by_cases q2 : xb = yb
      case neg =>
        have hq := HK.out _ _ q2
        go_wp2_with fail
        go_quiet (fail)
        have S2 := Lib.hid (S.out.drewN nq)
        clear S c6 e6 x0 x1 x2 y0 y1 y2
        generalize wr.drewN nq = w2 at *
        go_wp2_with fail
        go_returns
        exact ⟨ret_bool (by rw [HR.out, decide_eq_false]; rintro ⟨-, -, -, -, -, -, h⟩; exact NA.out (fun e => q2 (congrArg Ent.val e)) h), S2.out.bel⟩
      subst q2
      by_cases q3 : xc = yc
      case neg =>
        cases xc <;> cases yc <;> first | exact absurd rfl q3 | skip
        all_goals
          go_wp2_with fail
          go_quiet (fail)
          have S2 := Lib.hid (S.out.drewN nq)
          clear S c6 e6 x0 x1 x2 y0 y1 y2
          generalize wr.drewN nq = w2 at *
          go_wp2_with fail
          go_returns
          exact ⟨ret_bool (by rw [HR.out, decide_eq_false]; rintro ⟨-, -, -, -, -, -, h⟩; exact NA.out (fun e => q3 (congrArg Ent.ghost e)) h), S2.out.bel⟩
      subst q3
      have TT := Lib.hid (TS.out rfl)
      clear TS NA
      go_wp2_with fail
      go_quiet (fail)
      have S2 := Lib.hid (S.out.drewN nq)
      clear S c6 e6 x0 x1 x2 y0 y1 y2
      generalize wr.drewN nq = w2 at *
      go_wp2_with fail
      go_round
      case rel => exact ⟨k + 1, by omega, by go_num, TT, S2⟩
      case measure => simp [intOf]; omega
    · have hke : k = La1 := by omega
      have EQ5 := Lib.hid (take_full aps bps k (hke.trans LA1.out) (hke.trans LB1.out) hT.out)
      clear hke
      go_wp2_with fail
      go_returns
      exact ⟨ret_bool (by rw [HR.out, EQ5.out]; simp), S.out.bel⟩
end Go.Proofs.Ythoaangmekkcmaa.Nd
