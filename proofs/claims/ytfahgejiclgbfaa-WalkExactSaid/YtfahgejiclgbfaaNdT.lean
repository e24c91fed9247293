/- Texts of ours, joined. -/
import Derived.Test.YtfahgejiclgbfaaNdR
import Derived.Deep.CutBlock
import Derived.Deep.Draws
import Derived.Test.YtfahgejiclgbfaaNdV

-- joined
section
namespace Go.Proofs.Ytfahgejiclgbfaa.Nd
open Go.ChangeShapes Go.WideShapes Go.ChangeAt Go.RowKit Go.PlainAid Aid Cr Nt
set_option linter.unusedVariables false
set_option linter.unusedSimpArgs false
theorem cb_step (a b : ByteArray) (k : Nat) (h1 : k < a.size) (h2 : k < b.size) : Lib.compareBytes (a.data.toList.drop k) (b.data.toList.drop k) = if bt a k < bt b k then -1 else if bt b k < bt a k then 1 else Lib.compareBytes (a.data.toList.drop (k + 1)) (b.data.toList.drop (k + 1)) := by
  have la : k < a.data.toList.length := by rw [← Lib.size_eq]; exact h1
  have lb : k < b.data.toList.length := by rw [← Lib.size_eq]; exact h2
  rw [List.drop_eq_getElem_cons la, List.drop_eq_getElem_cons lb, Lib.compareBytes, bt_list, bt_list, List.getD, List.getD, List.getElem?_eq_getElem la, List.getElem?_eq_getElem lb]
  simp only [UInt8.lt_iff_toNat_lt, Option.getD_some, Int.ofNat_lt]
theorem cb_end (a b : ByteArray) (k : Nat) (h1 : k ≤ a.size) (h2 : k ≤ b.size) (h : k = a.size ∨ k = b.size) : Lib.compareBytes (a.data.toList.drop k) (b.data.toList.drop k) = if a.size < b.size then -1 else if b.size < a.size then 1 else 0 := by
  have la : (a.data.toList.drop k).length = a.size - k := by rw [List.length_drop, ← Lib.size_eq]
  have lb : (b.data.toList.drop k).length = b.size - k := by rw [List.length_drop, ← Lib.size_eq]
  generalize a.data.toList.drop k = x at *
  generalize b.data.toList.drop k = y at *
  cases x with
  | nil =>
    simp only [List.length_nil] at la
    cases y with
    | nil => simp only [List.length_nil] at lb; rw [if_neg (by omega), if_neg (by omega)]; rfl
    | cons c y => simp only [List.length_cons] at lb; rw [if_pos (by omega)]; rfl
  | cons c x =>
    simp only [List.length_cons] at la
    cases y with
    | nil => simp only [List.length_nil] at lb; rw [if_neg (by omega), if_pos (by omega)]; rfl
    | cons d y => simp only [List.length_cons] at lb; omega
theorem cmp_swap (a b : By) : Lib.compareBytes a b = - Lib.compareBytes b a := by
  induction a generalizing b with
  | nil => cases b <;> rfl
  | cons x a ih =>
    cases b with
    | nil => rfl
    | cons y b =>
      rw [Lib.compareBytes, Lib.compareBytes]
      by_cases h1 : x < y
      · have h2 : ¬ y < x := by rw [UInt8.lt_iff_toNat_lt] at *; omega
        simp [h1, h2]
      · by_cases h2 : y < x
        · simp [h1, h2]
        · simp [h1, h2, ih b]
set_option maxHeartbeats 1000000 in
theorem Texts_q (a b : ByteArray) (w : World) (ha : a.size ≤ maxLen) (hb : b.size ≤ maxLen) :
    Calls Try.prog 20 #[.string a, .string b] w fun e w' => e = .returned (.int .i64 (Lib.compareBytes a.data.toList b.data.toList)) ∧ ∃ n, w' = w.drewN n := by
  unfold maxLen at ha hb
  have ga := get_bt a
  have gb := get_bt b
  have hR : Lib.compareBytes a.data.toList b.data.toList = Lib.compareBytes (a.data.toList.drop 0) (b.data.toList.drop 0) := rfl
  generalize Lib.compareBytes a.data.toList b.data.toList = R at *
  have HR := Lib.hid hR
  clear hR
  go_enter Try.func20, Try.ntmps20
  go_wp2_with fail
  go_loopw [5] (fun i wr => ∃ k : Nat, k ≤ a.size ∧ k ≤ b.size ∧ i = .int .i64 k ∧ Hid (R = Lib.compareBytes (a.data.toList.drop k) (b.data.toList.drop k)) ∧ Hid (∃ n, wr = w.drewN n)) (fun i _ => a.size - (intOf i).toNat)
  case atStart => exact ⟨0, by omega, by omega, rfl, HR, Lib.hid ⟨0, rfl⟩⟩
  case round =>
    obtain ⟨k, hk1, hk2, rfl, HR2, hN⟩ := hrel
    clear HR
    by_cases h1 : k < a.size
    · by_cases h2 : k < b.size
      · have hs := cb_step a b k h1 h2
        have HS := Lib.hid hs
        have kk : (0 : Int) ≤ (k : Int) := by omega
        have kt : (k : Int).toNat = k := by simp
        clear hs
        by_cases hl : bt a k < bt b k
        · go_wp2_with fail
          go_quiet (fail)
          go_wp2_with fail
          go_returns
          obtain ⟨n, rfl⟩ := hN.out
          exact ⟨ret_int (by rw [HR2.out, HS.out, if_pos hl]), _, World.drewN_drewN _ _ _⟩
        · by_cases hg : bt b k < bt a k
          · go_wp2_with fail
            go_quiet (fail)
            go_wp2_with fail
            go_quiet (fail)
            go_wp2_with fail
            go_returns
            obtain ⟨n, rfl⟩ := hN.out
            exact ⟨ret_int (by rw [HR2.out, HS.out, if_neg (by omega), if_pos (by omega)]), _, by rw [World.drewN_drewN, World.drewN_drewN]⟩
          · go_wp2_with fail
            go_quiet (fail)
            go_wp2_with fail
            go_quiet (fail)
            go_wp2_with fail
            go_roundw
            case rel => exact ⟨k + 1, by omega, by omega, by go_num, Lib.hid (by rw [HR2.out, HS.out, if_neg (by omega), if_neg (by omega)]), by obtain ⟨n, hn⟩ := hN.out; exact Lib.hid ⟨_, by rw [hn]; first | rw [World.drewN_drewN, World.drewN_drewN] | rw [World.drewN_drewN]⟩⟩
            case measure => simp [intOf]; omega
      · have he := cb_end a b k hk1 hk2 (by omega)
        have HE := Lib.hid he
        clear he
        go_wp2_with fail
        all_goals go_returns
        all_goals obtain ⟨n, rfl⟩ := hN.out
        all_goals refine ⟨ret_int ?_, n, rfl⟩
        all_goals rw [HR2.out, HE.out]
        all_goals first | (rw [if_pos (by omega)]; done) | (rw [if_neg (by omega), if_pos (by omega)]; done) | (rw [if_neg (by omega), if_neg (by omega)]; done)
    · have he := cb_end a b k hk1 hk2 (by omega)
      have HE := Lib.hid he
      clear he
      go_wp2_with fail
      all_goals go_returns
      all_goals obtain ⟨n, rfl⟩ := hN.out
      all_goals refine ⟨ret_int ?_, n, rfl⟩
      all_goals rw [HR2.out, HE.out]
      all_goals first | (rw [if_pos (by omega)]; done) | (rw [if_neg (by omega), if_pos (by omega)]; done) | (rw [if_neg (by omega), if_neg (by omega)]; done)
set_option maxRecDepth 100000 in
set_option maxHeartbeats 4000000 in
theorem Find_any (n : Nod) (key : By) (v : Value) (w : World) (hv : NodAt w v n) :
    Calls Try.prog 58 #[v, .string (ofL key)] w fun e w' => e = .returned (.int .i64 (lastLe n.list key n.list.length)) ∧ Below w.heap.size w w' := by
  obtain ⟨p, rfl, hp⟩ := hv
  obtain ⟨A1, m1, rfl⟩ := hp.slice
  have hm1 := hp.len.2
  unfold maxLen at hm1
  have HP := Lib.hid hp
  have S := Lib.hid ((Own.none w).alloc (nodCells n (.slice A1 n.list.length m1)) 52).left
  have HK := Lib.hid (fun (x : Ent) => show Go.Op.bytesLess (ofL x.key).toList (ofL key).toList = lt x.key key from less x.key key)
  have HK2 := Lib.hid (fun (x : Ent) => show ((ofL x.key).toList == (ofL key).toList) = decide (x.key = key) from (str_eq _ _).trans (decide_eq_decide.2 ⟨ofL_inj, fun h => by rw [h]⟩))
  generalize hky : ofL key = ky at *
  clear hp hky
  unfold nodCells at *
  go_enter Try.func58, Try.ntmps58
  go_upto_region 1 with fail
  obtain ⟨g, hgz⟩ : ∃ g, g = w.heap.size := ⟨_, rfl⟩
  rw [← hgz] at S ⊢
  clear hgz
  generalize w.alloc _ = w1 at *
  obtain ⟨-, -, -, -, -, -, c6⟩ := nod_cells (S.out.has (has_blk _ _ _))
  have hw0 : IntKind.i64.wrap ((n.list.length : Int) - 1) = (n.list.length : Int) - 1 := by rw [IntKind.wrap_i64]; omega
  go_wp2_with fail
  go_loop [5] (fun i => ∃ k : Nat, k ≤ n.list.length ∧ i = .int .i64 ((k : Int) - 1) ∧ Hid (lastLe n.list key n.list.length = lastLe n.list key k)) (fun i => (intOf i + 1).toNat)
  case atStart => exact ⟨n.list.length, Nat.le_refl _, by first | rfl | rw [hw0], Lib.hid rfl⟩
  case round =>
    clear hw0
    obtain ⟨k, hk, rfl, hL⟩ := hrel
    cases k with
    | zero =>
      go_wp2_with fail
      go_returns
      exact ⟨ret_int (by rw [hL.out]; rfl), S.out.bel⟩
    | succ j =>
      obtain ⟨x, hx⟩ : ∃ x, n.list[j]? = some x := ⟨n.list[j]'(by omega), List.getElem?_eq_getElem _⟩
      obtain ⟨b, o, rfl, hbl, a0, -, -⟩ := (HP.out.keep S.out.bel).at hx
      have hkx := HK.out x
      have hkx2 := HK2.out x
      have hgt : ∀ W : World, (binOp .gtr 9 (.string (ofL x.key)) (.string ky)).run Try.prog W = .ok (.bool (!le x.key key)) W := fun W => by
        unfold le
        rw [← hkx, ← hkx2]
        first | rfl | (simp [binOp, go_sem]; done)
      have h1 := fun h => lastLe_hit n.list key j x hx h
      have h2 := fun h => lastLe_miss n.list key j x hx h
      have H1 := Lib.hid h1
      have H2 := Lib.hid h2
      have e1 : (((j + 1 : Nat) : Int) - 1) = (j : Int) := by omega
      rw [e1]
      unfold le at hgt H1 H2
      clear h1 h2 hx e1
      generalize ofL x.key = xk at *
      generalize lt x.key key = bl at *
      generalize decide (x.key = key) = be at *
      have hj0 : (0 : Int) ≤ (j : Int) := by omega
      have hj1 : (j : Int) < (n.list.length : Int) := by omega
      cases bl with
      | false =>
        cases be with
        | false =>
          go_wp2_with fail
          go_round
          case rel => exact ⟨j, by omega, by go_num, Lib.hid (by rw [hL.out, H2.out (by first | rfl | trivial)])⟩
          case measure => simp [intOf] <;> omega
        | true =>
          go_wp2_with fail
          go_returns
          exact ⟨ret_int (by rw [hL.out, H1.out (by first | rfl | trivial)]), S.out.bel⟩
      | true =>
        go_wp2_with fail
        go_returns
        exact ⟨ret_int (by rw [hL.out, H1.out (by first | rfl | trivial)]), S.out.bel⟩
end Go.Proofs.Ytfahgejiclgbfaa.Nd
end

-- joined
section
namespace Go.Proofs.Ytfahgejiclgbfaa.Nd
open Go.ChangeShapes Go.WideShapes Go.ChangeAt Go.RowKit Go.PlainAid Aid Cr Nt
set_option linter.unusedVariables false
set_option linter.unusedSimpArgs false
theorem take_step {α : Type} (a b : List α) (k : Nat) (x y : α) (hx : a[k]? = some x) (hy : b[k]? = some y) (h : a.take k = b.take k) (e : x = y) : a.take (k + 1) = b.take (k + 1) := by
  rw [List.take_add_one, List.take_add_one, hx, hy, h, e]
theorem take_full {α : Type} (a b : List α) (n : Nat) (ha : n = a.length) (hb : n = b.length) (h : a.take n = b.take n) : a = b := by
  rw [List.take_of_length_le (by omega), List.take_of_length_le (by omega)] at h; exact h
theorem not_at {α : Type} (a b : List α) (k : Nat) (x y : α) (hx : a[k]? = some x) (hy : b[k]? = some y) (e : ¬ x = y) : ¬ a = b := by
  intro h; rw [h, hy] at hx; exact e (Option.some.inj hx).symm
set_option maxRecDepth 100000 in
set_option maxHeartbeats 16000000 in
theorem refSame_any (a b : Nod) (va vb : Value) (w : World) (hva : NodAt w va a) (hvb : NodAt w vb b) :
    Calls Try.prog 28 #[va, vb] w fun e w' => e = .returned (.bool (decide (a = b))) ∧ Below w.heap.size w w' := by
  obtain ⟨p, rfl, hp⟩ := hva
  obtain ⟨p', rfl, hp'⟩ := hvb
  obtain ⟨A1, m1, rfl⟩ := hp.slice
  obtain ⟨B1, n1, rfl⟩ := hp'.slice
  have hm1 := hp.len.2
  have hn1 := hp'.len.2
  unfold maxLen at hm1 hn1
  obtain ⟨at_, al, ast, ah, ahi, ar, aps⟩ := a
  obtain ⟨bt_, bl, bst, bh, bhi, br, bps⟩ := b
  dsimp only at *
  obtain ⟨R, hR⟩ : ∃ R : Bool, R = decide ((⟨at_, al, ast, ah, ahi, ar, aps⟩ : Nod) = ⟨bt_, bl, bst, bh, bhi, br, bps⟩) := ⟨_, rfl⟩
  rw [← hR]
  have h1 : R = decide (at_ = bt_ ∧ al = bl ∧ ast = bst ∧ ah = bh ∧ ahi = bhi ∧ ar = br ∧ aps = bps) := by
    rw [hR]; simp only [Nod.mk.injEq]
  have HR := Lib.hid h1
  have HP := Lib.hid hp; have HP' := Lib.hid hp'
  have hsz : ∀ cs T, (w.alloc (.cells cs T)).heap.size = w.heap.size + 1 := fun cs T => by simp
  have S := Lib.hid ((((Own.none w).alloc (nodCells ⟨at_, al, ast, ah, ahi, ar, aps⟩ (.slice A1 aps.length m1)) 52).left).alloc (nodCells ⟨bt_, bl, bst, bh, bhi, br, bps⟩ (.slice B1 bps.length n1)) 52)
  rw [hsz] at S
  clear hp hp' hR h1 hsz
  obtain ⟨La1, la1⟩ : ∃ n, n = aps.length := ⟨_, rfl⟩
  obtain ⟨Lb1, lb1⟩ : ∃ n, n = bps.length := ⟨_, rfl⟩
  rw [← la1] at hm1
  rw [← lb1] at hn1
  rw [← la1] at HP; rw [← lb1] at HP'
  rw [← la1, ← lb1] at S ⊢
  have LA1 := Lib.hid la1; have LB1 := Lib.hid lb1
  clear la1 lb1
  unfold nodCells at *
  dsimp only at *
  have hk1 : ∀ x y : By, ¬ x = y → ((ofL x).toList == (ofL y).toList) = false := fun x y h => by rw [str_eq, decide_eq_false (fun e => h (ofL_inj e))]
  have HK := Lib.hid hk1
  clear hk1
  go_enter Try.func28, Try.ntmps28
  go_upto_region 1 with fail
  obtain ⟨g2, hg2⟩ : ∃ g, g = w.heap.size + 1 := ⟨_, rfl⟩
  rw [← hg2] at S ⊢
  obtain ⟨g1, hg1⟩ : ∃ g, g = w.heap.size := ⟨_, rfl⟩
  rw [← hg1] at S ⊢
  clear hg1 hg2
  generalize (w.alloc _).alloc _ = w1 at *
  obtain ⟨⟨c0, c1, c2, c3, c4, c5, c6⟩, -⟩ := seven (S.out.has (Has.r (has_blk _ _ _)))
  obtain ⟨⟨e0, e1, e2, e3, e4, e5, e6⟩, -⟩ := seven (S.out.has (Has.l (has_blk _ _ _)))
  by_cases q : at_ = bt_
  case neg =>
    go_wp2_with fail
    go_returns
    exact ⟨ret_bool (by rw [HR.out, decide_eq_false]; rintro ⟨h, -⟩; exact q h), S.out.bel⟩
  subst q
  by_cases q : al = bl
  case neg =>
    go_wp2_with fail
    go_returns
    exact ⟨ret_bool (by rw [HR.out, decide_eq_false]; rintro ⟨-, h, -⟩; exact q h), S.out.bel⟩
  subst q
  by_cases q : ast = bst
  case neg =>
    go_wp2_with fail
    go_returns
    exact ⟨ret_bool (by rw [HR.out, decide_eq_false]; rintro ⟨-, -, h, -⟩; exact q h), S.out.bel⟩
  subst q
  by_cases q : ah = bh
  case neg =>
    have q2 : ¬ (ah == bh) = true := by simpa using q
    cases ah <;> cases bh <;> first | exact absurd rfl q | skip
    all_goals
      go_wp2_with fail
      go_returns
      exact ⟨ret_bool (by rw [HR.out, decide_eq_false]; rintro ⟨-, -, -, h, -⟩; exact q h), S.out.bel⟩
  subst q
  by_cases q : ahi = bhi
  case neg =>
    have hq := HK.out _ _ q
    go_wp2_with fail
    go_returns
    exact ⟨ret_bool (by rw [HR.out, decide_eq_false]; rintro ⟨-, -, -, -, h, -⟩; exact q h), S.out.bel⟩
  subst q
  by_cases q : ar = br
  case neg =>
    go_wp2_with fail
    go_returns
    exact ⟨ret_bool (by rw [HR.out, decide_eq_false]; rintro ⟨-, -, -, -, -, h, -⟩; exact q h), S.out.bel⟩
  subst q
  by_cases q : La1 = Lb1
  case neg =>
    go_wp2_with fail
    go_returns
    exact ⟨ret_bool (by rw [HR.out, decide_eq_false]; rintro ⟨-, -, -, -, -, -, h⟩; exact q (by rw [LA1.out, LB1.out, h])), S.out.bel⟩
  subst q
  go_wp2_with fail
  clear c0 c1 c2 c3 c4 c5 c6 e0 e1 e2 e3 e4 e5 e6
  go_loopw [5] (fun i wr => ∃ k : Nat, k ≤ La1 ∧ i = .int .i64 k ∧ Hid (aps.take k = bps.take k) ∧ Hid (Own w No wr (Asn.blk g2 52 #[.int .i64 at_, .int .i64 al, .int .i64 ast, .bool ah, .string (ofL ahi), .int .i64 ar, .slice B1 La1 n1] * Asn.blk g1 52 #[.int .i64 at_, .int .i64 al, .int .i64 ast, .bool ah, .string (ofL ahi), .int .i64 ar, .slice A1 La1 m1]))) (fun i _ => La1 - (intOf i).toNat)
  case atStart => exact ⟨0, Nat.zero_le _, rfl, Lib.hid rfl, S⟩
  case round =>
    clear S
    obtain ⟨k, hk, rfl, hT, S⟩ := hrel
    obtain ⟨-, -, -, -, -, -, c6⟩ := nod_cells (S.out.has (Has.r (has_blk _ _ _)))
    obtain ⟨-, -, -, -, -, -, e6⟩ := nod_cells (S.out.has (Has.l (has_blk _ _ _)))
    by_cases hlt : k < La1
    · have hla := LA1.out
      have hlb := LB1.out
      obtain ⟨x, hx⟩ : ∃ x, aps[k]? = some x := ⟨aps[k]'(by omega), List.getElem?_eq_getElem _⟩
      obtain ⟨y, hy⟩ : ∃ x, bps[k]? = some x := ⟨bps[k]'(by omega), List.getElem?_eq_getElem _⟩
      clear hla hlb
      obtain ⟨ba, oa, rfl, hba, x0, x1, x2⟩ := (HP.out.keep S.out.bel).at hx
      obtain ⟨bb, ob, rfl, hbb, y0, y1, y2⟩ := (HP'.out.keep S.out.bel).at hy
      obtain ⟨xa, xb, xc⟩ := x
      obtain ⟨ya, yb, yc⟩ := y
      dsimp only at x0 x1 x2 y0 y1 y2
      have TS := Lib.hid (take_step aps bps k _ _ hx hy hT.out)
      have NA := Lib.hid (not_at aps bps k _ _ hx hy)
      clear hx hy hT
      by_cases q1 : xa = ya
      case neg =>
        have hq := HK.out _ _ q1
        go_wp2_with fail
        go_quiet (fail)
        have S2 := Lib.hid (S.out.drewN nq)
        clear S c6 e6 x0 x1 x2 y0 y1 y2
        generalize wr.drewN nq = w2 at *
        go_wp2_with fail
        go_returns
        exact ⟨ret_bool (by rw [HR.out, decide_eq_false]; rintro ⟨-, -, -, -, -, -, h⟩; exact NA.out (fun e => q1 (congrArg Ent.key e)) h), S2.out.bel⟩
      subst q1
      by_cases q2 : xb = yb
      case neg =>
        have hq := HK.out _ _ q2
        go_wp2_with fail
        go_quiet (fail)
        have S2 := Lib.hid (S.out.drewN nq)
        clear S c6 e6 x0 x1 x2 y0 y1 y2
        generalize wr.drewN nq = w2 at *
        go_wp2_with fail
        go_returns
        exact ⟨ret_bool (by rw [HR.out, decide_eq_false]; rintro ⟨-, -, -, -, -, -, h⟩; exact NA.out (fun e => q2 (congrArg Ent.val e)) h), S2.out.bel⟩
      subst q2
      by_cases q3 : xc = yc
      case neg =>
        cases xc <;> cases yc <;> first | exact absurd rfl q3 | skip
        all_goals
          go_wp2_with fail
          go_quiet (fail)
          have S2 := Lib.hid (S.out.drewN nq)
          clear S c6 e6 x0 x1 x2 y0 y1 y2
          generalize wr.drewN nq = w2 at *
          go_wp2_with fail
          go_returns
          exact ⟨ret_bool (by rw [HR.out, decide_eq_false]; rintro ⟨-, -, -, -, -, -, h⟩; exact NA.out (fun e => q3 (congrArg Ent.ghost e)) h), S2.out.bel⟩
      subst q3
      have TT := Lib.hid (TS.out rfl)
      clear TS NA
      go_wp2_with fail
      go_quiet (fail)
      have S2 := Lib.hid (S.out.drewN nq)
      clear S c6 e6 x0 x1 x2 y0 y1 y2
      generalize wr.drewN nq = w2 at *
      go_wp2_with fail
      go_round
      case rel => exact ⟨k + 1, by omega, by go_num, TT, S2⟩
      case measure => simp [intOf]; omega
    · have hke : k = La1 := by omega
      have EQ5 := Lib.hid (take_full aps bps k (hke.trans LA1.out) (hke.trans LB1.out) hT.out)
      clear hke
      go_wp2_with fail
      go_returns
      exact ⟨ret_bool (by rw [HR.out, EQ5.out]; simp), S.out.bel⟩
end Go.Proofs.Ytfahgejiclgbfaa.Nd
end
