/- What great leaves; the document's place of a key; Same. -/
import Derived.Test.YtmibcodobicmnaaDoorNdT
import Derived.Test.YtmibcodobicmnaaDoorNdH
namespace Go.Proofs.YtmibcodobicmnaaDoor.Nd
open Go.ChangeShapes Go.WideShapes Go.ChangeAt Go.RowKit Go.PlainAid Aid Cr Nt
set_option linter.unusedVariables false
set_option linter.unusedSimpArgs false
/-- No more than is asked. -/
structure Small (n : Nod) : Prop where
  ll : n.list.length ≤ 120
  hi : n.high.length ≤ 100
  ky : ∀ e, e ∈ n.list → e.key.length ≤ 100 ∧ e.val.length ≤ 200
set_option maxRecDepth 100000 in
set_option maxHeartbeats 4000000 in
theorem great_small (n : Nod) (v : Value) (w : World) (hv : NodAt w v n) :
    Calls Tryd.prog 30 #[v] w fun e w' => (e = .returned (.bool true) ∨ (e = .returned (.bool false) ∧ Small n)) ∧ Below w.heap.size w w' := by
  obtain ⟨p, rfl, hp⟩ := hv
  obtain ⟨A1, m1, rfl⟩ := hp.slice
  have hm1 := hp.len.2
  unfold maxLen at hm1
  have HP := Lib.hid hp
  have S := Lib.hid ((Own.none w).alloc (nodCells n (.slice A1 n.list.length m1)) 64).left
  clear hp
  unfold nodCells at *
  have hih : (ofL n.high).size = n.high.length := rfl
  have HIH := Lib.hid hih
  generalize ofL n.high = hi at *
  clear hih
  go_enter Tryd.func30, Tryd.ntmps30
  go_upto_region 1 with fail
  obtain ⟨g, hgz⟩ : ∃ g, g = w.heap.size := ⟨_, rfl⟩
  rw [← hgz] at S ⊢
  clear hgz
  generalize w.alloc _ = w1 at *
  obtain ⟨-, -, -, -, c4, -, c6⟩ := nod_cells (S.out.has (has_blk _ _ _))
  by_cases h1 : 120 < n.list.length
  · go_wp2_with fail
    go_returns
    exact ⟨Or.inl rfl, S.out.bel⟩
  by_cases h2 : 100 < hi.size
  · go_wp2_with fail
    go_returns
    exact ⟨Or.inl rfl, S.out.bel⟩
  have H1 := Lib.hid h1
  have H2 := Lib.hid h2
  go_wp2_with fail
  go_loop [3] (fun i => ∃ k : Nat, k ≤ n.list.length ∧ i = .int .i64 k ∧ Hid (∀ e, e ∈ n.list.take k → e.key.length ≤ 100 ∧ e.val.length ≤ 200)) (fun i => n.list.length - (intOf i).toNat)
  case atStart => exact ⟨0, Nat.zero_le _, rfl, Lib.hid (fun e he => by cases he)⟩
  case round =>
    obtain ⟨k, hk, rfl, hQ⟩ := hrel
    by_cases hlt : k < n.list.length
    · obtain ⟨x, hx⟩ : ∃ x, n.list[k]? = some x := ⟨n.list[k]'(by omega), List.getElem?_eq_getElem _⟩
      obtain ⟨b, ob, rfl, hbl, e0, e1, -⟩ := (HP.out.keep S.out.bel).at hx
      have hst : x.key.length ≤ 100 → x.val.length ≤ 200 → ∀ e, e ∈ n.list.take (k + 1) → e.key.length ≤ 100 ∧ e.val.length ≤ 200 := fun a b e he => by
        rw [List.take_add_one, hx] at he
        rcases List.mem_append.1 he with h | h
        · exact hQ.out e h
        · simp at h; subst h; exact ⟨a, b⟩
      have HST := Lib.hid hst
      have hy : (ofL x.key).size = x.key.length := rfl
      have hz : (ofL x.val).size = x.val.length := rfl
      have HY := Lib.hid hy
      have HZ := Lib.hid hz
      clear hst hy hz
      generalize ofL x.key = y at *
      generalize ofL x.val = z at *
      clear hx
      by_cases h6 : 100 < y.size
      · go_wp2_with fail
        go_returns
        exact ⟨Or.inl rfl, S.out.bel⟩
      by_cases h7 : 200 < z.size
      · go_wp2_with fail
        go_returns
        exact ⟨Or.inl rfl, S.out.bel⟩
      · have hnext := HST.out (by have := HY.out; omega) (by have := HZ.out; omega)
        have HN := Lib.hid hnext
        clear hnext
        go_wp2_with fail
        go_round
        case rel => exact ⟨k + 1, by omega, by go_num, HN⟩
        case measure => simp [intOf]; omega
    · obtain rfl : k = n.list.length := by omega
      go_wp2_with fail
      go_returns
      exact ⟨Or.inr ⟨rfl, by have := H1.out; omega, by have := H2.out; have := HIH.out; omega, by have := hQ.out; rwa [List.take_length] at this⟩, S.out.bel⟩
set_option maxRecDepth 100000 in
set_option maxHeartbeats 4000000 in
theorem refFind_any (n : Nod) (key : By) (v : Value) (w : World) (hv : NodAt w v n) (hs : Small n) (hk : key.length ≤ 100) :
    Calls Tryd.prog 44 #[v, .string (ofL key)] w fun e w' => e = .returned (.int .i64 (lastLe n.list key n.list.length)) ∧ Below w.heap.size w w' := by
  obtain ⟨p, rfl, hp⟩ := hv
  obtain ⟨A1, m1, rfl⟩ := hp.slice
  have hm1 := hp.len.2
  unfold maxLen at hm1
  have HP := Lib.hid hp
  have S := Lib.hid ((Own.none w).alloc (nodCells n (.slice A1 n.list.length m1)) 64).left
  have HS := Lib.hid hs
  have HT := Lib.hid (fun (x : Ent) (hx : x.key.length ≤ 100) w => Texts_q (ofL x.key) (ofL key) w (by show x.key.length ≤ _; unfold maxLen; omega) (by show key.length ≤ _; unfold maxLen; omega))
  generalize hky : ofL key = ky at *
  have HKY := Lib.hid hky
  clear hp hs hky
  unfold nodCells at *
  go_enter Tryd.func44, Tryd.ntmps44
  go_upto_region 1 with fail
  obtain ⟨g, hgz⟩ : ∃ g, g = w.heap.size := ⟨_, rfl⟩
  rw [← hgz] at S ⊢
  clear hgz
  generalize w.alloc _ = w1 at *
  go_wp2_with fail
  go_loopw [5, 6] (fun at_ i wr => ∃ k : Nat, k ≤ n.list.length ∧ i = .int .i64 k ∧ at_ = .int .i64 (lastLe n.list key k) ∧ Hid (Own w No wr (Asn.blk g 64 (nodCells n (.slice A1 n.list.length m1))))) (fun _ i _ => n.list.length - (intOf i).toNat)
  case atStart => exact ⟨0, Nat.zero_le _, rfl, rfl, S⟩
  case round =>
    clear S
    obtain ⟨k, hk, rfl, rfl, X⟩ := hrel
    unfold nodCells at X
    obtain ⟨-, -, -, -, -, -, c6⟩ := nod_cells (X.out.has (has_blk _ _ _))
    by_cases hlt : k < n.list.length
    · obtain ⟨x, hx⟩ : ∃ x, n.list[k]? = some x := ⟨n.list[k]'(by omega), List.getElem?_eq_getElem _⟩
      obtain ⟨b, o, rfl, hbl, a0, -, -⟩ := (HP.out.keep X.out.bel).at hx
      have T := Lib.hid (HT.out x (HS.out.ky x (List.mem_of_getElem? hx)).1)
      have h1 := fun h => lastLe_hit n.list key k x hx h
      have h2 := fun h => lastLe_miss n.list key k x hx h
      have hc := cmp_le x.key key
      rw [show Lib.compareBytes (ofL x.key).data.toList ky.data.toList = Lib.compareBytes x.key key by rw [← HKY.out]; rfl] at T
      generalize Lib.compareBytes x.key key = cv at *
      generalize le x.key key = q at *
      have H1 := Lib.hid h1
      have H2 := Lib.hid h2
      clear h1 h2 hx
      generalize ofL x.key = xk at *
      go_wp2_with fail
      refine (T.out _).mono ?_
      rintro e w2 ⟨rfl, m, rfl⟩
      have X2 := Lib.hid (X.out.drewN m)
      clear X T c6 a0
      generalize wr.drewN m = w3 at *
      cases q with
      | true =>
        have hcc : cv ≤ 0 := of_decide_eq_true hc
        go_wp2_with fail
        go_roundw
        case rel => exact ⟨k + 1, by omega, by go_num, by rw [H1.out (by first | rfl | trivial)], X2⟩
        case measure => simp [intOf]; omega
      | false =>
        have hcc : ¬ cv ≤ 0 := of_decide_eq_false hc
        go_wp2_with fail
        go_roundw
        case rel => exact ⟨k + 1, by omega, by go_num, by rw [H2.out (by first | rfl | trivial)], X2⟩
        case measure => simp [intOf]; omega
    · obtain rfl : k = n.list.length := by omega
      go_wp2_with fail
      go_returns
      exact ⟨rfl, X.out.bel⟩
set_option maxRecDepth 100000 in
set_option maxHeartbeats 8000000 in
theorem Equal_any (a b : List Ent) (va vb : Value) (w : World) (hva : Row3 w va a) (hvb : Row3 w vb b) :
    Calls Tryd.prog 71 #[va, vb] w fun e w' => e = .returned (.bool (decide (a = b))) ∧ Below w.heap.size w w' := by
  obtain ⟨A1, m1, rfl⟩ := hva.slice
  obtain ⟨B1, n1, rfl⟩ := hvb.slice
  have hm1 := hva.len.2
  have hn1 := hvb.len.2
  unfold maxLen at hm1 hn1
  have HP := Lib.hid hva
  have HP' := Lib.hid hvb
  obtain ⟨R, hR⟩ : ∃ R : Bool, R = decide (a = b) := ⟨_, rfl⟩
  rw [← hR]
  have HR := Lib.hid hR
  obtain ⟨La, la⟩ : ∃ n, n = a.length := ⟨_, rfl⟩
  obtain ⟨Lb, lb⟩ : ∃ n, n = b.length := ⟨_, rfl⟩
  rw [← la] at hm1 HP
  rw [← lb] at hn1 HP'
  rw [← la, ← lb]
  have LA := Lib.hid la
  have LB := Lib.hid lb
  have hk1 : ∀ x y : By, ¬ x = y → ((ofL x).toList == (ofL y).toList) = false := fun x y h => by rw [str_eq, decide_eq_false (fun e => h (ofL_inj e))]
  have HK := Lib.hid hk1
  have S := Lib.hid (Own.none w)
  clear hk1 hR la lb hva hvb
  go_enter Tryd.func71, Tryd.ntmps71
  by_cases q : La = Lb
  case neg =>
    go_wp2_with fail
    go_returns
    exact ⟨ret_bool (by rw [HR.out, decide_eq_false]; exact fun h => q (by rw [LA.out, LB.out, h])), Below.refl _ _⟩
  subst q
  go_wp2_with fail
  go_loopw [13] (fun i wr => ∃ k : Nat, k ≤ La ∧ i = .int .i64 k ∧ Hid (a.take k = b.take k) ∧ Hid (Own w No wr Asn.emp)) (fun i _ => La - (intOf i).toNat)
  case atStart => exact ⟨0, Nat.zero_le _, rfl, Lib.hid rfl, S⟩
  case round =>
    clear S
    obtain ⟨k, hk, rfl, hT, S⟩ := hrel
    by_cases hlt : k < La
    · have hla := LA.out
      have hlb := LB.out
      obtain ⟨x, hx⟩ : ∃ x, a[k]? = some x := ⟨a[k]'(by omega), List.getElem?_eq_getElem _⟩
      obtain ⟨y, hy⟩ : ∃ x, b[k]? = some x := ⟨b[k]'(by omega), List.getElem?_eq_getElem _⟩
      clear hla hlb
      obtain ⟨ba, oa, rfl, hba, x0, x1, x2⟩ := (HP.out.keep S.out.bel).at hx
      obtain ⟨bb, ob, rfl, hbb, y0, y1, y2⟩ := (HP'.out.keep S.out.bel).at hy
      obtain ⟨xa, xb, xc⟩ := x
      obtain ⟨ya, yb, yc⟩ := y
      dsimp only at x0 x1 x2 y0 y1 y2
      have TS := Lib.hid (take_step a b k _ _ hx hy hT.out)
      have NA := Lib.hid (not_at a b k _ _ hx hy)
      clear hx hy hT
      by_cases q1 : xa = ya
      case neg =>
        have hq := HK.out _ _ q1
        go_wp2_with fail
        go_quiet (fail)
        have S2 := Lib.hid (S.out.drewN nq)
        clear S x0 x1 x2 y0 y1 y2
        generalize wr.drewN nq = w2 at *
        go_wp2_with fail
        go_returns
        exact ⟨ret_bool (by rw [HR.out, decide_eq_false]; exact NA.out (fun e => q1 (congrArg Ent.key e))), S2.out.bel⟩
      subst q1
      by_cases q2 : xb = yb
      case neg =>
        have hq := HK.out _ _ q2
        go_wp2_with fail
        go_quiet (fail)
        have S2 := Lib.hid (S.out.drewN nq)
        clear S x0 x1 x2 y0 y1 y2
        generalize wr.drewN nq = w2 at *
        go_wp2_with fail
        go_returns
        exact ⟨ret_bool (by rw [HR.out, decide_eq_false]; exact NA.out (fun e => q2 (congrArg Ent.val e))), S2.out.bel⟩
      subst q2
      by_cases q3 : xc = yc
      case neg =>
        cases xc <;> cases yc <;> first | exact absurd rfl q3 | skip
        all_goals
          go_wp2_with fail
          go_quiet (fail)
          have S2 := Lib.hid (S.out.drewN nq)
          clear S x0 x1 x2 y0 y1 y2
          generalize wr.drewN nq = w2 at *
          go_wp2_with fail
          go_returns
          exact ⟨ret_bool (by rw [HR.out, decide_eq_false]; exact NA.out (fun e => q3 (congrArg Ent.ghost e))), S2.out.bel⟩
      subst q3
      have TT := Lib.hid (TS.out rfl)
      clear TS NA
      go_wp2_with fail
      go_quiet (fail)
      have S2 := Lib.hid (S.out.drewN nq)
      clear S x0 x1 x2 y0 y1 y2
      generalize wr.drewN nq = w2 at *
      go_wp2_with fail
      go_round
      case rel => exact ⟨k + 1, by omega, by go_num, TT, S2⟩
      case measure => simp [intOf]; omega
    · have hke : k = La := by omega
      have EQ5 := Lib.hid (take_full a b k (hke.trans LA.out) (hke.trans LB.out) hT.out)
      clear hke
      go_wp2_with fail
      go_returns
      exact ⟨ret_bool (by rw [HR.out, EQ5.out]; simp), S.out.bel⟩
end Go.Proofs.YtmibcodobicmnaaDoor.Nd
