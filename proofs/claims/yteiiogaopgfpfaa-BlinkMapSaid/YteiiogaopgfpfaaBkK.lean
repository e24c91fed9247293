/- Texts of ours, joined. -/
import Derived.Test.YteiiogaopgfpfaaBkI
import Derived.Test.YteiiogaopgfpfaaBkJ
import Derived.Deep.CutBlock
import Derived.Deep.DeepCutAuto

-- joined
section
namespace Go.Proofs.Yteiiogaopgfpfaa.Bk
open Go.ChangeShapes Go.WideShapes Go.ChangeAt Go.RowKit Go.PlainAid Aid Nt Nd Tr
set_option linter.unusedVariables false
set_option linter.unusedSimpArgs false
set_option linter.unusedSectionVars false
/-- Where a key stands, or would, and whether it does. -/
def plc (n : Nod) (key : By) : Int × Bool :=
  if 0 ≤ lastLe n.list key n.list.length then (match n.list[(lastLe n.list key n.list.length).toNat]? with
    | some e => if e.key = key then (lastLe n.list key n.list.length, true) else (lastLe n.list key n.list.length + 1, false)
    | none => (lastLe n.list key n.list.length + 1, false)) else (lastLe n.list key n.list.length + 1, false)
theorem plc_hit {n : Nod} {key : By} {q : Nat} {e : Ent} (h : lastLe n.list key n.list.length = q) (he : n.list[q]? = some e) (hk : e.key = key) : plc n key = ((q : Int), true) := by
  unfold plc
  rw [h, if_pos (by omega), Int.toNat_natCast, he]
  dsimp only
  rw [if_pos hk]
theorem plc_miss {n : Nod} {key : By} {q : Nat} {e : Ent} (h : lastLe n.list key n.list.length = q) (he : n.list[q]? = some e) (hk : e.key ≠ key) : plc n key = ((q : Int) + 1, false) := by
  unfold plc
  rw [h, if_pos (by omega), Int.toNat_natCast, he]
  dsimp only
  rw [if_neg hk]
theorem lastLe_ge (l : List Ent) (key : By) : ∀ k, -1 ≤ lastLe l key k
  | 0 => by unfold lastLe; omega
  | k + 1 => by
    have := lastLe_ge l key k
    unfold lastLe
    split
    · split <;> omega
    · omega
theorem plc_none {n : Nod} {key : By} (h : lastLe n.list key n.list.length < 0) : plc n key = (0, false) := by
  have := lastLe_ge n.list key n.list.length
  unfold plc
  rw [if_neg (by omega), show lastLe n.list key n.list.length + 1 = 0 by omega]
set_option maxRecDepth 100000 in
set_option maxHeartbeats 4000000 in
theorem place_any (n : Nod) (key : By) (v : Value) (w : World) (hv : NodAt w v n) :
    Calls Try.prog 42 #[v, .string (ofL key)] w fun e w' => e = .returned (.tuple #[.int .i64 (plc n key).1, .bool (plc n key).2]) ∧ Below w.heap.size w w' := by
  have HFd := Lib.hid (fun W (hb : Below w.heap.size w W) => Find_any n key v W (hv.keep hb))
  obtain ⟨p, rfl, hp⟩ := hv
  obtain ⟨A1, m1, rfl⟩ := hp.slice
  have hm1 := hp.len.2
  unfold maxLen at hm1
  have HP := Lib.hid hp
  have S := Lib.hid ((Own.none w).alloc (nodCells n (.slice A1 n.list.length m1)) 52).left
  obtain ⟨q, hq⟩ : ∃ q, q = lastLe n.list key n.list.length := ⟨_, rfl⟩
  have HQ := Lib.hid hq
  have hql : q < n.list.length := by rw [hq]; exact lastLe_lt ..
  have hqg : -1 ≤ q := by rw [hq]; exact lastLe_ge ..
  rw [← hq] at HFd
  obtain ⟨pr, hpr⟩ : ∃ r, r = plc n key := ⟨_, rfl⟩
  rw [← hpr]
  have HPR := Lib.hid hpr
  clear hp hq hpr
  unfold nodCells at *
  go_enter Try.func42, Try.ntmps42
  go_upto_region 1 with fail
  obtain ⟨g, hgz⟩ : ∃ g, g = w.heap.size := ⟨_, rfl⟩
  rw [← hgz] at S ⊢
  clear hgz
  generalize w.alloc _ = w1 at *
  obtain ⟨c0, c1, c2, c3, c4, c5, c6⟩ := nod_cells (S.out.has (has_blk _ _ _))
  go_wp2_with fail
  refine (HFd.out _ S.out.bel).mono ?_
  rintro r w2 ⟨rfl, hX⟩
  have S1 := Lib.hid (S.out.below hX)
  clear hX S HFd c0 c1 c2 c3 c4 c5 c6
  obtain ⟨c0, c1, c2, c3, c4, c5, c6⟩ := nod_cells (S1.out.has (has_blk _ _ _))
  by_cases h0 : q < 0
  · have d0 : decide (0 ≤ q) = false := decide_eq_false (by omega)
    have hpl : pr = (0, false) := HPR.out.trans (plc_none (by rw [← HQ.out]; exact h0))
    subst hpl
    obtain rfl : q = -1 := by omega
    clear HPR HQ h0
    go_wp2_with fail
    go_returns
    exact ⟨rfl, S1.out.bel⟩
  · have d0 : decide (0 ≤ q) = true := decide_eq_true (by omega)
    obtain ⟨k, rfl⟩ : ∃ k : Nat, q = k := ⟨q.toNat, by omega⟩
    obtain ⟨x, hx⟩ : ∃ x, n.list[k]? = some x := ⟨n.list[k]'(by omega), List.getElem?_eq_getElem _⟩
    obtain ⟨b, o, rfl, hbl, a0, -, -⟩ := (HP.out.keep S1.out.bel).at hx
    have hkq : ((ofL x.key).toList == (ofL key).toList) = decide (x.key = key) := (str_eq _ _).trans (decide_eq_decide.2 ⟨fun h => Bk.ofL_inj h, fun h => by rw [h]⟩)
    have hk1 : (k : Int) + 1 ≤ 9223372036854775807 := by omega
    by_cases hk : x.key = key
    · have hpl : pr = ((k : Int), true) := HPR.out.trans (plc_hit HQ.out.symm hx hk)
      subst hpl
      rw [decide_eq_true hk] at hkq
      clear HPR HQ h0 hx hk
      go_wp2_with fail
      go_returns
      exact ⟨rfl, S1.out.bel⟩
    · have hpl : pr = ((k : Int) + 1, false) := HPR.out.trans (plc_miss HQ.out.symm hx hk)
      subst hpl
      rw [decide_eq_false hk] at hkq
      clear HPR HQ h0 hx hk
      go_wp2_with fail
      go_returns
      exact ⟨rfl, S1.out.bel⟩
theorem res7a {fn : Func} {x : Nat} {tm : Array Value} {w : World} {g : Nat} {a0 a1 a2 a3 a4 a5 a6 : Value} (hf : fn.results = #[.cell x 52]) (hx : tm[x]?.getD undef = .pointer (some ⟨g, 0, none⟩))
    (hB : Blk w g 52 #[a0, a1, a2, a3, a4, a5, a6]) : (results fn tm).run Try.prog w = .ok (.agg #[a0, a1, a2, a3, a4, a5, a6]) w := by
  obtain ⟨⟨c0, c1, c2, c3, c4, c5, c6⟩, -⟩ := seven hB
  clear hB
  unfold results
  rw [hf]
  simp [go_sem, hx, c0, c1, c2, c3, c4, c5, c6]
theorem cells3_erase (l : List Ent) (q : Nat) : cells3 (l.eraseIdx q) = (cells3 l).take (q * 3) ++ (cells3 l).drop ((q + 1) * 3) := by
  induction l generalizing q with
  | nil => simp [cells3]
  | cons a l ih =>
    cases q with
    | zero => rfl
    | succ q =>
      rw [List.eraseIdx_cons_succ]
      have e : ∀ m, cells3 (a :: m) = .string (ofL a.key) :: .string (ofL a.val) :: .bool a.ghost :: cells3 m := fun _ => rfl
      rw [e, e, ih, show (q + 1 + 1) * 3 = (q + 1) * 3 + 1 + 1 + 1 by omega, List.drop_succ_cons, List.drop_succ_cons, List.drop_succ_cons, show (q + 1) * 3 = q * 3 + 1 + 1 + 1 by omega, List.take_succ_cons, List.take_succ_cons, List.take_succ_cons]
      rfl
set_option maxRecDepth 100000 in
set_option maxHeartbeats 8000000 in
theorem without_any (n : Nod) (p : Value) (q : Nat) (w : World) (h : Row3 w p n.list) (hl : n.list.length ≤ 100000) (hq : q < n.list.length) :
    Calls Try.prog 49 #[.agg (nodCells n p), .int .i64 q] w fun e w' => ∃ p', e = .returned (.agg (nodCells { n with list := n.list.eraseIdx q } p')) ∧ Own w No w' (aEnts { n with list := n.list.eraseIdx q } p') := by
  have HC := Lib.hid (fun W (hb : Below w.heap.size w W) => clone_ents p n.list W (h.keep hb) hl)
  have S := Lib.hid (((Own.none w).alloc (nodCells n p) 52).alloc zero7 52)
  have hE := cells3_erase n.list q
  have hel : (n.list.eraseIdx q).length = n.list.length - 1 := List.length_eraseIdx_of_lt hq
  have HE := Lib.hid hE
  have HEL := Lib.hid hel
  clear hE hel
  unfold aEnts
  unfold nodCells zero7 at *
  dsimp only at *
  obtain ⟨Ap, cp, rfl⟩ := h.slice
  clear h
  go_enter Try.func49, Try.ntmps49
  go_upto_region 1 with fail
  rw [show (w.alloc (.cells #[.int .i64 n.tree, .int .i64 n.level, .int .i64 n.stamp, .bool n.has, .string (ofL n.high), .int .i64 n.right, .slice Ap n.list.length cp] 52)).heap.size = w.heap.size + 1 by simp] at S
  obtain ⟨g, hgz⟩ : ∃ g, g = w.heap.size := ⟨_, rfl⟩
  have HGz := Lib.hid hgz
  rw [← hgz] at S ⊢
  clear hgz
  generalize World.alloc _ _ = w2 at *
  obtain ⟨⟨c0, c1, c2, c3, c4, c5, c6⟩, f0, f1, f2, f3, f4, f5, f6⟩ := seven7 (S.out.has (Has.r (Has.l (has_blk _ _ _))))
  go_wp2_with fail
  refine (HC.out _ S.out.bel).mono ?_
  rintro e w3 ⟨p', rfl, hX⟩
  have T := Lib.hid (own_join S.out hX)
  clear hX S HC c0 c1 c2 c3 c4 c5 c6 f0 f1 f2 f3 f4 f5 f6
  obtain ⟨b, cb, rfl, hcb⟩ : ∃ b cb, p' = .slice (some ⟨b, 0, none⟩) n.list.length cb ∧ n.list.length ≤ cb := by
    rcases T.out.vec.forms with ⟨-, hz⟩ | ⟨g, cap, h, -, h1, h2⟩
    · omega
    · exact ⟨_, _, h, h1⟩
  have HD := Lib.hid (del_entry b n.list.length cb q (cells3 n.list) w3 hq T.out.vec (ents_one _))
  have hq1 : (q : Int) + 1 ≤ 9223372036854775807 := by omega
  go_wp2_with fail
  refine HD.out.mono ?_
  rintro e w4 ⟨rfl, hv, hc⟩
  have T2 := Lib.hid (T.out.app hv (hc.mono (fun k _ hk => by rw [hk]; rfl)) (fun k hk => Or.inl hk))
  clear hv hc T HD
  obtain ⟨⟨c0, c1, c2, c3, c4, c5, c6⟩, f0, f1, f2, f3, f4, f5, f6⟩ := seven7 (T2.out.has (Has.r (Has.r (Has.l (has_blk _ _ _)))))
  obtain ⟨⟨d0, d1, d2, d3, d4, d5, d6⟩, k0, k1, k2, k3, k4, k5, k6⟩ := seven7 (T2.out.has (Has.r (Has.l (has_blk _ _ _))))
  go_wp2_with fail
  have T3 := Lib.hid (own_seven (own_front (T2.out.set (Sets.r (Sets.r (Sets.l (sets_blk g 52 _ 6 (.slice (some ⟨b, 0, none⟩) (n.list.length - 1) cb))))))) (.int .i64 n.tree) (.int .i64 n.level) (.int .i64 n.stamp) (.bool n.has) (.string (ofL n.high)) (.int .i64 n.right) (.slice (some ⟨b, 0, none⟩) (n.list.length - 1) cb))
  clear T2 c0 c1 c2 c3 c4 c5 c6 d0 d1 d2 d3 d4 d5 d6 f0 f1 f2 f3 f4 f5 f6 k0 k1 k2 k3 k4 k5 k6
  generalize World.setCell (World.setCell (World.setCell (World.setCell (World.setCell (World.setCell (World.setCell (World.setCell w4 _ _) _ _) _ _) _ _) _ _) _ _) _ _) _ _ = w5 at *
  refine bodyPost_ret (res7a rfl rfl (T3.out.has (Has.l (has_blk _ _ _)))) rfl ⟨.slice (some ⟨b, 0, none⟩) (n.list.length - 1) cb, rfl, ?_⟩
  rw [HEL.out, HE.out]
  exact T3.out.right.left
end Go.Proofs.Yteiiogaopgfpfaa.Bk
end

-- joined
section
namespace Go.Proofs.Yteiiogaopgfpfaa.Bk
open Go.ChangeShapes Go.WideShapes Go.ChangeAt Go.RowKit Go.PlainAid Aid Nt Nd Tr
set_option linter.unusedVariables false
set_option linter.unusedSimpArgs false
set_option linter.unusedSectionVars false
set_option maxRecDepth 100000 in
set_option maxHeartbeats 8000000 in
theorem joined_any (n m : Nod) (p p2 : Value) (w : World) (h : Row3 w p n.list) (h2 : Row3 w p2 m.list) (hl : n.list.length ≤ 100000) :
    Calls Try.prog 48 #[.agg (nodCells n p), .agg (nodCells m p2)] w fun e w' => ∃ p', e = .returned (.agg (nodCells { n with has := m.has, high := m.high, right := m.right } p')) ∧ Own w No w' (aEnts { n with has := m.has, high := m.high, right := m.right } p') := by
  have HC := Lib.hid (fun W (hb : Below w.heap.size w W) => clone_ents p n.list W (h.keep hb) hl)
  have S := Lib.hid ((((Own.none w).alloc (nodCells n p) 52).alloc (nodCells m p2) 52).alloc zero7 52)
  unfold aEnts
  unfold nodCells zero7 at *
  dsimp only at *
  obtain ⟨Ap, cp, rfl⟩ := h.slice
  obtain ⟨Aq, cq, rfl⟩ := h2.slice
  clear h h2
  go_enter Try.func48, Try.ntmps48
  go_upto_region 1 with fail
  rw [show ((w.alloc (.cells #[.int .i64 n.tree, .int .i64 n.level, .int .i64 n.stamp, .bool n.has, .string (ofL n.high), .int .i64 n.right, .slice Ap n.list.length cp] 52)).alloc (.cells #[.int .i64 m.tree, .int .i64 m.level, .int .i64 m.stamp, .bool m.has, .string (ofL m.high), .int .i64 m.right, .slice Aq m.list.length cq] 52)).heap.size = w.heap.size + 1 + 1 by simp] at S
  rw [show (w.alloc (.cells #[.int .i64 n.tree, .int .i64 n.level, .int .i64 n.stamp, .bool n.has, .string (ofL n.high), .int .i64 n.right, .slice Ap n.list.length cp] 52)).heap.size = w.heap.size + 1 by simp] at S
  obtain ⟨g, hgz⟩ : ∃ g, g = w.heap.size := ⟨_, rfl⟩
  have HGz := Lib.hid hgz
  rw [← hgz] at S ⊢
  clear hgz
  generalize World.alloc _ _ = w2 at *
  obtain ⟨⟨c0, c1, c2, c3, c4, c5, c6⟩, f0, f1, f2, f3, f4, f5, f6⟩ := seven7 (S.out.has (Has.r (Has.r (Has.l (has_blk _ _ _)))))
  go_wp2_with fail
  refine (HC.out _ S.out.bel).mono ?_
  rintro e w3 ⟨p', rfl, hX⟩
  have T := Lib.hid (own_join S.out hX)
  clear hX S HC c0 c1 c2 c3 c4 c5 c6 f0 f1 f2 f3 f4 f5 f6
  obtain ⟨A', c', rfl⟩ := T.out.vec.slice
  obtain ⟨⟨c0, c1, c2, c3, c4, c5, c6⟩, f0, f1, f2, f3, f4, f5, f6⟩ := seven7 (T.out.has (Has.r (Has.r (Has.r (Has.l (has_blk _ _ _))))))
  obtain ⟨⟨e0, e1, e2, e3, e4, e5, e6⟩, -⟩ := seven7 (T.out.has (Has.r (Has.r (Has.l (has_blk _ _ _)))))
  obtain ⟨⟨d0, d1, d2, d3, d4, d5, d6⟩, k0, k1, k2, k3, k4, k5, k6⟩ := seven7 (T.out.has (Has.r (Has.l (has_blk _ _ _))))
  have TF := Lib.hid (((((T.out.set (Sets.r (Sets.r (Sets.r (Sets.l (sets_blk g 52 _ 6 (.slice A' n.list.length c'))))))).set (Sets.r (Sets.r (Sets.r (Sets.l (sets_blk g 52 _ 3 (.bool m.has))))))).set (Sets.r (Sets.r (Sets.r (Sets.l (sets_blk g 52 _ 4 (.string (ofL m.high)))))))).set (Sets.r (Sets.r (Sets.r (Sets.l (sets_blk g 52 _ 5 (.int .i64 m.right))))))).drew)
  simp only [List.setIfInBounds_toArray, List.set_cons_zero, List.set_cons_succ] at TF
  go_upto_region 2 with fail
  go_cut [] (fun wx => Hid (Own w No wx (Asn.vec 44 3 (.slice A' n.list.length c') n.list.length (cells3 n.list) * (Asn.blk (g + 1 + 1) 52 #[.int .i64 0, .int .i64 0, .int .i64 0, .bool false, .string ⟨#[]⟩, .int .i64 0, .slice none 0 0] * (Asn.blk (g + 1) 52 #[.int .i64 m.tree, .int .i64 m.level, .int .i64 m.stamp, .bool m.has, .string (ofL m.high), .int .i64 m.right, .slice Aq m.list.length cq] * (Asn.blk g 52 #[.int .i64 n.tree, .int .i64 n.level, .int .i64 n.stamp, .bool m.has, .string (ofL m.high), .int .i64 m.right, .slice A' n.list.length c'] * Asn.emp))))))
  case first =>
    go_region_law fail
    all_goals
      go_wp2_with fail
      go_meet
      case rel => exact TF
  case rest =>
  clear TF T c0 c1 c2 c3 c4 c5 c6 d0 d1 d2 d3 d4 d5 d6 f0 f1 f2 f3 f4 f5 f6 k0 k1 k2 k3 k4 k5 k6 e0 e1 e2 e3 e4 e5 e6
  have T2 := hcut
  obtain ⟨⟨c0, c1, c2, c3, c4, c5, c6⟩, -⟩ := seven7 (T2.out.has (Has.r (Has.r (Has.r (Has.l (has_blk _ _ _))))))
  obtain ⟨⟨d0, d1, d2, d3, d4, d5, d6⟩, k0, k1, k2, k3, k4, k5, k6⟩ := seven7 (T2.out.has (Has.r (Has.l (has_blk _ _ _))))
  go_wp2_with fail
  have T3 := Lib.hid (own_seven (own_front T2.out) (.int .i64 n.tree) (.int .i64 n.level) (.int .i64 n.stamp) (.bool m.has) (.string (ofL m.high)) (.int .i64 m.right) (.slice A' n.list.length c'))
  clear T2 hcut c0 c1 c2 c3 c4 c5 c6 d0 d1 d2 d3 d4 d5 d6 k0 k1 k2 k3 k4 k5 k6
  generalize World.setCell (World.setCell (World.setCell (World.setCell (World.setCell (World.setCell (World.setCell _ _ _) _ _) _ _) _ _) _ _) _ _) _ _ = w5 at *
  exact bodyPost_ret (res7a rfl rfl (T3.out.has (Has.l (has_blk _ _ _)))) rfl ⟨.slice A' n.list.length c', rfl, T3.out.right.left⟩
end Go.Proofs.Yteiiogaopgfpfaa.Bk
end
