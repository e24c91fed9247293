/- Texts of ours, joined. -/
import Derived.Test.YthoaangmekkcmaaBkI
import Derived.Test.YthoaangmekkcmaaBkJ
import Derived.Deep.CutBlock
import Derived.Deep.DeepCutAuto
import Derived.Test.YthoaangmekkcmaaVec
import Derived.Deep.MidRow

-- joined
section
namespace Go.Proofs.Ythoaangmekkcmaa.Bk
open Go.ChangeShapes Go.WideShapes Go.ChangeAt Go.RowKit Go.PlainAid Aid Nt Nd Tr
set_option linter.unusedVariables false
set_option linter.unusedSimpArgs false
set_option linter.unusedSectionVars false
/-- Where a key stands, or would, and whether it does. -/
def plc (n : Nod) (key : By) : Int × Bool :=
  if 0 ≤ lastLe n.list key n.list.length then (match n.list[(lastLe n.list key n.list.length).toNat]? with
    | some e => if e.key = key then (lastLe n.list key n.list.length, true) else (lastLe n.list key n.list.length + 1, false)
    | none => (lastLe n.list key n.list.length + 1, false)) else (lastLe n.list key n.list.length + 1, false)
theorem plc_hit {n : Nod} {key : By} {q : Nat} {e : Ent} (h : lastLe n.list key n.list.length = q) (he : n.list[q]? = some e) (hk : e.key = key) : plc n key = ((q : Int), true) := by
  unfold plc
  rw [h, if_pos (by omega), Int.toNat_natCast, he]
  dsimp only
  rw [if_pos hk]
theorem plc_miss {n : Nod} {key : By} {q : Nat} {e : Ent} (h : lastLe n.list key n.list.length = q) (he : n.list[q]? = some e) (hk : e.key ≠ key) : plc n key = ((q : Int) + 1, false) := by
  unfold plc
  rw [h, if_pos (by omega), Int.toNat_natCast, he]
  dsimp only
  rw [if_neg hk]
theorem lastLe_ge (l : List Ent) (key : By) : ∀ k, -1 ≤ lastLe l key k
  | 0 => by unfold lastLe; omega
  | k + 1 => by
    have := lastLe_ge l key k
    unfold lastLe
    split
    · split <;> omega
    · omega
theorem plc_none {n : Nod} {key : By} (h : lastLe n.list key n.list.length < 0) : plc n key = (0, false) := by
  have := lastLe_ge n.list key n.list.length
  unfold plc
  rw [if_neg (by omega), show lastLe n.list key n.list.length + 1 = 0 by omega]
set_option maxRecDepth 100000 in
set_option maxHeartbeats 4000000 in
theorem place_any (n : Nod) (key : By) (v : Value) (w : World) (hv : NodAt w v n) :
    Calls Try.prog 44 #[v, .string (ofL key)] w fun e w' => e = .returned (.tuple #[.int .i64 (plc n key).1, .bool (plc n key).2]) ∧ Below w.heap.size w w' := by
  have HFd := Lib.hid (fun W (hb : Below w.heap.size w W) => Find_any n key v W (hv.keep hb))
  obtain ⟨p, rfl, hp⟩ := hv
  obtain ⟨A1, m1, rfl⟩ := hp.slice
  have hm1 := hp.len.2
  unfold maxLen at hm1
  have HP := Lib.hid hp
  have S := Lib.hid ((Own.none w).alloc (nodCells n (.slice A1 n.list.length m1)) 52).left
  obtain ⟨q, hq⟩ : ∃ q, q = lastLe n.list key n.list.length := ⟨_, rfl⟩
  have HQ := Lib.hid hq
  have hql : q < n.list.length := by rw [hq]; exact lastLe_lt ..
  have hqg : -1 ≤ q := by rw [hq]; exact lastLe_ge ..
  rw [← hq] at HFd
  obtain ⟨pr, hpr⟩ : ∃ r, r = plc n key := ⟨_, rfl⟩
  rw [← hpr]
  have HPR := Lib.hid hpr
  clear hp hq hpr
  unfold nodCells at *
  go_enter Try.func44, Try.ntmps44
  go_upto_region 1 with fail
  obtain ⟨g, hgz⟩ : ∃ g, g = w.heap.size := ⟨_, rfl⟩
  rw [← hgz] at S ⊢
  clear hgz
  generalize w.alloc _ = w1 at *
  obtain ⟨c0, c1, c2, c3, c4, c5, c6⟩ := nod_cells (S.out.has (has_blk _ _ _))
  go_wp2_with fail
  refine (HFd.out _ S.out.bel).mono ?_
  rintro r w2 ⟨rfl, hX⟩
  have S1 := Lib.hid (S.out.below hX)
  clear hX S HFd c0 c1 c2 c3 c4 c5 c6
  obtain ⟨c0, c1, c2, c3, c4, c5, c6⟩ := nod_cells (S1.out.has (has_blk _ _ _))
  by_cases h0 : q < 0
  · have d0 : decide (0 ≤ q) = false := decide_eq_false (by omega)
    have hpl : pr = (0, false) := HPR.out.trans (plc_none (by rw [← HQ.out]; exact h0))
    subst hpl
    obtain rfl : q = -1 := by omega
    clear HPR HQ h0
    go_wp2_with fail
    go_returns
    exact ⟨rfl, S1.out.bel⟩
  · have d0 : decide (0 ≤ q) = true := decide_eq_true (by omega)
    obtain ⟨k, rfl⟩ : ∃ k : Nat, q = k := ⟨q.toNat, by omega⟩
    obtain ⟨x, hx⟩ : ∃ x, n.list[k]? = some x := ⟨n.list[k]'(by omega), List.getElem?_eq_getElem _⟩
    obtain ⟨b, o, rfl, hbl, a0, -, -⟩ := (HP.out.keep S1.out.bel).at hx
    have hkq : ((ofL x.key).toList == (ofL key).toList) = decide (x.key = key) := (str_eq _ _).trans (decide_eq_decide.2 ⟨fun h => Bk.ofL_inj h, fun h => by rw [h]⟩)
    have hk1 : (k : Int) + 1 ≤ 9223372036854775807 := by omega
    by_cases hk : x.key = key
    · have hpl : pr = ((k : Int), true) := HPR.out.trans (plc_hit HQ.out.symm hx hk)
      subst hpl
      rw [decide_eq_true hk] at hkq
      clear HPR HQ h0 hx hk
      go_wp2_with fail
      go_returns
      exact ⟨rfl, S1.out.bel⟩
    · have hpl : pr = ((k : Int) + 1, false) := HPR.out.trans (plc_miss HQ.out.symm hx hk)
      subst hpl
      rw [decide_eq_false hk] at hkq
      clear HPR HQ h0 hx hk
      go_wp2_with fail
      go_returns
      exact ⟨rfl, S1.out.bel⟩
theorem res7a {fn : Func} {x : Nat} {tm : Array Value} {w : World} {g : Nat} {a0 a1 a2 a3 a4 a5 a6 : Value} (hf : fn.results = #[.cell x 52]) (hx : tm[x]?.getD undef = .pointer (some ⟨g, 0, none⟩))
    (hB : Blk w g 52 #[a0, a1, a2, a3, a4, a5, a6]) : (results fn tm).run Try.prog w = .ok (.agg #[a0, a1, a2, a3, a4, a5, a6]) w := by
  obtain ⟨⟨c0, c1, c2, c3, c4, c5, c6⟩, -⟩ := seven hB
  clear hB
  unfold results
  rw [hf]
  simp [go_sem, hx, c0, c1, c2, c3, c4, c5, c6]
end Go.Proofs.Ythoaangmekkcmaa.Bk
end

-- joined
section
namespace Go.Proofs.Ythoaangmekkcmaa.Bk
open Go.ChangeShapes Go.WideShapes Go.ChangeAt Go.RowKit Go.PlainAid Aid Nt Nd Tr
set_option linter.unusedVariables false
set_option linter.unusedSimpArgs false
set_option linter.unusedSectionVars false
end Go.Proofs.Ythoaangmekkcmaa.Bk
end

-- joined
section
namespace Go.Proofs.Ythoaangmekkcmaa.Bk
open Go.ChangeShapes Go.WideShapes Go.ChangeAt Go.RowKit Go.PlainAid Aid Nt Nd Tr
set_option linter.unusedVariables false
set_option linter.unusedSimpArgs false
set_option linter.unusedSectionVars false
theorem plc_form (n : Nod) (key : By) : ∃ (i : Nat) (b : Bool), plc n key = ((i : Int), b) ∧ (b = true → i < n.list.length) ∧ i ≤ n.list.length := by
  have h1 := lastLe_lt n.list key n.list.length
  have h2 := lastLe_ge n.list key n.list.length
  by_cases h0 : lastLe n.list key n.list.length < 0
  · exact ⟨0, false, plc_none h0, (fun h => by cases h), Nat.zero_le _⟩
  · obtain ⟨q, hq⟩ : ∃ q : Nat, lastLe n.list key n.list.length = q := ⟨_, (Int.toNat_of_nonneg (by omega)).symm⟩
    have hql : q < n.list.length := by omega
    have he : n.list[q]? = some (n.list[q]'hql) := List.getElem?_eq_getElem hql
    by_cases hk : (n.list[q]'hql).key = key
    · exact ⟨q, true, plc_hit hq he hk, fun _ => hql, by omega⟩
    · exact ⟨q + 1, false, plc_miss hq he hk, (fun h => by cases h), by omega⟩
/-- A list in which an entry stands at a place, in another one's, or between. -/
def wl (l : List Ent) (e : Ent) (i : Nat) (hit : Bool) : List Ent := if hit then l.set i e else l.take i ++ e :: l.drop i
def wth (n : Nod) (e : Ent) : Nod := { n with list := wl n.list e (plc n e.key).1.toNat (plc n e.key).2 }
theorem cells3_app (a b : List Ent) : cells3 (a ++ b) = cells3 a ++ cells3 b := List.flatMap_append ..
theorem cells3_take (l : List Ent) (i : Nat) (h : i ≤ l.length) : cells3 l = cells3 (l.take i) ++ cells3 (l.drop i) ∧ (cells3 (l.take i)).length = i * 3 := by
  constructor
  · rw [← cells3_app, List.take_append_drop]
  · rw [show (cells3 (l.take i)).length = (l.take i).length * 3 from ?_, List.length_take, Nat.min_eq_left h]
    generalize l.take i = m
    induction m with
    | nil => rfl
    | cons a m ih => simp only [cells3, List.flatMap_cons, List.length_append, List.length_cons, List.length_nil] at ih ⊢; omega
theorem cells3_wl (l : List Ent) (e : Ent) (i : Nat) (hit : Bool) (h1 : hit = true → i < l.length) (h : i ≤ l.length) :
    cells3 (wl l e i hit) = (cells3 l).take (i * 3) ++ [.string (ofL e.key), .string (ofL e.val), .bool e.ghost] ++ (cells3 l).drop (i * 3 + if hit then 3 else 0) := by
  obtain ⟨e1, e2⟩ := cells3_take l i h
  have e3 : ∀ m, cells3 (e :: m) = [.string (ofL e.key), .string (ofL e.val), .bool e.ghost] ++ cells3 m := fun _ => rfl
  have e4 : (cells3 l).take (i * 3) = cells3 (l.take i) := by
    rw [← e2]
    conv => lhs; rw [e1]
    exact List.take_left
  have e5 : (cells3 l).drop (i * 3) = cells3 (l.drop i) := by
    rw [← e2]
    conv => lhs; rw [e1]
    exact List.drop_left
  cases hit with
  | false =>
    unfold wl
    rw [if_neg (by decide), if_neg (by decide), cells3_app, e3, Nat.add_zero, e4, e5, List.append_assoc]
  | true =>
    have hi := h1 rfl
    unfold wl
    rw [if_pos rfl, if_pos rfl, List.set_eq_take_append_cons_drop, if_pos hi, cells3_app, e3, e4, show (cells3 l).drop (i * 3 + 3) = cells3 (l.drop (i + 1)) from by rw [← List.drop_drop, e5, List.drop_eq_getElem_cons hi]; rfl, List.append_assoc]
theorem wl_len (l : List Ent) (e : Ent) (i : Nat) (hit : Bool) (h : i ≤ l.length) : (wl l e i hit).length = l.length + if hit then 0 else 1 := by
  unfold wl
  cases hit with
  | true => simp
  | false => simp; omega
theorem sets_vec (e : TypeId) (size g cap n : Nat) (xs : List Value) (i : Nat) (hi : i < n * size) (u : Value) : Sets (Asn.vec e size (.slice (some ⟨g, 0, none⟩) n cap) n xs) ⟨g, i, none⟩ u (Asn.vec e size (.slice (some ⟨g, 0, none⟩) n cap) n (xs.set i u)) :=
  fun w O h => ⟨⟨h.1.set hi u, h.2⟩, (h.2 g).2 rfl⟩
theorem own_setCells {w0 : World} {O0 : Nat → Prop} {C : Asn} (e : TypeId) (size b cap n : Nat) : ∀ (vs : List Value) (o : Nat) (xs : List Value) (w : World), Own w0 O0 w (Asn.vec e size (.slice (some ⟨b, 0, none⟩) n cap) n xs * C) → o + vs.length ≤ n * size →
    Own w0 O0 (w.setCells b o vs) (Asn.vec e size (.slice (some ⟨b, 0, none⟩) n cap) n (xs.take o ++ vs ++ xs.drop (o + vs.length)) * C)
  | [], o, xs, w, h, _ => by
    rw [List.append_nil, List.length_nil, Nat.add_zero, List.take_append_drop]
    exact h
  | v :: r, o, xs, w, h, hl => by
    simp only [List.length_cons] at hl
    have h1 := own_setCells e size b cap n r (o + 1) (xs.set o v) _ (h.set (Sets.l (sets_vec e size b cap n xs o (by omega) v))) (by omega)
    have hx : o + (r.length + 1) ≤ xs.length := by have := h.vec.len; omega
    rw [list_seg_step xs o v r hx] at h1
    exact h1
theorem ins_entry {w0 w : World} {O0 : Nat → Prop} {n vb : Nat} {xs : List Value} {T : TypeId} {a b c v : Value} {C : Asn} (i : Nat) (hi : i ≤ n) (hn : n ≤ 100000) (h1 : ∀ u, u ∈ [a, b, c] → u.oneCell' = true) (hx1 : ∀ v, v ∈ xs → v.oneCell' = true)
    (hS : Own w0 O0 w (Asn.blk vb T #[a, b, c] * (Asn.vec 44 3 v n xs * C))) :
    Calls Try.prog 62 #[v, .int .i64 i, .slice (some ⟨vb, 0, none⟩) 1 1] w fun e w' => ∃ v', e = .returned v' ∧ Own w0 O0 w' (Asn.vec 44 3 v' (n + 1) (xs.take (i * 3) ++ [a, b, c] ++ xs.drop (i * 3)) * C) := by
  have hb := hS.has (Has.l (has_blk _ _ _))
  have hne : ¬ VB v vb := fun e => hS.ne (mem_blk _ _ _) (Mem.l (fun _ _ h => (h.2 vb).2 e)) rfl
  refine (insert_entry n i vb xs [a, b, c] T w v hi (by omega) hS.right.vec hb rfl h1 hx1 hne).mono ?_
  rintro e w' ⟨v', rfl, k1, k2, k3⟩
  exact ⟨v', rfl, hS.right.app k1 k2 k3⟩
set_option maxRecDepth 100000 in
set_option maxHeartbeats 8000000 in
theorem with_any (n : Nod) (p : Value) (e : Ent) (w : World) (h : Row3 w p n.list) (hl : n.list.length ≤ 99999) :
    Calls Try.prog 52 #[.agg (nodCells n p), .agg (entCells e)] w fun r w' => ∃ p', r = .returned (.agg (nodCells (wth n e) p')) ∧ Own w No w' (aEnts (wth n e) p') := by
  have HC := Lib.hid (fun W (hb : Below w.heap.size w W) => clone_ents p n.list W (h.keep hb) (by omega))
  have HPl := Lib.hid (fun v W (hv : NodAt W v n) => place_any n e.key v W hv)
  obtain ⟨i, hit, hpl, hih, hil⟩ := plc_form n e.key
  have hw : wth n e = { n with list := wl n.list e i hit } := by unfold wth; rw [hpl]; rfl
  have hc3 := cells3_wl n.list e i hit hih hil
  have hwl := wl_len n.list e i hit hil
  rw [hw]
  rw [hpl] at HPl
  unfold aEnts
  dsimp only
  rw [hc3, hwl]
  have S := Lib.hid ((((Own.none w).alloc (nodCells n p) 52).alloc (entCells e) 44).alloc zero7 52)
  clear hw hc3 hwl hpl
  have hone := ents_one n.list
  have HONE := Lib.hid hone
  clear hone
  unfold nodCells entCells zero7 at *
  dsimp only at *
  obtain ⟨Ap, cp, rfl⟩ := h.slice
  clear h
  generalize hky : ofL e.key = ky at *
  generalize ofL e.val = vl at *
  go_enter Try.func52, Try.ntmps52
  go_upto_region 1 with fail
  rw [show ((w.alloc (.cells #[.int .i64 n.tree, .int .i64 n.level, .int .i64 n.stamp, .bool n.has, .string (ofL n.high), .int .i64 n.right, .slice Ap n.list.length cp] 52)).alloc (.cells #[.string ky, .string vl, .bool e.ghost] 44)).heap.size = w.heap.size + 1 + 1 by simp] at S
  rw [show (w.alloc (.cells #[.int .i64 n.tree, .int .i64 n.level, .int .i64 n.stamp, .bool n.has, .string (ofL n.high), .int .i64 n.right, .slice Ap n.list.length cp] 52)).heap.size = w.heap.size + 1 by simp] at S
  obtain ⟨g, hgz⟩ : ∃ g, g = w.heap.size := ⟨_, rfl⟩
  have HGz := Lib.hid hgz
  rw [← hgz] at S ⊢
  clear hgz
  generalize World.alloc _ _ = w2 at *
  obtain ⟨⟨c0, c1, c2, c3, c4, c5, c6⟩, f0, f1, f2, f3, f4, f5, f6⟩ := seven7 (S.out.has (Has.r (Has.r (Has.l (has_blk _ _ _)))))
  go_wp2_with fail
  refine (HC.out _ S.out.bel).mono ?_
  rintro r w3 ⟨p', rfl, hX⟩
  have T := Lib.hid (own_join S.out hX)
  clear hX S HC c0 c1 c2 c3 c4 c5 c6 f0 f1 f2 f3 f4 f5 f6
  obtain ⟨A', c', rfl⟩ := T.out.vec.slice
  have hcf := seven7 (T.out.has (Has.r (Has.r (Has.r (Has.l (has_blk _ _ _))))))
  obtain ⟨⟨c0, c1, c2, c3, c4, c5, c6⟩, f0, f1, f2, f3, f4, f5, f6⟩ := hcf
  go_upto_region 2 with fail
  have T1 := Lib.hid (T.out.set (Sets.r (Sets.r (Sets.r (Sets.l (sets_blk g 52 _ 6 (.slice A' n.list.length c')))))))
  simp only [List.setIfInBounds_toArray, List.set_cons_zero, List.set_cons_succ] at T1
  clear T c0 c1 c2 c3 c4 c5 c6 f0 f1 f2 f3 f4 f5 f6
  generalize World.setCell _ _ _ = w4 at *
  obtain ⟨⟨c0, c1, c2, c3, c4, c5, c6⟩, -⟩ := seven7 (T1.out.has (Has.r (Has.r (Has.r (Has.l (has_blk _ _ _))))))
  have q0 := (T1.out.has (Has.r (Has.r (Has.l (has_blk _ _ _))))).cell 0
  have HPa := Lib.hid (HPl.out (.agg #[.int .i64 n.tree, .int .i64 n.level, .int .i64 n.stamp, .bool n.has, .string (ofL n.high), .int .i64 n.right, .slice A' n.list.length c']) w4 ⟨_, rfl, Row3.of_vec T1.out.vec⟩)
  clear HPl
  go_wp2_with fail
  refine HPa.out.mono ?_
  rintro r w5 ⟨rfl, hX⟩
  have T2 := Lib.hid (T1.out.below hX)
  clear hX T1 HPa c0 c1 c2 c3 c4 c5 c6 q0
  have hcf := seven7 (T2.out.has (Has.r (Has.r (Has.r (Has.l (has_blk _ _ _))))))
  obtain ⟨⟨c0, c1, c2, c3, c4, c5, c6⟩, f0, f1, f2, f3, f4, f5, f6⟩ := hcf
  have q0 := (T2.out.has (Has.r (Has.r (Has.l (has_blk _ _ _))))).cell 0
  have q1 := (T2.out.has (Has.r (Has.r (Has.l (has_blk _ _ _))))).cell 1
  have q2 := (T2.out.has (Has.r (Has.r (Has.l (has_blk _ _ _))))).cell 2
  cases hit with
  | true =>
    have hi := hih rfl
    clear hih hil
    have hi1 : (i : Int) < (n.list.length : Int) := by omega
    obtain ⟨b, rfl, hN64⟩ : ∃ b, A' = some ⟨b, 0, none⟩ ∧ n.list.length ≤ c' := by
      rcases T2.out.vec.forms with ⟨-, hz⟩ | ⟨g, cap, h, -, h1, h2⟩
      · omega
      · cases h; exact ⟨_, rfl, h1⟩
    have hlen3 : (cells3 n.list).length = n.list.length * 3 := T2.out.vec.len
    have HTH : Hid (w5.there b (i * 3) 3) := Lib.hid (fun j hj => by
      have hx : (cells3 n.list)[i * 3 + j]? = some ((cells3 n.list)[i * 3 + j]'(by omega)) := List.getElem?_eq_getElem _
      refine ⟨?_, T2.out.vec.free _⟩
      rw [T2.out.vec.cell hx]; rfl)
    have SY := own_setCells 44 3 b c' n.list.length [.string ky, .string vl, .bool e.ghost] (i * 3) (cells3 n.list) _ T2.out (by simp only [List.length_cons, List.length_nil]; omega)
    have T3 := Lib.hid SY
    clear SY T2 hlen3
    go_upto_region 6 with (with_reducible refine wpList_store_mid rfl 44 (.tmp 23) (.tmp 22) rfl b (i * 3) #[.string ky, .string vl, .bool e.ghost] ?c1 ?c2 ?c5 ?c3 ?c4 ?_)
    case c1 => rfl
    case c2 => rfl
    case c3 => exact size_entry
    case c4 => exact all_oneCell_toArray (cs := [.string ky, .string vl, .bool e.ghost]) (by intro u hu; simp at hu; rcases hu with rfl | rfl | rfl <;> rfl)
    case c5 => exact HTH.out
    clear HTH c0 c1 c2 c3 c4 c5 c6 f0 f1 f2 f3 f4 f5 f6 q0 q1 q2
    generalize World.setCells _ _ _ _ = w6 at *
    obtain ⟨⟨c0, c1, c2, c3, c4, c5, c6⟩, -⟩ := seven7 (T3.out.has (Has.r (Has.r (Has.r (Has.l (has_blk _ _ _))))))
    obtain ⟨⟨d0, d1, d2, d3, d4, d5, d6⟩, k0, k1, k2, k3, k4, k5, k6⟩ := seven7 (T3.out.has (Has.r (Has.l (has_blk _ _ _))))
    go_wp2_with fail
    have T4 := Lib.hid (own_seven (own_front T3.out) (.int .i64 n.tree) (.int .i64 n.level) (.int .i64 n.stamp) (.bool n.has) (.string (ofL n.high)) (.int .i64 n.right) (.slice (some ⟨b, 0, none⟩) n.list.length c'))
    clear T3 c0 c1 c2 c3 c4 c5 c6 d0 d1 d2 d3 d4 d5 d6 k0 k1 k2 k3 k4 k5 k6
    generalize World.setCell (World.setCell (World.setCell (World.setCell (World.setCell (World.setCell (World.setCell _ _ _) _ _) _ _) _ _) _ _) _ _) _ _ = w7 at *
    exact bodyPost_ret (res7a rfl rfl (T4.out.has (Has.l (has_blk _ _ _)))) rfl ⟨.slice (some ⟨b, 0, none⟩) n.list.length c', rfl, by have hz := T4.out.right.left; rw [List.append_assoc] at hz; exact hz⟩
  | false =>
    clear hih
    have hi1 : (i : Int) ≤ (n.list.length : Int) := by omega
    have T3 := Lib.hid ((T2.out.alloc #[.string ky, .string vl, .bool e.ghost] 44))
    have HI := Lib.hid (ins_entry i hil (by omega) (by intro u hu; simp at hu; rcases hu with rfl | rfl | rfl <;> rfl) HONE.out T3.out)
    clear T2
    go_wp2_with fail
    refine HI.out.mono ?_
    rintro r w6 ⟨v6, rfl, hX⟩
    obtain ⟨A6, c6', rfl⟩ := hX.vec.slice
    have T4 := Lib.hid hX
    clear hX HI T3 c0 c1 c2 c3 c4 c5 c6 f0 f1 f2 f3 f4 f5 f6 q0 q1 q2
    have hcf := seven7 (T4.out.has (Has.r (Has.r (Has.r (Has.l (has_blk _ _ _))))))
    obtain ⟨⟨c0, c1, c2, c3, c4, c5, c6⟩, f0, f1, f2, f3, f4, f5, f6⟩ := hcf
    obtain ⟨⟨d0, d1, d2, d3, d4, d5, d6⟩, k0, k1, k2, k3, k4, k5, k6⟩ := seven7 (T4.out.has (Has.r (Has.l (has_blk _ _ _))))
    go_wp2_with fail
    have T5 := Lib.hid (own_seven (own_front (T4.out.set (Sets.r (Sets.r (Sets.r (Sets.l (sets_blk g 52 _ 6 (.slice A6 (n.list.length + 1) c6')))))))) (.int .i64 n.tree) (.int .i64 n.level) (.int .i64 n.stamp) (.bool n.has) (.string (ofL n.high)) (.int .i64 n.right) (.slice A6 (n.list.length + 1) c6'))
    clear T4 c0 c1 c2 c3 c4 c5 c6 d0 d1 d2 d3 d4 d5 d6 f0 f1 f2 f3 f4 f5 f6 k0 k1 k2 k3 k4 k5 k6
    generalize World.setCell (World.setCell (World.setCell (World.setCell (World.setCell (World.setCell (World.setCell (World.setCell w6 _ _) _ _) _ _) _ _) _ _) _ _) _ _) _ _ = w7 at *
    exact bodyPost_ret (res7a rfl rfl (T5.out.has (Has.l (has_blk _ _ _)))) rfl ⟨.slice A6 (n.list.length + 1) c6', rfl, by have hz := T5.out.right.left; rw [List.append_assoc] at hz; exact hz⟩
end Go.Proofs.Ythoaangmekkcmaa.Bk
end

-- joined
section
namespace Go.Proofs.Ythoaangmekkcmaa.Bk
open Go.ChangeShapes Go.WideShapes Go.ChangeAt Go.RowKit Go.PlainAid Aid Nt Nd Tr
set_option linter.unusedVariables false
set_option linter.unusedSimpArgs false
set_option linter.unusedSectionVars false
theorem nws_get (S : Sf) (V : Nat → Value) (k : Nat) (hk : k < 256 * 7) : (nws 256 S V)[k]? = (nodCells (S (k / 7)) (V (k / 7)))[k % 7]? := by
  have := nws_at 256 S V (k / 7) (k % 7) (by omega) (by omega)
  rw [show k / 7 * 7 + k % 7 = k by omega] at this
  exact this
theorem nws_up (S : Sf) (V : Nat → Value) (p : Nat) (hp : p < 256) (n : Nod) (v : Value) : nws 256 (up S p n) (up V p v) = (nws 256 S V).take (p * 7) ++ (nodCells n v).toList ++ (nws 256 S V).drop (p * 7 + 7) := by
  have hl := nws_len 256 S V
  have hl2 := nws_len 256 (up S p n) (up V p v)
  have h7 : (nodCells n v).toList.length = 7 := rfl
  apply List.ext_getElem?
  intro k
  by_cases hk : k < 256 * 7
  · rw [nws_get _ _ k hk]
    by_cases h1 : k < p * 7
    · rw [List.append_assoc, List.getElem?_append_left (by rw [List.length_take]; omega), List.getElem?_take, if_pos h1, nws_get _ _ k hk, up_other _ _ _ _ (by omega), up_other _ _ _ _ (by omega)]
    · by_cases h2 : k < p * 7 + 7
      · rw [List.append_assoc, List.getElem?_append_right (by rw [List.length_take]; omega), List.length_take, Nat.min_eq_left (by omega), List.getElem?_append_left (by rw [h7]; omega), show k / 7 = p by omega, up_same, up_same, show k % 7 = k - p * 7 by omega, Array.getElem?_toList]
      · rw [List.getElem?_append_right (by rw [List.length_append, List.length_take, h7]; omega), List.length_append, List.length_take, h7, Nat.min_eq_left (by omega), List.getElem?_drop, show p * 7 + 7 + (k - (p * 7 + 7)) = k by omega, nws_get _ _ k hk, up_other _ _ _ _ (by omega), up_other _ _ _ _ (by omega)]
  · rw [List.getElem?_eq_none (by omega), List.getElem?_eq_none (by rw [List.length_append, List.length_append, List.length_take, List.length_drop, h7]; omega)]
theorem rows_up (S : Sf) (V : Nat → Value) (p : Nat) (n : Nod) (v : Value) : Imp (aRows S V * aEnts n v) (aRows (up S p n) (up V p v)) := fun w O ⟨X, Y, h1, h2, hd, hO⟩ => by
  refine ⟨fun q hq => ?_, fun k hk => ?_⟩
  · by_cases e : q = p
    · subst e
      rw [up_same, up_same]
      exact ⟨h2.1, fun k hk => (hO k).2 (Or.inr ((h2.2 k).2 hk))⟩
    · rw [up_other _ _ _ _ e, up_other _ _ _ _ e]
      exact ⟨(h1.1 q hq).1, fun k hk => (hO k).2 (Or.inl ((h1.1 q hq).2 k hk))⟩
  · rcases (hO k).1 hk with h | h
    · exact h1.2 k h
    · exact h2.1.lt ((h2.2 k).1 h)
/-- A page has another node. -/
theorem sf_up {w0 w : World} {O0 : Nat → Prop} {gs : Nat} {S : Sf} {V : Nat → Value} {C : Asn} (p : Nat) (hp : p < 256) (n : Nod) (v : Value) (h : Own w0 O0 w (aEnts n v * (aSf gs S V * C))) :
    Own w0 O0 (w.setCells gs (p * 7) (nodCells n v).toList) (aSf gs (up S p n) (up V p v) * C) := by
  have h1 := h.re (show _ = Asn.vec 120 7 (.slice (some ⟨gs, 0, none⟩) 256 256) 256 (nws 256 S V) * ((aRows S V * aEnts n v) * C) by unfold aSf; ac_rfl)
  have h2 := own_setCells 120 7 gs 256 256 (nodCells n v).toList (p * 7) (nws 256 S V) w h1 (by show p * 7 + 7 ≤ _; omega)
  have h3 := h2.imp (Imp.r (Imp.l (rows_up S V p n v)))
  rw [show p * 7 + (nodCells n v).toList.length = p * 7 + 7 from rfl, ← nws_up S V p hp n v] at h3
  exact h3.re (by unfold aSf; ac_rfl)
end Go.Proofs.Ythoaangmekkcmaa.Bk
end
