/- Texts of ours, joined. -/
import Derived.Test.YtfahgejiclgbfaaBkK
import Derived.Test.YtfahgejiclgbfaaChg
import Derived.Deep.MidRow

-- joined
section
namespace Go.Proofs.Ytfahgejiclgbfaa.Bk
open Go.ChangeShapes Go.WideShapes Go.ChangeAt Go.RowKit Go.PlainAid Aid Nt Nd Tr
set_option linter.unusedVariables false
set_option linter.unusedSimpArgs false
set_option linter.unusedSectionVars false
theorem plc_form (n : Nod) (key : By) : ∃ (i : Nat) (b : Bool), plc n key = ((i : Int), b) ∧ (b = true → i < n.list.length) ∧ i ≤ n.list.length := by
  have h1 := lastLe_lt n.list key n.list.length
  have h2 := lastLe_ge n.list key n.list.length
  by_cases h0 : lastLe n.list key n.list.length < 0
  · exact ⟨0, false, plc_none h0, (fun h => by cases h), Nat.zero_le _⟩
  · obtain ⟨q, hq⟩ : ∃ q : Nat, lastLe n.list key n.list.length = q := ⟨_, (Int.toNat_of_nonneg (by omega)).symm⟩
    have hql : q < n.list.length := by omega
    have he : n.list[q]? = some (n.list[q]'hql) := List.getElem?_eq_getElem hql
    by_cases hk : (n.list[q]'hql).key = key
    · exact ⟨q, true, plc_hit hq he hk, fun _ => hql, by omega⟩
    · exact ⟨q + 1, false, plc_miss hq he hk, (fun h => by cases h), by omega⟩
/-- A list in which an entry stands at a place, in another one's, or between. -/
def wl (l : List Ent) (e : Ent) (i : Nat) (hit : Bool) : List Ent := if hit then l.set i e else l.take i ++ e :: l.drop i
def wth (n : Nod) (e : Ent) : Nod := { n with list := wl n.list e (plc n e.key).1.toNat (plc n e.key).2 }
theorem cells3_app (a b : List Ent) : cells3 (a ++ b) = cells3 a ++ cells3 b := List.flatMap_append ..
theorem cells3_take (l : List Ent) (i : Nat) (h : i ≤ l.length) : cells3 l = cells3 (l.take i) ++ cells3 (l.drop i) ∧ (cells3 (l.take i)).length = i * 3 := by
  constructor
  · rw [← cells3_app, List.take_append_drop]
  · rw [show (cells3 (l.take i)).length = (l.take i).length * 3 from ?_, List.length_take, Nat.min_eq_left h]
    generalize l.take i = m
    induction m with
    | nil => rfl
    | cons a m ih => simp only [cells3, List.flatMap_cons, List.length_append, List.length_cons, List.length_nil] at ih ⊢; omega
theorem cells3_wl (l : List Ent) (e : Ent) (i : Nat) (hit : Bool) (h1 : hit = true → i < l.length) (h : i ≤ l.length) :
    cells3 (wl l e i hit) = (cells3 l).take (i * 3) ++ [.string (ofL e.key), .string (ofL e.val), .bool e.ghost] ++ (cells3 l).drop (i * 3 + if hit then 3 else 0) := by
  obtain ⟨e1, e2⟩ := cells3_take l i h
  have e3 : ∀ m, cells3 (e :: m) = [.string (ofL e.key), .string (ofL e.val), .bool e.ghost] ++ cells3 m := fun _ => rfl
  have e4 : (cells3 l).take (i * 3) = cells3 (l.take i) := by
    rw [← e2]
    conv => lhs; rw [e1]
    exact List.take_left
  have e5 : (cells3 l).drop (i * 3) = cells3 (l.drop i) := by
    rw [← e2]
    conv => lhs; rw [e1]
    exact List.drop_left
  cases hit with
  | false =>
    unfold wl
    rw [if_neg (by decide), if_neg (by decide), cells3_app, e3, Nat.add_zero, e4, e5, List.append_assoc]
  | true =>
    have hi := h1 rfl
    unfold wl
    rw [if_pos rfl, if_pos rfl, List.set_eq_take_append_cons_drop, if_pos hi, cells3_app, e3, e4, show (cells3 l).drop (i * 3 + 3) = cells3 (l.drop (i + 1)) from by rw [← List.drop_drop, e5, List.drop_eq_getElem_cons hi]; rfl, List.append_assoc]
theorem wl_len (l : List Ent) (e : Ent) (i : Nat) (hit : Bool) (h : i ≤ l.length) : (wl l e i hit).length = l.length + if hit then 0 else 1 := by
  unfold wl
  cases hit with
  | true => simp
  | false => simp; omega
theorem sets_vec (e : TypeId) (size g cap n : Nat) (xs : List Value) (i : Nat) (hi : i < n * size) (u : Value) : Sets (Asn.vec e size (.slice (some ⟨g, 0, none⟩) n cap) n xs) ⟨g, i, none⟩ u (Asn.vec e size (.slice (some ⟨g, 0, none⟩) n cap) n (xs.set i u)) :=
  fun w O h => ⟨⟨h.1.set hi u, h.2⟩, (h.2 g).2 rfl⟩
def tPtr (g : Nat) : Value := .pointer (some ⟨g, 0, none⟩)
def trRow (gd gl : Nat) (hv ov : Value) : Array Value := #[.pointer (some ⟨gd, 0, none⟩), .pointer (some ⟨gl, 0, none⟩), hv, ov]
theorem own_setCells {w0 : World} {O0 : Nat → Prop} {C : Asn} (e : TypeId) (size b cap n : Nat) : ∀ (vs : List Value) (o : Nat) (xs : List Value) (w : World), Own w0 O0 w (Asn.vec e size (.slice (some ⟨b, 0, none⟩) n cap) n xs * C) → o + vs.length ≤ n * size →
    Own w0 O0 (w.setCells b o vs) (Asn.vec e size (.slice (some ⟨b, 0, none⟩) n cap) n (xs.take o ++ vs ++ xs.drop (o + vs.length)) * C)
  | [], o, xs, w, h, _ => by
    rw [List.append_nil, List.length_nil, Nat.add_zero, List.take_append_drop]
    exact h
  | v :: r, o, xs, w, h, hl => by
    simp only [List.length_cons] at hl
    have h1 := own_setCells e size b cap n r (o + 1) (xs.set o v) _ (h.set (Sets.l (sets_vec e size b cap n xs o (by omega) v))) (by omega)
    have hx : o + (r.length + 1) ≤ xs.length := by have := h.vec.len; omega
    rw [list_seg_step xs o v r hx] at h1
    exact h1
theorem ins_entry {w0 w : World} {O0 : Nat → Prop} {n vb : Nat} {xs : List Value} {T : TypeId} {a b c v : Value} {C : Asn} (i : Nat) (hi : i ≤ n) (hn : n ≤ 100000) (h1 : ∀ u, u ∈ [a, b, c] → u.oneCell' = true) (hx1 : ∀ v, v ∈ xs → v.oneCell' = true)
    (hS : Own w0 O0 w (Asn.blk vb T #[a, b, c] * (Asn.vec 44 3 v n xs * C))) :
    Calls Try.prog 79 #[v, .int .i64 i, .slice (some ⟨vb, 0, none⟩) 1 1] w fun e w' => ∃ v', e = .returned v' ∧ Own w0 O0 w' (Asn.vec 44 3 v' (n + 1) (xs.take (i * 3) ++ [a, b, c] ++ xs.drop (i * 3)) * C) := by
  have hb := hS.has (Has.l (has_blk _ _ _))
  have hne : ¬ VB v vb := fun e => hS.ne (mem_blk _ _ _) (Mem.l (fun _ _ h => (h.2 vb).2 e)) rfl
  refine (insert_entry n i vb xs [a, b, c] T w v hi (by omega) hS.right.vec hb rfl h1 hx1 hne).mono ?_
  rintro e w' ⟨v', rfl, k1, k2, k3⟩
  exact ⟨v', rfl, hS.right.app k1 k2 k3⟩
set_option maxRecDepth 100000 in
set_option maxHeartbeats 8000000 in
theorem with_any (n : Nod) (p : Value) (e : Ent) (w : World) (h : Row3 w p n.list) (hl : n.list.length ≤ 99999) :
    Calls Try.prog 68 #[.agg (nodCells n p), .agg (entCells e)] w fun r w' => ∃ p', r = .returned (.agg (nodCells (wth n e) p')) ∧ Own w No w' (aEnts (wth n e) p') := by
  have HC := Lib.hid (fun W (hb : Below w.heap.size w W) => clone_ents p n.list W (h.keep hb) (by omega))
  have HPl := Lib.hid (fun v W (hv : NodAt W v n) => place_any n e.key v W hv)
  obtain ⟨i, hit, hpl, hih, hil⟩ := plc_form n e.key
  have hw : wth n e = { n with list := wl n.list e i hit } := by unfold wth; rw [hpl]; rfl
  have hc3 := cells3_wl n.list e i hit hih hil
  have hwl := wl_len n.list e i hit hil
  rw [hw]
  rw [hpl] at HPl
  unfold aEnts
  dsimp only
  rw [hc3, hwl]
  have S := Lib.hid ((((Own.none w).alloc (nodCells n p) 52).alloc (entCells e) 44).alloc zero7 52)
  clear hw hc3 hwl hpl
  have hone := ents_one n.list
  have HONE := Lib.hid hone
  clear hone
  unfold nodCells entCells zero7 at *
  dsimp only at *
  obtain ⟨Ap, cp, rfl⟩ := h.slice
  clear h
  generalize hky : ofL e.key = ky at *
  generalize ofL e.val = vl at *
  go_enter Try.func68, Try.ntmps68
  go_upto_region 1 with fail
  rw [show ((w.alloc (.cells #[.int .i64 n.tree, .int .i64 n.level, .int .i64 n.stamp, .bool n.has, .string (ofL n.high), .int .i64 n.right, .slice Ap n.list.length cp] 52)).alloc (.cells #[.string ky, .string vl, .bool e.ghost] 44)).heap.size = w.heap.size + 1 + 1 by simp] at S
  rw [show (w.alloc (.cells #[.int .i64 n.tree, .int .i64 n.level, .int .i64 n.stamp, .bool n.has, .string (ofL n.high), .int .i64 n.right, .slice Ap n.list.length cp] 52)).heap.size = w.heap.size + 1 by simp] at S
  obtain ⟨g, hgz⟩ : ∃ g, g = w.heap.size := ⟨_, rfl⟩
  have HGz := Lib.hid hgz
  rw [← hgz] at S ⊢
  clear hgz
  generalize World.alloc _ _ = w2 at *
  obtain ⟨⟨c0, c1, c2, c3, c4, c5, c6⟩, f0, f1, f2, f3, f4, f5, f6⟩ := seven7 (S.out.has (Has.r (Has.r (Has.l (has_blk _ _ _)))))
  go_wp2_with fail
  refine (HC.out _ S.out.bel).mono ?_
  rintro r w3 ⟨p', rfl, hX⟩
  have T := Lib.hid (own_join S.out hX)
  clear hX S HC c0 c1 c2 c3 c4 c5 c6 f0 f1 f2 f3 f4 f5 f6
  obtain ⟨A', c', rfl⟩ := T.out.vec.slice
  have hcf := seven7 (T.out.has (Has.r (Has.r (Has.r (Has.l (has_blk _ _ _))))))
  obtain ⟨⟨c0, c1, c2, c3, c4, c5, c6⟩, f0, f1, f2, f3, f4, f5, f6⟩ := hcf
  go_upto_region 2 with fail
  have T1 := Lib.hid (T.out.set (Sets.r (Sets.r (Sets.r (Sets.l (sets_blk g 52 _ 6 (.slice A' n.list.length c')))))))
  simp only [List.setIfInBounds_toArray, List.set_cons_zero, List.set_cons_succ] at T1
  clear T c0 c1 c2 c3 c4 c5 c6 f0 f1 f2 f3 f4 f5 f6
  generalize World.setCell _ _ _ = w4 at *
  obtain ⟨⟨c0, c1, c2, c3, c4, c5, c6⟩, -⟩ := seven7 (T1.out.has (Has.r (Has.r (Has.r (Has.l (has_blk _ _ _))))))
  have q0 := (T1.out.has (Has.r (Has.r (Has.l (has_blk _ _ _))))).cell 0
  have HPa := Lib.hid (HPl.out (.agg #[.int .i64 n.tree, .int .i64 n.level, .int .i64 n.stamp, .bool n.has, .string (ofL n.high), .int .i64 n.right, .slice A' n.list.length c']) w4 ⟨_, rfl, Row3.of_vec T1.out.vec⟩)
  clear HPl
  go_wp2_with fail
  refine HPa.out.mono ?_
  rintro r w5 ⟨rfl, hX⟩
  have T2 := Lib.hid (T1.out.below hX)
  clear hX T1 HPa c0 c1 c2 c3 c4 c5 c6 q0
  have hcf := seven7 (T2.out.has (Has.r (Has.r (Has.r (Has.l (has_blk _ _ _))))))
  obtain ⟨⟨c0, c1, c2, c3, c4, c5, c6⟩, f0, f1, f2, f3, f4, f5, f6⟩ := hcf
  have q0 := (T2.out.has (Has.r (Has.r (Has.l (has_blk _ _ _))))).cell 0
  have q1 := (T2.out.has (Has.r (Has.r (Has.l (has_blk _ _ _))))).cell 1
  have q2 := (T2.out.has (Has.r (Has.r (Has.l (has_blk _ _ _))))).cell 2
  cases hit with
  | true =>
    have hi := hih rfl
    clear hih hil
    have hi1 : (i : Int) < (n.list.length : Int) := by omega
    obtain ⟨b, rfl, hN64⟩ : ∃ b, A' = some ⟨b, 0, none⟩ ∧ n.list.length ≤ c' := by
      rcases T2.out.vec.forms with ⟨-, hz⟩ | ⟨g, cap, h, -, h1, h2⟩
      · omega
      · cases h; exact ⟨_, rfl, h1⟩
    have hlen3 : (cells3 n.list).length = n.list.length * 3 := T2.out.vec.len
    have HTH : Hid (w5.there b (i * 3) 3) := Lib.hid (fun j hj => by
      have hx : (cells3 n.list)[i * 3 + j]? = some ((cells3 n.list)[i * 3 + j]'(by omega)) := List.getElem?_eq_getElem _
      refine ⟨?_, T2.out.vec.free _⟩
      rw [T2.out.vec.cell hx]; rfl)
    have SY := own_setCells 44 3 b c' n.list.length [.string ky, .string vl, .bool e.ghost] (i * 3) (cells3 n.list) _ T2.out (by simp only [List.length_cons, List.length_nil]; omega)
    have T3 := Lib.hid SY
    clear SY T2 hlen3
    go_upto_region 6 with (with_reducible refine wpList_store_mid rfl 44 (.tmp 23) (.tmp 22) rfl b (i * 3) #[.string ky, .string vl, .bool e.ghost] ?c1 ?c2 ?c5 ?c3 ?c4 ?_)
    case c1 => rfl
    case c2 => rfl
    case c3 => exact size_entry
    case c4 => exact all_oneCell_toArray (cs := [.string ky, .string vl, .bool e.ghost]) (by intro u hu; simp at hu; rcases hu with rfl | rfl | rfl <;> rfl)
    case c5 => exact HTH.out
    clear HTH c0 c1 c2 c3 c4 c5 c6 f0 f1 f2 f3 f4 f5 f6 q0 q1 q2
    generalize World.setCells _ _ _ _ = w6 at *
    obtain ⟨⟨c0, c1, c2, c3, c4, c5, c6⟩, -⟩ := seven7 (T3.out.has (Has.r (Has.r (Has.r (Has.l (has_blk _ _ _))))))
    obtain ⟨⟨d0, d1, d2, d3, d4, d5, d6⟩, k0, k1, k2, k3, k4, k5, k6⟩ := seven7 (T3.out.has (Has.r (Has.l (has_blk _ _ _))))
    go_wp2_with fail
    have T4 := Lib.hid (own_seven (own_front T3.out) (.int .i64 n.tree) (.int .i64 n.level) (.int .i64 n.stamp) (.bool n.has) (.string (ofL n.high)) (.int .i64 n.right) (.slice (some ⟨b, 0, none⟩) n.list.length c'))
    clear T3 c0 c1 c2 c3 c4 c5 c6 d0 d1 d2 d3 d4 d5 d6 k0 k1 k2 k3 k4 k5 k6
    generalize World.setCell (World.setCell (World.setCell (World.setCell (World.setCell (World.setCell (World.setCell _ _ _) _ _) _ _) _ _) _ _) _ _) _ _ = w7 at *
    exact bodyPost_ret (res7a rfl rfl (T4.out.has (Has.l (has_blk _ _ _)))) rfl ⟨.slice (some ⟨b, 0, none⟩) n.list.length c', rfl, by have hz := T4.out.right.left; rw [List.append_assoc] at hz; exact hz⟩
  | false =>
    clear hih
    have hi1 : (i : Int) ≤ (n.list.length : Int) := by omega
    have T3 := Lib.hid ((T2.out.alloc #[.string ky, .string vl, .bool e.ghost] 44))
    have HI := Lib.hid (ins_entry i hil (by omega) (by intro u hu; simp at hu; rcases hu with rfl | rfl | rfl <;> rfl) HONE.out T3.out)
    clear T2
    go_wp2_with fail
    refine HI.out.mono ?_
    rintro r w6 ⟨v6, rfl, hX⟩
    obtain ⟨A6, c6', rfl⟩ := hX.vec.slice
    have T4 := Lib.hid hX
    clear hX HI T3 c0 c1 c2 c3 c4 c5 c6 f0 f1 f2 f3 f4 f5 f6 q0 q1 q2
    have hcf := seven7 (T4.out.has (Has.r (Has.r (Has.r (Has.l (has_blk _ _ _))))))
    obtain ⟨⟨c0, c1, c2, c3, c4, c5, c6⟩, f0, f1, f2, f3, f4, f5, f6⟩ := hcf
    obtain ⟨⟨d0, d1, d2, d3, d4, d5, d6⟩, k0, k1, k2, k3, k4, k5, k6⟩ := seven7 (T4.out.has (Has.r (Has.l (has_blk _ _ _))))
    go_wp2_with fail
    have T5 := Lib.hid (own_seven (own_front (T4.out.set (Sets.r (Sets.r (Sets.r (Sets.l (sets_blk g 52 _ 6 (.slice A6 (n.list.length + 1) c6')))))))) (.int .i64 n.tree) (.int .i64 n.level) (.int .i64 n.stamp) (.bool n.has) (.string (ofL n.high)) (.int .i64 n.right) (.slice A6 (n.list.length + 1) c6'))
    clear T4 c0 c1 c2 c3 c4 c5 c6 d0 d1 d2 d3 d4 d5 d6 f0 f1 f2 f3 f4 f5 f6 k0 k1 k2 k3 k4 k5 k6
    generalize World.setCell (World.setCell (World.setCell (World.setCell (World.setCell (World.setCell (World.setCell (World.setCell w6 _ _) _ _) _ _) _ _) _ _) _ _) _ _) _ _ = w7 at *
    exact bodyPost_ret (res7a rfl rfl (T5.out.has (Has.l (has_blk _ _ _)))) rfl ⟨.slice A6 (n.list.length + 1) c6', rfl, by have hz := T5.out.right.left; rw [List.append_assoc] at hz; exact hz⟩
end Go.Proofs.Ytfahgejiclgbfaa.Bk
end

-- joined
section
namespace Go.Proofs.Ytfahgejiclgbfaa.Bk
open Go.ChangeShapes Go.WideShapes Go.ChangeAt Go.RowKit Go.PlainAid Aid Nt Nd Tr
set_option linter.unusedVariables false
set_option linter.unusedSimpArgs false
set_option linter.unusedSectionVars false
section
variable {S : Sf} {Pr : Nod → Prop} (h0 : Pr Nod.none) (hP : ∀ p, p < 256 → Pr (S p))
include h0 hP
theorem at_P {p : Int} {n : Nod} (e : at_ S p = some n) : Pr n := by
  unfold at_ at e
  split at e
  · rename_i hp; cases e; exact hP _ (by omega)
  · cases e
theorem vis_P (l : Nat) (p : Int) : Pr (vis S l p).nd := by
  cases l with
  | zero => exact h0
  | succ l =>
    rw [vis_succ]
    cases hp : at_ S p with
    | none => exact h0
    | some n => exact at_P h0 hP hp
theorem rgt_P (key : By) : ∀ (l : Nat) (p : Int) (n : Nod), Pr n → Pr (rgt S key l p n).nd
  | 0, p, n, hn => by rw [rgt_zero]; split; exact h0; exact hn
  | l + 1, p, n, hn => by
    rw [rgt_succ]
    split
    · cases hp : at_ S n.right with
      | none => exact h0
      | some m => exact rgt_P key l _ _ (at_P h0 hP hp)
    · exact hn
theorem blw_P (l : Nat) (n : Nod) (i : Int) : Pr (blw S l n i).nd := by
  unfold blw
  split
  · exact h0
  · split
    · exact h0
    · split
      · dsimp only
        split
        · split
          · exact vis_P h0 hP _ _
          · exact h0
        · exact h0
      · exact h0
theorem sk_P (level : Int) (key : By) : ∀ (f : Nat) (v : Vi) (P : List (Int × Nod)), Pr v.nd → (∀ x, x ∈ P → Pr x.2) → ∀ x, x ∈ (sk S level key f v P).2.2 → Pr x.2
  | 0, v, P, _, _, x, hx => by cases hx
  | f + 1, v, P, hv, hPP, x, hx => by
    unfold sk at hx
    split at hx
    · dsimp only at hx
      have hs := rgt_P h0 hP key v.left v.pg v.nd hv
      split at hx
      · split at hx
        · rcases List.mem_append.1 hx with hx | hx
          · exact hPP x hx
          · rw [List.mem_singleton] at hx; subst hx; exact hs
        · split at hx
          · cases hx
          · refine sk_P level key f _ _ (blw_P h0 hP _ _ _) (fun y hy => ?_) x hx
            rcases List.mem_append.1 hy with hy | hy
            · exact hPP y hy
            · rw [List.mem_singleton] at hy; subst hy; exact hs
      · cases hx
    · cases hx
theorem so_P (root level : Int) (key : By) : Pr (so S root level key).nd := by
  unfold so
  split
  · split
    · rename_i p n hl
      have := sk_P h0 hP level key 300 (vis S 256 root) [] (vis_P h0 hP _ _) (fun x hx => by cases hx) (p, n) (List.mem_of_getLast? hl)
      exact this
    · exact h0
  · exact h0
end
theorem blk_vec {g : Nat} {e : TypeId} {cs : List Value} (n size : Nat) (hl : cs.length = n * size) (hn : n ≤ maxLen) : Imp (Asn.blk g e cs.toArray) (Asn.vec e size (.slice (some ⟨g, 0, none⟩) n n) n cs) := fun w O h =>
  ⟨⟨hl, Or.inr ⟨g, n, cs.toArray, rfl, Nat.zero_le _, h.1, Nat.le_refl _, hn, by simp [hl], by rw [← hl]; simp⟩⟩, fun k => (h.2 k).trans ⟨fun e => by rw [e]; rfl, fun hk => (Option.some.inj hk).symm⟩⟩
/-- What Put answers. -/
def putR (S : Sf) (root : Int) (e : Ent) : Nat × List (Int × Nod) :=
  if (so S root 0 e.key).err = 0 then
    (if Nd.goodB (wth (so S root 0 e.key).nd e) then (if fitsB (wth (so S root 0 e.key).nd e) then (0, [((so S root 0 e.key).pg, wth (so S root 0 e.key).nd e)]) else (12, [])) else (1, []))
  else ((so S root 0 e.key).err, [])
def Sm (S : Sf) : Prop := ∀ p, p < 256 → (S p).list.length ≤ 99999
theorem Sm.small {S : Sf} (h : Sm S) : Small S := fun p hp => Nat.le_trans (h p hp) (by decide)
section
variable (gs : Nat) (S : Sf) (V : Nat → Value)
set_option maxRecDepth 100000 in
set_option maxHeartbeats 16000000 in
theorem Put_any (hs : Sm S) (hv : LvOk S) (root : Int) (e : Ent) (w0 w : World) (C : Asn) (hS : Own w0 No w (aSf gs S V * C)) :
    Calls Try.prog 41 #[pgs gs, .int .i64 root, .agg (entCells e)] w fun r w' => ∃ (v : Value) (L : List Sp), r = .returned (.tuple #[v, .int .i64 (putR S root e).1]) ∧ plain L = (putR S root e).2 ∧
      Own w0 No w' (Asn.vec 73 8 v L.length (spL L) * (aLs L * (aSf gs S V * C))) := by
  have S0 := Lib.hid (hS.alloc (entCells e) 44)
  have HSo := Lib.hid (fun W (h : Own w0 No W (Asn.blk w.heap.size 44 (entCells e) * (aSf gs S V * C))) => sought_any gs S V hs.small hv root 0 e.key w0 W _ (h.re (show _ = aSf gs S V * (Asn.blk w.heap.size 44 (entCells e) * C) by ac_rfl)))
  have hxl := so_P (Pr := fun n => n.list.length ≤ 99999) (by decide) hs root 0 e.key
  obtain ⟨r, hr⟩ : ∃ r, r = putR S root e := ⟨_, rfl⟩
  rw [← hr]
  unfold putR at hr
  generalize so S root 0 e.key = x at *
  have HR := Lib.hid hr
  clear hr hS
  have HWi := Lib.hid (fun p W (h : Row3 W p x.nd.list) => with_any x.nd p e W h hxl)
  have HGo := Lib.hid (fun v W (h : NodAt W v (wth x.nd e)) => Good_any (wth x.nd e) v W h)
  have HFi := Lib.hid (fun v W (h : NodAt W v (wth x.nd e)) => Fits_any (wth x.nd e) v W h)
  generalize wth x.nd e = n at *
  have HE := Lib.hid (show entCells e = #[.string (ofL e.key), .string (ofL e.val), .bool e.ghost] from rfl)
  unfold entCells spotC pgs at *
  go_enter Try.func41, Try.ntmps41
  go_upto_region 1 with fail
  obtain ⟨g5, hgz⟩ : ∃ g, g = w.heap.size := ⟨_, rfl⟩
  rw [← hgz] at S0 HSo ⊢
  clear hgz
  generalize World.alloc _ _ = w1 at *
  have q0 := (S0.out.has (Has.l (has_blk _ _ _))).cell 0
  go_wp2_with fail
  refine (HSo.out _ S0.out).mono ?_
  rintro rr w2 ⟨v, rfl, hX⟩
  obtain ⟨A, c, rfl⟩ := (show Own w0 No w2 (Asn.vec 44 3 v x.nd.list.length (cells3 x.nd.list) * _) from hX).vec.slice
  have S1 := Lib.hid (hX.alloc #[.int .i64 x.pg, .int .i64 x.nd.tree, .int .i64 x.nd.level, .int .i64 x.nd.stamp, .bool x.nd.has, .string (ofL x.nd.high), .int .i64 x.nd.right, .slice A x.nd.list.length c] 110)
  clear hX S0 HSo q0
  go_upto_region 2 with fail
  obtain ⟨g8, hgz⟩ : ∃ g, g = w2.heap.size := ⟨_, rfl⟩
  rw [← hgz] at S1 ⊢
  clear hgz
  generalize World.alloc _ _ = w3 at *
  by_cases he : x.err = 0
  · have he0 : ((x.err : Nat) : Int) = 0 := by rw [he]; rfl
    rw [he0]
    have hr := HR.out
    rw [if_pos he] at hr
    have HR2 := Lib.hid hr
    clear hr HR he
    obtain ⟨k0, k1, k2, k3, k4, k5, k6, k7⟩ := eight_of (S1.out.has (Has.l (has_blk _ _ _)))
    have hb5 := S1.out.has (Has.r (Has.r (Has.r (Has.l (has_blk g5 _ _)))))
    have q0 := hb5.cell 0
    have q1 := hb5.cell 1
    have q2 := hb5.cell 2
    clear hb5
    have HWi1 := Lib.hid (HWi.out (.slice A x.nd.list.length c) w3 (Row3.of_vec (show Own w0 No w3 (Asn.vec 44 3 (.slice A x.nd.list.length c) x.nd.list.length (cells3 x.nd.list) * _) from S1.out.right).vec))
    unfold nodCells at HWi1
    clear HWi
    go_wp2_with fail
    refine HWi1.out.mono ?_
    rintro rr w4 ⟨p4, rfl, hX⟩
    have T := own_join S1.out hX
    clear hX S1 HWi1 k0 k1 k2 k3 k4 k5 k6 k7 q0 q1 q2
    obtain ⟨A4, c4, rfl⟩ := (show Own w0 No w4 (Asn.vec 44 3 p4 n.list.length (cells3 n.list) * _) from T).vec.slice
    have S2 := Lib.hid (T.alloc #[.int .i64 n.tree, .int .i64 n.level, .int .i64 n.stamp, .bool n.has, .string (ofL n.high), .int .i64 n.right, .slice A4 n.list.length c4] 52)
    clear T
    go_upto_region 5 with fail
    obtain ⟨g10, hgz⟩ : ∃ g, g = w4.heap.size := ⟨_, rfl⟩
    rw [← hgz] at S2 ⊢
    clear hgz
    generalize World.alloc _ _ = w5 at *
    obtain ⟨⟨c0, c1, c2, c3, c4', c5, c6⟩, -⟩ := seven7 (S2.out.has (Has.l (has_blk _ _ _)))
    have HGo1 := Lib.hid (HGo.out (.agg (nodCells n (.slice A4 n.list.length c4))) w5 (ents_at S2.out.right.left))
    have HFi1 := Lib.hid (fun W (h : Own w0 No W (Asn.blk g10 52 #[.int .i64 n.tree, .int .i64 n.level, .int .i64 n.stamp, .bool n.has, .string (ofL n.high), .int .i64 n.right, .slice A4 n.list.length c4] * (aEnts n (.slice A4 n.list.length c4) * (Asn.blk g8 110 #[.int .i64 x.pg, .int .i64 x.nd.tree, .int .i64 x.nd.level, .int .i64 x.nd.stamp, .bool x.nd.has, .string (ofL x.nd.high), .int .i64 x.nd.right, .slice A x.nd.list.length c] * (aEnts x.nd (.slice A x.nd.list.length c) * (aSf gs S V * (Asn.blk g5 44 #[.string (ofL e.key), .string (ofL e.val), .bool e.ghost] * C))))))) => HFi.out (.agg (nodCells n (.slice A4 n.list.length c4))) W (ents_at h.right.left))
    unfold nodCells at HGo1 HFi1
    clear HGo HFi
    cases hg : Nd.goodB n with
    | false =>
      rw [hg] at HGo1 HR2
      have hr := HR2.out
      rw [if_neg (by decide)] at hr
      subst hr
      clear hg HFi1 HR2
      go_wp2_with fail
      refine HGo1.out.mono ?_
      rintro rr w6 ⟨rfl, hX⟩
      have S3 := Lib.hid (((S2.out.below hX).re (show _ = (Asn.blk g10 52 #[.int .i64 n.tree, .int .i64 n.level, .int .i64 n.stamp, .bool n.has, .string (ofL n.high), .int .i64 n.right, .slice A4 n.list.length c4] * (aEnts n (.slice A4 n.list.length c4) * (Asn.blk g8 110 #[.int .i64 x.pg, .int .i64 x.nd.tree, .int .i64 x.nd.level, .int .i64 x.nd.stamp, .bool x.nd.has, .string (ofL x.nd.high), .int .i64 x.nd.right, .slice A x.nd.list.length c] * (aEnts x.nd (.slice A x.nd.list.length c) * Asn.blk g5 44 #[.string (ofL e.key), .string (ofL e.val), .bool e.ghost])))) * (aSf gs S V * C) by ac_rfl)).right.nilVec 73 8)
      clear hX S2 HGo1 c0 c1 c2 c3 c4' c5 c6
      go_wp2_with fail
      go_returns
      refine ⟨.slice none 0 0, rfl, [], rfl, ?_⟩
      rw [show aLs [] = Asn.emp from rfl, emp_mul]
      exact S3.out
    | true =>
      rw [hg] at HGo1 HR2
      have hr := HR2.out
      rw [if_pos rfl] at hr
      have HR3 := Lib.hid hr
      clear hg HR2 hr
      go_wp2_with fail
      refine HGo1.out.mono ?_
      rintro rr w6 ⟨rfl, hX⟩
      have S3 := Lib.hid (S2.out.below hX)
      clear hX S2 HGo1 c0 c1 c2 c3 c4' c5 c6
      obtain ⟨⟨c0, c1, c2, c3, c4', c5, c6⟩, -⟩ := seven7 (S3.out.has (Has.l (has_blk _ _ _)))
      have HFi2 := Lib.hid (HFi1.out w6 S3.out)
      clear HFi1
      cases hf : fitsB n with
      | false =>
        rw [hf] at HFi2 HR3
        have hr := HR3.out
        rw [if_neg (by decide)] at hr
        subst hr
        clear hf HR3
        go_wp2_with fail
        refine HFi2.out.mono ?_
        rintro rr w7 ⟨rfl, hX⟩
        have S4 := Lib.hid (((S3.out.below hX).re (show _ = (Asn.blk g10 52 #[.int .i64 n.tree, .int .i64 n.level, .int .i64 n.stamp, .bool n.has, .string (ofL n.high), .int .i64 n.right, .slice A4 n.list.length c4] * (aEnts n (.slice A4 n.list.length c4) * (Asn.blk g8 110 #[.int .i64 x.pg, .int .i64 x.nd.tree, .int .i64 x.nd.level, .int .i64 x.nd.stamp, .bool x.nd.has, .string (ofL x.nd.high), .int .i64 x.nd.right, .slice A x.nd.list.length c] * (aEnts x.nd (.slice A x.nd.list.length c) * Asn.blk g5 44 #[.string (ofL e.key), .string (ofL e.val), .bool e.ghost])))) * (aSf gs S V * C) by ac_rfl)).right.nilVec 73 8)
        clear hX S3 HFi2 c0 c1 c2 c3 c4' c5 c6
        go_wp2_with fail
        go_returns
        refine ⟨.slice none 0 0, rfl, [], rfl, ?_⟩
        rw [show aLs [] = Asn.emp from rfl, emp_mul]
        exact S4.out
      | true =>
        rw [hf] at HFi2 HR3
        have hr := HR3.out
        rw [if_pos rfl] at hr
        subst hr
        clear hf HR3
        go_wp2_with fail
        refine HFi2.out.mono ?_
        rintro rr w7 ⟨rfl, hX⟩
        have S4 := Lib.hid (S3.out.below hX)
        clear hX S3 HFi2 c0 c1 c2 c3 c4' c5 c6
        obtain ⟨⟨c0, c1, c2, c3, c4', c5, c6⟩, -⟩ := seven7 (S4.out.has (Has.l (has_blk _ _ _)))
        have k0 := (S4.out.has (Has.r (Has.r (Has.l (has_blk g8 _ _))))).cell 0
        have S5 := Lib.hid (S4.out.alloc #[.int .i64 x.pg, .int .i64 n.tree, .int .i64 n.level, .int .i64 n.stamp, .bool n.has, .string (ofL n.high), .int .i64 n.right, .slice A4 n.list.length c4] 73)
        clear S4
        go_wp2_with fail
        go_returns
        refine ⟨.slice (some ⟨w7.heap.size, 0, none⟩) 1 1, rfl, [⟨x.pg, n, .slice A4 n.list.length c4⟩], rfl, ?_⟩
        have S6 := S5.out.imp (Imp.l (blk_vec (cs := [.int .i64 x.pg, .int .i64 n.tree, .int .i64 n.level, .int .i64 n.stamp, .bool n.has, .string (ofL n.high), .int .i64 n.right, .slice A4 n.list.length c4]) 1 8 rfl (by unfold maxLen; omega)))
        exact (S6.re (show _ = (Asn.blk g10 52 #[.int .i64 n.tree, .int .i64 n.level, .int .i64 n.stamp, .bool n.has, .string (ofL n.high), .int .i64 n.right, .slice A4 n.list.length c4] * (Asn.blk g8 110 #[.int .i64 x.pg, .int .i64 x.nd.tree, .int .i64 x.nd.level, .int .i64 x.nd.stamp, .bool x.nd.has, .string (ofL x.nd.high), .int .i64 x.nd.right, .slice A x.nd.list.length c] * (aEnts x.nd (.slice A x.nd.list.length c) * Asn.blk g5 44 #[.string (ofL e.key), .string (ofL e.val), .bool e.ghost]))) * (Asn.vec 73 8 (.slice (some ⟨w7.heap.size, 0, none⟩) 1 1) 1 (spL [⟨x.pg, n, .slice A4 n.list.length c4⟩]) * (aLs [⟨x.pg, n, .slice A4 n.list.length c4⟩] * (aSf gs S V * C))) by show _ = _ * (_ * ((aEnts n (.slice A4 n.list.length c4) * Asn.emp) * _)); rw [mul_emp, show spL [⟨x.pg, n, .slice A4 n.list.length c4⟩] = [.int .i64 x.pg, .int .i64 n.tree, .int .i64 n.level, .int .i64 n.stamp, .bool n.has, .string (ofL n.high), .int .i64 n.right, .slice A4 n.list.length c4] from rfl]; ac_rfl)).right
  · have he1 : (((x.err : Nat) : Int) == 0) = false := beq_eq_false_iff_ne.2 (by omega)
    have hr := HR.out
    rw [if_neg he] at hr
    subst hr
    have S2 := Lib.hid ((S1.out.re (show _ = (Asn.blk g8 110 #[.int .i64 x.pg, .int .i64 x.nd.tree, .int .i64 x.nd.level, .int .i64 x.nd.stamp, .bool x.nd.has, .string (ofL x.nd.high), .int .i64 x.nd.right, .slice A x.nd.list.length c] * (aEnts x.nd (.slice A x.nd.list.length c) * Asn.blk g5 44 #[.string (ofL e.key), .string (ofL e.val), .bool e.ghost])) * (aSf gs S V * C) by ac_rfl)).right.nilVec 73 8)
    clear S1 HR HWi HGo HFi he
    go_wp2_with fail
    go_returns
    refine ⟨.slice none 0 0, rfl, [], rfl, ?_⟩
    rw [show aLs [] = Asn.emp from rfl, emp_mul]
    exact S2.out
end
end Go.Proofs.Ytfahgejiclgbfaa.Bk
end
