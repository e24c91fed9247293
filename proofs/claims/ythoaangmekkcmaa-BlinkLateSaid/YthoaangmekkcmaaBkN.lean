/- What is to change: Put. -/
import Derived.Test.YthoaangmekkcmaaBkK
namespace Go.Proofs.Ythoaangmekkcmaa.Bk
open Go.ChangeShapes Go.WideShapes Go.ChangeAt Go.RowKit Go.PlainAid Aid Nt Nd Tr
set_option linter.unusedVariables false
set_option linter.unusedSimpArgs false
set_option linter.unusedSectionVars false
section
variable {S : Sf} {Pr : Nod → Prop} (h0 : Pr Nod.none) (hP : ∀ p, p < 256 → Pr (S p))
include h0 hP
theorem at_P {p : Int} {n : Nod} (e : at_ S p = some n) : Pr n := by
  unfold at_ at e
  split at e
  · rename_i hp; cases e; exact hP _ (by omega)
  · cases e
theorem vis_P (l : Nat) (p : Int) : Pr (vis S l p).nd := by
  cases l with
  | zero => exact h0
  | succ l =>
    rw [vis_succ]
    cases hp : at_ S p with
    | none => exact h0
    | some n => exact at_P h0 hP hp
theorem rgt_P (key : By) : ∀ (l : Nat) (p : Int) (n : Nod), Pr n → Pr (rgt S key l p n).nd
  | 0, p, n, hn => by rw [rgt_zero]; split; exact h0; exact hn
  | l + 1, p, n, hn => by
    rw [rgt_succ]
    split
    · cases hp : at_ S n.right with
      | none => exact h0
      | some m => exact rgt_P key l _ _ (at_P h0 hP hp)
    · exact hn
theorem blw_P (l : Nat) (n : Nod) (i : Int) : Pr (blw S l n i).nd := by
  unfold blw
  split
  · exact h0
  · split
    · exact h0
    · split
      · dsimp only
        split
        · split
          · exact vis_P h0 hP _ _
          · exact h0
        · exact h0
      · exact h0
theorem sk_P (level : Int) (key : By) : ∀ (f : Nat) (v : Vi) (P : List (Int × Nod)), Pr v.nd → (∀ x, x ∈ P → Pr x.2) → ∀ x, x ∈ (sk S level key f v P).2.2 → Pr x.2
  | 0, v, P, _, _, x, hx => by cases hx
  | f + 1, v, P, hv, hPP, x, hx => by
    unfold sk at hx
    split at hx
    · dsimp only at hx
      have hs := rgt_P h0 hP key v.left v.pg v.nd hv
      split at hx
      · split at hx
        · rcases List.mem_append.1 hx with hx | hx
          · exact hPP x hx
          · rw [List.mem_singleton] at hx; subst hx; exact hs
        · split at hx
          · cases hx
          · refine sk_P level key f _ _ (blw_P h0 hP _ _ _) (fun y hy => ?_) x hx
            rcases List.mem_append.1 hy with hy | hy
            · exact hPP y hy
            · rw [List.mem_singleton] at hy; subst hy; exact hs
      · cases hx
    · cases hx
theorem so_P (root level : Int) (key : By) : Pr (so S root level key).nd := by
  unfold so
  split
  · split
    · rename_i p n hl
      have := sk_P h0 hP level key 300 (vis S 256 root) [] (vis_P h0 hP _ _) (fun x hx => by cases hx) (p, n) (List.mem_of_getLast? hl)
      exact this
    · exact h0
  · exact h0
end
theorem blk_vec {g : Nat} {e : TypeId} {cs : List Value} (n size : Nat) (hl : cs.length = n * size) (hn : n ≤ maxLen) : Imp (Asn.blk g e cs.toArray) (Asn.vec e size (.slice (some ⟨g, 0, none⟩) n n) n cs) := fun w O h =>
  ⟨⟨hl, Or.inr ⟨g, n, cs.toArray, rfl, Nat.zero_le _, h.1, Nat.le_refl _, hn, by simp [hl], by rw [← hl]; simp⟩⟩, fun k => (h.2 k).trans ⟨fun e => by rw [e]; rfl, fun hk => (Option.some.inj hk).symm⟩⟩
/-- What Put answers. -/
def putR (S : Sf) (root : Int) (e : Ent) : Nat × List (Int × Nod) :=
  if (so S root 0 e.key).err = 0 then
    (if Nd.goodB (wth (so S root 0 e.key).nd e) then (if fitsB (wth (so S root 0 e.key).nd e) then (0, [((so S root 0 e.key).pg, wth (so S root 0 e.key).nd e)]) else (12, [])) else (1, []))
  else ((so S root 0 e.key).err, [])
def Sm (S : Sf) : Prop := ∀ p, p < 256 → (S p).list.length ≤ 99999
theorem Sm.small {S : Sf} (h : Sm S) : Small S := fun p hp => Nat.le_trans (h p hp) (by decide)
section
variable (gs : Nat) (S : Sf) (V : Nat → Value)
set_option maxRecDepth 100000 in
set_option maxHeartbeats 16000000 in
theorem Put_any (hs : Sm S) (hv : LvOk S) (root : Int) (e : Ent) (w0 w : World) (C : Asn) (hS : Own w0 No w (aSf gs S V * C)) :
    Calls Try.prog 30 #[pgs gs, .int .i64 root, .agg (entCells e)] w fun r w' => ∃ (v : Value) (L : List Sp), r = .returned (.tuple #[v, .int .i64 (putR S root e).1]) ∧ plain L = (putR S root e).2 ∧
      Own w0 No w' (Asn.vec 73 8 v L.length (spL L) * (aLs L * (aSf gs S V * C))) := by
  have S0 := Lib.hid (hS.alloc (entCells e) 44)
  have HSo := Lib.hid (fun W (h : Own w0 No W (Asn.blk w.heap.size 44 (entCells e) * (aSf gs S V * C))) => sought_any gs S V hs.small hv root 0 e.key w0 W _ (h.re (show _ = aSf gs S V * (Asn.blk w.heap.size 44 (entCells e) * C) by ac_rfl)))
  have hxl := so_P (Pr := fun n => n.list.length ≤ 99999) (by decide) hs root 0 e.key
  obtain ⟨r, hr⟩ : ∃ r, r = putR S root e := ⟨_, rfl⟩
  rw [← hr]
  unfold putR at hr
  generalize so S root 0 e.key = x at *
  have HR := Lib.hid hr
  clear hr hS
  have HWi := Lib.hid (fun p W (h : Row3 W p x.nd.list) => with_any x.nd p e W h hxl)
  have HGo := Lib.hid (fun v W (h : NodAt W v (wth x.nd e)) => Good_any (wth x.nd e) v W h)
  have HFi := Lib.hid (fun v W (h : NodAt W v (wth x.nd e)) => Fits_any (wth x.nd e) v W h)
  generalize wth x.nd e = n at *
  have HE := Lib.hid (show entCells e = #[.string (ofL e.key), .string (ofL e.val), .bool e.ghost] from rfl)
  unfold entCells spotC pgs at *
  go_enter Try.func30, Try.ntmps30
  go_upto_region 1 with fail
  obtain ⟨g5, hgz⟩ : ∃ g, g = w.heap.size := ⟨_, rfl⟩
  rw [← hgz] at S0 HSo ⊢
  clear hgz
  generalize World.alloc _ _ = w1 at *
  have q0 := (S0.out.has (Has.l (has_blk _ _ _))).cell 0
  go_wp2_with fail
  refine (HSo.out _ S0.out).mono ?_
  rintro rr w2 ⟨v, rfl, hX⟩
  obtain ⟨A, c, rfl⟩ := (show Own w0 No w2 (Asn.vec 44 3 v x.nd.list.length (cells3 x.nd.list) * _) from hX).vec.slice
  have S1 := Lib.hid (hX.alloc #[.int .i64 x.pg, .int .i64 x.nd.tree, .int .i64 x.nd.level, .int .i64 x.nd.stamp, .bool x.nd.has, .string (ofL x.nd.high), .int .i64 x.nd.right, .slice A x.nd.list.length c] 100)
  clear hX S0 HSo q0
  go_upto_region 2 with fail
  obtain ⟨g8, hgz⟩ : ∃ g, g = w2.heap.size := ⟨_, rfl⟩
  rw [← hgz] at S1 ⊢
  clear hgz
  generalize World.alloc _ _ = w3 at *
  by_cases he : x.err = 0
  · have he0 : ((x.err : Nat) : Int) = 0 := by rw [he]; rfl
    rw [he0]
    have hr := HR.out
    rw [if_pos he] at hr
    have HR2 := Lib.hid hr
    clear hr HR he
    obtain ⟨k0, k1, k2, k3, k4, k5, k6, k7⟩ := eight_of (S1.out.has (Has.l (has_blk _ _ _)))
    have hb5 := S1.out.has (Has.r (Has.r (Has.r (Has.l (has_blk g5 _ _)))))
    have q0 := hb5.cell 0
    have q1 := hb5.cell 1
    have q2 := hb5.cell 2
    clear hb5
    have HWi1 := Lib.hid (HWi.out (.slice A x.nd.list.length c) w3 (Row3.of_vec (show Own w0 No w3 (Asn.vec 44 3 (.slice A x.nd.list.length c) x.nd.list.length (cells3 x.nd.list) * _) from S1.out.right).vec))
    unfold nodCells at HWi1
    clear HWi
    go_wp2_with fail
    refine HWi1.out.mono ?_
    rintro rr w4 ⟨p4, rfl, hX⟩
    have T := own_join S1.out hX
    clear hX S1 HWi1 k0 k1 k2 k3 k4 k5 k6 k7 q0 q1 q2
    obtain ⟨A4, c4, rfl⟩ := (show Own w0 No w4 (Asn.vec 44 3 p4 n.list.length (cells3 n.list) * _) from T).vec.slice
    have S2 := Lib.hid (T.alloc #[.int .i64 n.tree, .int .i64 n.level, .int .i64 n.stamp, .bool n.has, .string (ofL n.high), .int .i64 n.right, .slice A4 n.list.length c4] 52)
    clear T
    go_upto_region 5 with fail
    obtain ⟨g10, hgz⟩ : ∃ g, g = w4.heap.size := ⟨_, rfl⟩
    rw [← hgz] at S2 ⊢
    clear hgz
    generalize World.alloc _ _ = w5 at *
    obtain ⟨⟨c0, c1, c2, c3, c4', c5, c6⟩, -⟩ := seven7 (S2.out.has (Has.l (has_blk _ _ _)))
    have HGo1 := Lib.hid (HGo.out (.agg (nodCells n (.slice A4 n.list.length c4))) w5 (ents_at S2.out.right.left))
    have HFi1 := Lib.hid (fun W (h : Own w0 No W (Asn.blk g10 52 #[.int .i64 n.tree, .int .i64 n.level, .int .i64 n.stamp, .bool n.has, .string (ofL n.high), .int .i64 n.right, .slice A4 n.list.length c4] * (aEnts n (.slice A4 n.list.length c4) * (Asn.blk g8 100 #[.int .i64 x.pg, .int .i64 x.nd.tree, .int .i64 x.nd.level, .int .i64 x.nd.stamp, .bool x.nd.has, .string (ofL x.nd.high), .int .i64 x.nd.right, .slice A x.nd.list.length c] * (aEnts x.nd (.slice A x.nd.list.length c) * (aSf gs S V * (Asn.blk g5 44 #[.string (ofL e.key), .string (ofL e.val), .bool e.ghost] * C))))))) => HFi.out (.agg (nodCells n (.slice A4 n.list.length c4))) W (ents_at h.right.left))
    unfold nodCells at HGo1 HFi1
    clear HGo HFi
    cases hg : Nd.goodB n with
    | false =>
      rw [hg] at HGo1 HR2
      have hr := HR2.out
      rw [if_neg (by decide)] at hr
      subst hr
      clear hg HFi1 HR2
      go_wp2_with fail
      refine HGo1.out.mono ?_
      rintro rr w6 ⟨rfl, hX⟩
      have S3 := Lib.hid (((S2.out.below hX).re (show _ = (Asn.blk g10 52 #[.int .i64 n.tree, .int .i64 n.level, .int .i64 n.stamp, .bool n.has, .string (ofL n.high), .int .i64 n.right, .slice A4 n.list.length c4] * (aEnts n (.slice A4 n.list.length c4) * (Asn.blk g8 100 #[.int .i64 x.pg, .int .i64 x.nd.tree, .int .i64 x.nd.level, .int .i64 x.nd.stamp, .bool x.nd.has, .string (ofL x.nd.high), .int .i64 x.nd.right, .slice A x.nd.list.length c] * (aEnts x.nd (.slice A x.nd.list.length c) * Asn.blk g5 44 #[.string (ofL e.key), .string (ofL e.val), .bool e.ghost])))) * (aSf gs S V * C) by ac_rfl)).right.nilVec 73 8)
      clear hX S2 HGo1 c0 c1 c2 c3 c4' c5 c6
      go_wp2_with fail
      go_returns
      refine ⟨.slice none 0 0, rfl, [], rfl, ?_⟩
      rw [show aLs [] = Asn.emp from rfl, emp_mul]
      exact S3.out
    | true =>
      rw [hg] at HGo1 HR2
      have hr := HR2.out
      rw [if_pos rfl] at hr
      have HR3 := Lib.hid hr
      clear hg HR2 hr
      go_wp2_with fail
      refine HGo1.out.mono ?_
      rintro rr w6 ⟨rfl, hX⟩
      have S3 := Lib.hid (S2.out.below hX)
      clear hX S2 HGo1 c0 c1 c2 c3 c4' c5 c6
      obtain ⟨⟨c0, c1, c2, c3, c4', c5, c6⟩, -⟩ := seven7 (S3.out.has (Has.l (has_blk _ _ _)))
      have HFi2 := Lib.hid (HFi1.out w6 S3.out)
      clear HFi1
      cases hf : fitsB n with
      | false =>
        rw [hf] at HFi2 HR3
        have hr := HR3.out
        rw [if_neg (by decide)] at hr
        subst hr
        clear hf HR3
        go_wp2_with fail
        refine HFi2.out.mono ?_
        rintro rr w7 ⟨rfl, hX⟩
        have S4 := Lib.hid (((S3.out.below hX).re (show _ = (Asn.blk g10 52 #[.int .i64 n.tree, .int .i64 n.level, .int .i64 n.stamp, .bool n.has, .string (ofL n.high), .int .i64 n.right, .slice A4 n.list.length c4] * (aEnts n (.slice A4 n.list.length c4) * (Asn.blk g8 100 #[.int .i64 x.pg, .int .i64 x.nd.tree, .int .i64 x.nd.level, .int .i64 x.nd.stamp, .bool x.nd.has, .string (ofL x.nd.high), .int .i64 x.nd.right, .slice A x.nd.list.length c] * (aEnts x.nd (.slice A x.nd.list.length c) * Asn.blk g5 44 #[.string (ofL e.key), .string (ofL e.val), .bool e.ghost])))) * (aSf gs S V * C) by ac_rfl)).right.nilVec 73 8)
        clear hX S3 HFi2 c0 c1 c2 c3 c4' c5 c6
        go_wp2_with fail
        go_returns
        refine ⟨.slice none 0 0, rfl, [], rfl, ?_⟩
        rw [show aLs [] = Asn.emp from rfl, emp_mul]
        exact S4.out
      | true =>
        rw [hf] at HFi2 HR3
        have hr := HR3.out
        rw [if_pos rfl] at hr
        subst hr
        clear hf HR3
        go_wp2_with fail
        refine HFi2.out.mono ?_
        rintro rr w7 ⟨rfl, hX⟩
        have S4 := Lib.hid (S3.out.below hX)
        clear hX S3 HFi2 c0 c1 c2 c3 c4' c5 c6
        obtain ⟨⟨c0, c1, c2, c3, c4', c5, c6⟩, -⟩ := seven7 (S4.out.has (Has.l (has_blk _ _ _)))
        have k0 := (S4.out.has (Has.r (Has.r (Has.l (has_blk g8 _ _))))).cell 0
        have S5 := Lib.hid (S4.out.alloc #[.int .i64 x.pg, .int .i64 n.tree, .int .i64 n.level, .int .i64 n.stamp, .bool n.has, .string (ofL n.high), .int .i64 n.right, .slice A4 n.list.length c4] 73)
        clear S4
        go_wp2_with fail
        go_returns
        refine ⟨.slice (some ⟨w7.heap.size, 0, none⟩) 1 1, rfl, [⟨x.pg, n, .slice A4 n.list.length c4⟩], rfl, ?_⟩
        have S6 := S5.out.imp (Imp.l (blk_vec (cs := [.int .i64 x.pg, .int .i64 n.tree, .int .i64 n.level, .int .i64 n.stamp, .bool n.has, .string (ofL n.high), .int .i64 n.right, .slice A4 n.list.length c4]) 1 8 rfl (by unfold maxLen; omega)))
        exact (S6.re (show _ = (Asn.blk g10 52 #[.int .i64 n.tree, .int .i64 n.level, .int .i64 n.stamp, .bool n.has, .string (ofL n.high), .int .i64 n.right, .slice A4 n.list.length c4] * (Asn.blk g8 100 #[.int .i64 x.pg, .int .i64 x.nd.tree, .int .i64 x.nd.level, .int .i64 x.nd.stamp, .bool x.nd.has, .string (ofL x.nd.high), .int .i64 x.nd.right, .slice A x.nd.list.length c] * (aEnts x.nd (.slice A x.nd.list.length c) * Asn.blk g5 44 #[.string (ofL e.key), .string (ofL e.val), .bool e.ghost]))) * (Asn.vec 73 8 (.slice (some ⟨w7.heap.size, 0, none⟩) 1 1) 1 (spL [⟨x.pg, n, .slice A4 n.list.length c4⟩]) * (aLs [⟨x.pg, n, .slice A4 n.list.length c4⟩] * (aSf gs S V * C))) by show _ = _ * (_ * ((aEnts n (.slice A4 n.list.length c4) * Asn.emp) * _)); rw [mul_emp, show spL [⟨x.pg, n, .slice A4 n.list.length c4⟩] = [.int .i64 x.pg, .int .i64 n.tree, .int .i64 n.level, .int .i64 n.stamp, .bool n.has, .string (ofL n.high), .int .i64 n.right, .slice A4 n.list.length c4] from rfl]; ac_rfl)).right
  · have he1 : (((x.err : Nat) : Int) == 0) = false := beq_eq_false_iff_ne.2 (by omega)
    have hr := HR.out
    rw [if_neg he] at hr
    subst hr
    have S2 := Lib.hid ((S1.out.re (show _ = (Asn.blk g8 100 #[.int .i64 x.pg, .int .i64 x.nd.tree, .int .i64 x.nd.level, .int .i64 x.nd.stamp, .bool x.nd.has, .string (ofL x.nd.high), .int .i64 x.nd.right, .slice A x.nd.list.length c] * (aEnts x.nd (.slice A x.nd.list.length c) * Asn.blk g5 44 #[.string (ofL e.key), .string (ofL e.val), .bool e.ghost])) * (aSf gs S V * C) by ac_rfl)).right.nilVec 73 8)
    clear S1 HR HWi HGo HFi he
    go_wp2_with fail
    go_returns
    refine ⟨.slice none 0 0, rfl, [], rfl, ?_⟩
    rw [show aLs [] = Asn.emp from rfl, emp_mul]
    exact S2.out
end
end Go.Proofs.Ythoaangmekkcmaa.Bk
