/- Texts of ours, joined. -/
import Derived.Test.YtapdpdhibpblgaaBkN

-- joined
section
namespace Go.Proofs.Ytapdpdhibpblgaa.Bk
open Go.ChangeShapes Go.WideShapes Go.ChangeAt Go.RowKit Go.PlainAid Aid Nt Nd Tr
set_option linter.unusedVariables false
set_option linter.unusedSimpArgs false
set_option maxRecDepth 100000 in
theorem infoShelf : (Try.prog.info? 132).map (fun i => (i.zero, i.size)) = some (some (.agg (nws 256 (fun _ => Nod.none) (fun _ => .slice none 0 0)).toArray), 1792) := by kernel_rfl
def zeroL : List Value := nws 256 (fun _ => Nod.none) (fun _ => .slice none 0 0)
set_option maxRecDepth 100000 in
theorem run_b (W : World) : (Instr.build 132 #[]).run Try.prog W = .ok (.agg zeroL.toArray) W := by kernel_rfl
theorem run_x (W : World) (Z : Array Value) : (Instr.box 132 (.agg Z)).run Try.prog W = .ok (.pointer (some ⟨W.heap.size, 0, none⟩)) (W.alloc (.cells Z 132)) := by
  go_simp
theorem list_build0 {P : Program} {ops : Array Oper} {rest : List Oper} {o : Oper} {a : Act} {Q : Exit → Act → World → Prop} {w : World} (hgd : o.guard = none) (T : TypeId) (ho : o.op = .build T #[])
    (v : Value) (hr : (Instr.build T #[]).run P w = .ok v w) (h : wpList P ops Q rest (a.put o.dst v) w) : wpList P ops Q (o :: rest) a w := by
  refine wpList_plain hgd fun K hK => ?_
  unfold Oper.wp execOp
  simp only [ho, List.map_toArray, List.map_nil, Sem.run_bind, Sem.run_pure, Result.andThen_ok, hr]
  exact hK _ _ h
theorem list_box {P : Program} {ops : Array Oper} {rest : List Oper} {o : Oper} {a : Act} {Q : Exit → Act → World → Prop} {w w' : World} (hgd : o.guard = none) (T : TypeId) (x : Operand) (ho : o.op = .box T x)
    (xv : Value) (hx : a.eval x = xv) (v : Value) (hr : (Instr.box T xv).run P w = .ok v w') (h : wpList P ops Q rest (a.put o.dst v) w') : wpList P ops Q (o :: rest) a w := by
  refine wpList_plain hgd fun K hK => ?_
  unfold Oper.wp execOp
  subst hx
  simp only [ho, Sem.run_bind, Sem.run_pure, Result.andThen_ok, hr]
  exact hK _ _ h
theorem rows_none : Imp Asn.emp (aRows (fun _ => Nod.none) (fun _ => .slice none 0 0)) := fun w O h =>
  ⟨fun p hp => ⟨Vec.nil w 44 3, fun k hk => by cases hk⟩, fun k hk => (h k hk).elim⟩
theorem New_any (w : World) :
    Calls Try.prog 33 #[] w fun e w' => ∃ gs V, e = .returned (sPtr gs) ∧ Own w No w' (aSf gs (fun _ => Nod.none) V) := by
  have HS : Hid (Own w No (w.alloc (.cells zeroL.toArray 132)) (aSf w.heap.size (fun _ => Nod.none) (fun _ => .slice none 0 0))) := Lib.hid (by
    exact (((Own.none w).alloc zeroL.toArray 132).imp (Imp.l (blk_vec 256 7 (by unfold zeroL; rw [nws_len]) (by decide)))).imp (Imp.r rows_none))
  generalize hz : zeroL = Z at *
  go_enter Try.func33, Try.ntmps33
  go_wp2_with (with_reducible refine list_build0 rfl 132 rfl (.agg Z.toArray) ?b1 ?_)
  case b1 => rw [← hz]; exact run_b _
  go_returns
  exact ⟨_, _, rfl, HS.out⟩
end Go.Proofs.Ytapdpdhibpblgaa.Bk
end

-- joined
section
namespace Go.Proofs.Ytapdpdhibpblgaa.Bk
open Go.ChangeShapes Go.WideShapes Go.ChangeAt Go.RowKit Go.PlainAid Aid Nt Nd Tr
set_option linter.unusedVariables false
set_option linter.unusedSimpArgs false
set_option linter.unusedSectionVars false
/-- What Drop answers. -/
def dropR (S : Sf) (root : Int) (key : By) : Nat × List (Int × Nod) :=
  if (so S root 0 key).err = 0 then
    (if (plc (so S root 0 key).nd key).2 then (0, [((so S root 0 key).pg, { (so S root 0 key).nd with list := (so S root 0 key).nd.list.eraseIdx (plc (so S root 0 key).nd key).1.toNat })]) else (7, []))
  else ((so S root 0 key).err, [])
section
variable (gs : Nat) (S : Sf) (V : Nat → Value)
set_option maxRecDepth 100000 in
set_option maxHeartbeats 16000000 in
theorem Drop_any (hs : Sm S) (hv : LvOk S) (root : Int) (key : By) (w0 w : World) (C : Asn) (hS : Own w0 No w (aSf gs S V * C)) :
    Calls Try.prog 35 #[pgs gs, .int .i64 root, .string (ofL key)] w fun r w' => ∃ (v : Value) (L : List Sp), r = .returned (.tuple #[v, .int .i64 (dropR S root key).1]) ∧ plain L = (dropR S root key).2 ∧
      Own w0 No w' (Asn.vec 73 8 v L.length (spL L) * (aLs L * (aSf gs S V * C))) := by
  have HSo := Lib.hid (sought_any gs S V hs.small hv root 0 key w0 w _ hS)
  have hxl := so_P (Pr := fun n => n.list.length ≤ 99999) (by decide) hs root 0 key
  obtain ⟨r, hr⟩ : ∃ r, r = dropR S root key := ⟨_, rfl⟩
  rw [← hr]
  unfold dropR at hr
  generalize so S root 0 key = x at *
  have HPl := Lib.hid (fun v W (h : NodAt W v x.nd) => place_any x.nd key v W h)
  obtain ⟨q, hit, hpl, hih, hil⟩ := plc_form x.nd key
  rw [hpl] at HPl hr
  rw [Int.toNat_natCast] at hr
  have HR := Lib.hid hr
  clear hr hS hpl
  unfold spotC pgs at *
  go_enter Try.func35, Try.ntmps35
  go_wp2_with fail
  refine HSo.out.mono ?_
  rintro rr w2 ⟨v, rfl, hX⟩
  obtain ⟨A, c, rfl⟩ := (show Own w0 No w2 (Asn.vec 44 3 v x.nd.list.length (cells3 x.nd.list) * _) from hX).vec.slice
  have S1 := Lib.hid (hX.alloc #[.int .i64 x.pg, .int .i64 x.nd.tree, .int .i64 x.nd.level, .int .i64 x.nd.stamp, .bool x.nd.has, .string (ofL x.nd.high), .int .i64 x.nd.right, .slice A x.nd.list.length c] 112)
  clear hX HSo
  go_upto_region 2 with fail
  obtain ⟨g8, hgz⟩ : ∃ g, g = w2.heap.size := ⟨_, rfl⟩
  rw [← hgz] at S1 ⊢
  clear hgz
  generalize World.alloc _ _ = w3 at *
  by_cases he : x.err = 0
  · have he0 : ((x.err : Nat) : Int) = 0 := by rw [he]; rfl
    rw [he0]
    have hr := HR.out
    rw [if_pos he] at hr
    have HR2 := Lib.hid hr
    clear hr HR he
    obtain ⟨k0, k1, k2, k3, k4, k5, k6, k7⟩ := eight_of (S1.out.has (Has.l (has_blk _ _ _)))
    have HPl1 := Lib.hid (HPl.out (.agg (nodCells x.nd (.slice A x.nd.list.length c))) w3 (ents_at S1.out.right.left))
    unfold nodCells at HPl1
    clear HPl
    go_wp2_with fail
    refine HPl1.out.mono ?_
    rintro rr w4 ⟨rfl, hX⟩
    have S2 := Lib.hid (S1.out.below hX)
    clear hX S1 HPl1 k0 k1 k2 k3 k4 k5 k6 k7
    cases hit with
    | false =>
      have hr := HR2.out
      rw [if_neg (by decide)] at hr
      subst hr
      have S3 := Lib.hid ((S2.out.re (show _ = (Asn.blk g8 112 #[.int .i64 x.pg, .int .i64 x.nd.tree, .int .i64 x.nd.level, .int .i64 x.nd.stamp, .bool x.nd.has, .string (ofL x.nd.high), .int .i64 x.nd.right, .slice A x.nd.list.length c] * aEnts x.nd (.slice A x.nd.list.length c)) * (aSf gs S V * C) by ac_rfl)).right.nilVec 73 8)
      clear S2 HR2
      go_wp2_with fail
      go_returns
      refine ⟨.slice none 0 0, rfl, [], rfl, ?_⟩
      rw [show aLs [] = Asn.emp from rfl, emp_mul]
      exact S3.out
    | true =>
      have hq := hih rfl
      have hr := HR2.out
      rw [if_pos rfl] at hr
      have HR3 := Lib.hid hr
      have HWo := Lib.hid (fun p W (h : Row3 W p x.nd.list) => without_any x.nd p q W h (by omega) hq)
      generalize ({ x.nd with list := x.nd.list.eraseIdx q } : Nod) = n at *
      have hr := HR3.out
      subst hr
      clear HR2 HR3 hih hil
      go_upto_region 7 with fail
      have S3 := Lib.hid S2.out.drew
      clear S2
      have HWo1 := Lib.hid (HWo.out (.slice A x.nd.list.length c) w4.drew (Row3.of_vec (show Own w0 No w4.drew (Asn.vec 44 3 (.slice A x.nd.list.length c) x.nd.list.length (cells3 x.nd.list) * _) from S3.out.right).vec))
      unfold nodCells at HWo1
      clear HWo
      have tA := eight_of (S3.out.has (Has.l (has_blk _ _ _)))
      go_region_held3 (fun W : World => W.cell? ⟨g8, 0, none⟩ = some (.int .i64 x.pg) ∧ W.cell? ⟨g8, 1, none⟩ = some (.int .i64 x.nd.tree) ∧ W.cell? ⟨g8, 2, none⟩ = some (.int .i64 x.nd.level) ∧ W.cell? ⟨g8, 3, none⟩ = some (.int .i64 x.nd.stamp) ∧ W.cell? ⟨g8, 4, none⟩ = some (.bool x.nd.has) ∧ W.cell? ⟨g8, 5, none⟩ = some (.string (ofL x.nd.high)) ∧ W.cell? ⟨g8, 6, none⟩ = some (.int .i64 x.nd.right) ∧ W.cell? ⟨g8, 7, none⟩ = some (.slice A x.nd.list.length c)) (first | exact tA | exact tB | exact tC) (first | (go_at_call 63; refine HWo1.out.mono ?_; rintro rr w5 ⟨p5, rfl, hX⟩; have T := own_join S3.out hX; obtain ⟨A5, c5, rfl⟩ := (show Own w0 No w5 (Asn.vec 44 3 p5 n.list.length (cells3 n.list) * _) from T).vec.slice; have S4 := Lib.hid T; have tB := eight_of (S4.out.has (Has.r (Has.l (has_blk _ _ _)))); have S5 := Lib.hid (S4.out.alloc #[.int .i64 x.pg, .int .i64 n.tree, .int .i64 n.level, .int .i64 n.stamp, .bool n.has, .string (ofL n.high), .int .i64 n.right, .slice A5 n.list.length c5] 73); have tC := eight_of (S5.out.has (Has.r (Has.r (Has.l (has_blk _ _ _)))))))
      clear tA tB tC S3 HWo1 hX T
      go_wp2_with fail
      go_returns
      refine ⟨.slice (some ⟨w5.heap.size, 0, none⟩) 1 1, rfl, [⟨x.pg, n, .slice A5 n.list.length c5⟩], rfl, ?_⟩
      have S6 := S5.out.imp (Imp.l (blk_vec (cs := [.int .i64 x.pg, .int .i64 n.tree, .int .i64 n.level, .int .i64 n.stamp, .bool n.has, .string (ofL n.high), .int .i64 n.right, .slice A5 n.list.length c5]) 1 8 rfl (by unfold maxLen; omega)))
      exact (S6.re (show _ = (Asn.blk g8 112 #[.int .i64 x.pg, .int .i64 x.nd.tree, .int .i64 x.nd.level, .int .i64 x.nd.stamp, .bool x.nd.has, .string (ofL x.nd.high), .int .i64 x.nd.right, .slice A x.nd.list.length c] * aEnts x.nd (.slice A x.nd.list.length c)) * (Asn.vec 73 8 (.slice (some ⟨w5.heap.size, 0, none⟩) 1 1) 1 (spL [⟨x.pg, n, .slice A5 n.list.length c5⟩]) * (aLs [⟨x.pg, n, .slice A5 n.list.length c5⟩] * (aSf gs S V * C))) by show _ = _ * (_ * ((aEnts n (.slice A5 n.list.length c5) * Asn.emp) * _)); rw [mul_emp, show spL [⟨x.pg, n, .slice A5 n.list.length c5⟩] = [.int .i64 x.pg, .int .i64 n.tree, .int .i64 n.level, .int .i64 n.stamp, .bool n.has, .string (ofL n.high), .int .i64 n.right, .slice A5 n.list.length c5] from rfl]; ac_rfl)).right
  · have he1 : (((x.err : Nat) : Int) == 0) = false := beq_eq_false_iff_ne.2 (by omega)
    have hr := HR.out
    rw [if_neg he] at hr
    subst hr
    have S2 := Lib.hid ((S1.out.re (show _ = (Asn.blk g8 112 #[.int .i64 x.pg, .int .i64 x.nd.tree, .int .i64 x.nd.level, .int .i64 x.nd.stamp, .bool x.nd.has, .string (ofL x.nd.high), .int .i64 x.nd.right, .slice A x.nd.list.length c] * aEnts x.nd (.slice A x.nd.list.length c)) * (aSf gs S V * C) by ac_rfl)).right.nilVec 73 8)
    clear S1 HR HPl he
    go_wp2_with fail
    go_returns
    refine ⟨.slice none 0 0, rfl, [], rfl, ?_⟩
    rw [show aLs [] = Asn.emp from rfl, emp_mul]
    exact S2.out
end
end Go.Proofs.Ytapdpdhibpblgaa.Bk
end
