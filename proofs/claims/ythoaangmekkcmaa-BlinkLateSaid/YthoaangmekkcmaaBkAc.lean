/- Texts of ours, joined. -/
import Derived.Test.YthoaangmekkcmaaBkN
import Derived.Test.YthoaangmekkcmaaDyB

-- joined
section
namespace Go.Proofs.Ythoaangmekkcmaa.Bk
open Go.ChangeShapes Go.WideShapes Go.ChangeAt Go.RowKit Go.PlainAid Aid Nt Nd Tr
set_option linter.unusedVariables false
set_option linter.unusedSimpArgs false
def zeroL : List Value := nws 256 (fun _ => Nod.none) (fun _ => .slice none 0 0)
set_option maxRecDepth 100000 in
theorem run_b (W : World) : (Instr.build 120 #[]).run Try.prog W = .ok (.agg zeroL.toArray) W := by kernel_rfl
theorem list_build0 {P : Program} {ops : Array Oper} {rest : List Oper} {o : Oper} {a : Act} {Q : Exit → Act → World → Prop} {w : World} (hgd : o.guard = none) (T : TypeId) (ho : o.op = .build T #[])
    (v : Value) (hr : (Instr.build T #[]).run P w = .ok v w) (h : wpList P ops Q rest (a.put o.dst v) w) : wpList P ops Q (o :: rest) a w := by
  refine wpList_plain hgd fun K hK => ?_
  unfold Oper.wp execOp
  simp only [ho, List.map_toArray, List.map_nil, Sem.run_bind, Sem.run_pure, Result.andThen_ok, hr]
  exact hK _ _ h
theorem rows_none : Imp Asn.emp (aRows (fun _ => Nod.none) (fun _ => .slice none 0 0)) := fun w O h =>
  ⟨fun p hp => ⟨Vec.nil w 44 3, fun k hk => by cases hk⟩, fun k hk => (h k hk).elim⟩
theorem New_any (w : World) :
    Calls Try.prog 29 #[] w fun e w' => ∃ gs V, e = .returned (sPtr gs) ∧ Own w No w' (aSf gs (fun _ => Nod.none) V) := by
  have HS : Hid (Own w No (w.alloc (.cells zeroL.toArray 120)) (aSf w.heap.size (fun _ => Nod.none) (fun _ => .slice none 0 0))) := Lib.hid (by
    exact (((Own.none w).alloc zeroL.toArray 120).imp (Imp.l (blk_vec 256 7 (by unfold zeroL; rw [nws_len]) (by decide)))).imp (Imp.r rows_none))
  generalize hz : zeroL = Z at *
  go_enter Try.func29, Try.ntmps29
  go_wp2_with (with_reducible refine list_build0 rfl 120 rfl (.agg Z.toArray) ?b1 ?_)
  case b1 => rw [← hz]; exact run_b _
  go_returns
  exact ⟨_, _, rfl, HS.out⟩
end Go.Proofs.Ythoaangmekkcmaa.Bk
end

-- joined
section
namespace Go.Proofs.Ythoaangmekkcmaa.Bk
open Go.ChangeShapes Go.WideShapes Go.ChangeAt Go.RowKit Go.PlainAid Aid Nt Nd Tr
set_option linter.unusedVariables false
set_option linter.unusedSimpArgs false
set_option linter.unusedSectionVars false
/-- What Drop answers. -/
def dropR (S : Sf) (root : Int) (key : By) : Nat × List (Int × Nod) :=
  if (so S root 0 key).err = 0 then
    (if (plc (so S root 0 key).nd key).2 then (0, [((so S root 0 key).pg, { (so S root 0 key).nd with list := (so S root 0 key).nd.list.eraseIdx (plc (so S root 0 key).nd key).1.toNat })]) else (7, []))
  else ((so S root 0 key).err, [])
section
variable (gs : Nat) (S : Sf) (V : Nat → Value)
end
end Go.Proofs.Ythoaangmekkcmaa.Bk
end

-- joined
section
namespace Go.Proofs.Ythoaangmekkcmaa.Bk
open Go.ChangeShapes Go.WideShapes Go.ChangeAt Go.RowKit Go.PlainAid Aid Nt Nd Tr
set_option linter.unusedVariables false
set_option linter.unusedSimpArgs false
set_option linter.unusedSectionVars false
/-- What Get answers. -/
def getR (S : Sf) (root : Int) (key : By) : Nat × Bool × Ent :=
  if (so S root 0 key).err = 0 then
    (if (plc (so S root 0 key).nd key).2 then (match (so S root 0 key).nd.list[(plc (so S root 0 key).nd key).1.toNat]? with
      | some e => (0, true, e)
      | none => (0, true, ⟨[], [], false⟩)) else (0, false, ⟨[], [], false⟩))
  else ((so S root 0 key).err, false, ⟨[], [], false⟩)
theorem resE {fn : Func} {x y z : Nat} {tm : Array Value} {w : World} {g : Nat} {a0 a1 a2 v1 v2 : Value} (hf : fn.results = #[.cell x 44, .tmp y, .tmp z]) (hx : tm[x]?.getD undef = .pointer (some ⟨g, 0, none⟩)) (hy : tm[y]?.getD undef = v1) (hz : tm[z]?.getD undef = v2)
    (hB : Blk w g 44 #[a0, a1, a2]) : (results fn tm).run Try.prog w = .ok (.tuple #[.agg #[a0, a1, a2], v1, v2]) w := by
  have c0 := hB.cell 0
  have c1 := hB.cell 1
  have c2 := hB.cell 2
  clear hB
  unfold results
  rw [hf]
  simp only [List.getElem?_toArray, List.getElem?_cons_zero, List.getElem?_cons_succ] at c0 c1 c2
  simp [go_sem, hx, hy, hz, c0, c1, c2]
section
variable (gs : Nat) (S : Sf) (V : Nat → Value)
set_option maxRecDepth 100000 in
set_option maxHeartbeats 16000000 in
theorem Get_any (hs : Sm S) (hv : LvOk S) (root : Int) (key : By) (w0 w : World) (C : Asn) (hS : Own w0 No w (aSf gs S V * C)) :
    Calls Try.prog 16 #[pgs gs, .int .i64 root, .string (ofL key)] w fun r w' => r = .returned (.tuple #[.agg (entCells (getR S root key).2.2), .bool (getR S root key).2.1, .int .i64 (getR S root key).1]) ∧ Own w0 No w' (aSf gs S V * C) := by
  have S0 := Lib.hid (hS.alloc #[.string ⟨#[]⟩, .string ⟨#[]⟩, .bool false] 44)
  have HSo := Lib.hid (fun W (h : Own w0 No W (Asn.blk w.heap.size 44 #[.string ⟨#[]⟩, .string ⟨#[]⟩, .bool false] * (aSf gs S V * C))) => sought_any gs S V hs.small hv root 0 key w0 W _ (h.re (show _ = aSf gs S V * (Asn.blk w.heap.size 44 #[.string ⟨#[]⟩, .string ⟨#[]⟩, .bool false] * C) by ac_rfl)))
  obtain ⟨r, hr⟩ : ∃ r, r = getR S root key := ⟨_, rfl⟩
  rw [← hr]
  unfold getR at hr
  generalize so S root 0 key = x at *
  have HPl := Lib.hid (fun v W (h : NodAt W v x.nd) => place_any x.nd key v W h)
  obtain ⟨q, hit, hpl, hih, hil⟩ := plc_form x.nd key
  rw [hpl] at HPl hr
  rw [Int.toNat_natCast] at hr
  have HR := Lib.hid hr
  clear hr hS hpl
  unfold spotC pgs entCells at *
  go_enter Try.func16, Try.ntmps16
  go_upto_region 1 with fail
  obtain ⟨g6, hgz⟩ : ∃ g, g = w.heap.size := ⟨_, rfl⟩
  rw [← hgz] at S0 HSo ⊢
  clear hgz
  generalize World.alloc _ _ = w1 at *
  go_wp2_with fail
  refine (HSo.out _ S0.out).mono ?_
  rintro rr w2 ⟨v, rfl, hX⟩
  obtain ⟨A, c, rfl⟩ := (show Own w0 No w2 (Asn.vec 44 3 v x.nd.list.length (cells3 x.nd.list) * _) from hX).vec.slice
  have S1 := Lib.hid ((hX.alloc #[.int .i64 x.pg, .int .i64 x.nd.tree, .int .i64 x.nd.level, .int .i64 x.nd.stamp, .bool x.nd.has, .string (ofL x.nd.high), .int .i64 x.nd.right, .slice A x.nd.list.length c] 100).re (show _ = Asn.blk g6 44 #[.string ⟨#[]⟩, .string ⟨#[]⟩, .bool false] * (Asn.blk w2.heap.size 100 #[.int .i64 x.pg, .int .i64 x.nd.tree, .int .i64 x.nd.level, .int .i64 x.nd.stamp, .bool x.nd.has, .string (ofL x.nd.high), .int .i64 x.nd.right, .slice A x.nd.list.length c] * (aEnts x.nd (.slice A x.nd.list.length c) * (aSf gs S V * C))) by ac_rfl))
  clear hX HSo S0
  go_upto_region 2 with fail
  obtain ⟨g8, hgz⟩ : ∃ g, g = w2.heap.size := ⟨_, rfl⟩
  rw [← hgz] at S1 ⊢
  clear hgz
  generalize World.alloc _ _ = w3 at *
  by_cases he : x.err = 0
  · have he0 : ((x.err : Nat) : Int) = 0 := by rw [he]; rfl
    rw [he0]
    have hr := HR.out
    rw [if_pos he] at hr
    have HR2 := Lib.hid hr
    clear hr HR he
    obtain ⟨k0, k1, k2, k3, k4, k5, k6, k7⟩ := eight_of (S1.out.has (Has.r (Has.l (has_blk _ _ _))))
    have HPl1 := Lib.hid (HPl.out (.agg (nodCells x.nd (.slice A x.nd.list.length c))) w3 (ents_at S1.out.right.right.left))
    unfold nodCells at HPl1
    clear HPl
    go_wp2_with fail
    refine HPl1.out.mono ?_
    rintro rr w4 ⟨rfl, hX⟩
    have S2 := Lib.hid (S1.out.below hX)
    clear hX S1 HPl1 k0 k1 k2 k3 k4 k5 k6 k7
    have hb6 := S2.out.has (Has.l (has_blk _ _ _))
    have d0 := hb6.cell 0
    have d1 := hb6.cell 1
    have d2 := hb6.cell 2
    have f0 := hb6.free 0
    have f1 := hb6.free 1
    have f2 := hb6.free 2
    cases hit with
    | false =>
      have hr := HR2.out
      rw [if_neg (by decide)] at hr
      subst hr
      have S3 := Lib.hid (((S2.out.set (Sets.l (sets_blk g6 44 _ 0 (.string ⟨#[]⟩)))).set (Sets.l (sets_blk g6 44 _ 1 (.string ⟨#[]⟩)))).set (Sets.l (sets_blk g6 44 _ 2 (.bool false))))
      simp only [List.setIfInBounds_toArray, List.set_cons_zero, List.set_cons_succ] at S3
      clear S2 HR2 hb6
      go_wp2_with fail
      generalize World.setCell _ _ _ = w5 at *
      exact bodyPost_ret (resE rfl rfl rfl rfl (S3.out.has (Has.l (has_blk _ _ _)))) rfl ⟨rfl, S3.out.right.right.right⟩
    | true =>
      have hq := hih rfl
      have he : x.nd.list[q]? = some (x.nd.list[q]'hq) := List.getElem?_eq_getElem hq
      generalize x.nd.list[q]'hq = e at he
      have hr := HR2.out
      rw [if_pos rfl, he] at hr
      subst hr
      have hiq : (q : Int) < (x.nd.list.length : Int) := by omega
      obtain ⟨b, rfl⟩ : ∃ b, A = some ⟨b, 0, none⟩ := by
        rcases (show Own w0 No w4 (Asn.vec 44 3 (.slice A x.nd.list.length c) x.nd.list.length (cells3 x.nd.list) * _) from S2.out.right.right).vec.forms with ⟨-, hz⟩ | ⟨g, cap, h, -⟩
        · omega
        · cases h; exact ⟨_, rfl⟩
      have hvc := (show Own w0 No w4 (Asn.vec 44 3 (.slice (some ⟨b, 0, none⟩) x.nd.list.length c) x.nd.list.length (cells3 x.nd.list) * _) from S2.out.right.right).vec
      have e0 : w4.cell? ⟨b, q * 3, none⟩ = some (.string (ofL e.key)) := hvc.cell (j := q * 3 + 0) (by rw [cells3_at x.nd.list q 0 e he (by decide)]; rfl)
      have e1 : w4.cell? ⟨b, q * 3 + 1, none⟩ = some (.string (ofL e.val)) := hvc.cell (by rw [cells3_at x.nd.list q 1 e he (by decide)]; rfl)
      have e2 : w4.cell? ⟨b, q * 3 + 2, none⟩ = some (.bool e.ghost) := hvc.cell (by rw [cells3_at x.nd.list q 2 e he (by decide)]; rfl)
      have k7 := (S2.out.has (Has.r (Has.l (has_blk g8 _ _)))).cell 7
      have S3 := Lib.hid (((S2.out.set (Sets.l (sets_blk g6 44 _ 0 (.string (ofL e.key))))).set (Sets.l (sets_blk g6 44 _ 1 (.string (ofL e.val))))).set (Sets.l (sets_blk g6 44 _ 2 (.bool e.ghost))))
      simp only [List.setIfInBounds_toArray, List.set_cons_zero, List.set_cons_succ] at S3
      clear S2 HR2 hvc hih hil he hb6
      go_wp2_with fail
      generalize World.setCell _ _ _ = w5 at *
      exact bodyPost_ret (resE rfl rfl rfl rfl (S3.out.has (Has.l (has_blk _ _ _)))) rfl ⟨rfl, S3.out.right.right.right⟩
  · have he1 : (((x.err : Nat) : Int) == 0) = false := beq_eq_false_iff_ne.2 (by omega)
    have hr := HR.out
    rw [if_neg he] at hr
    subst hr
    have hb6 := S1.out.has (Has.l (has_blk _ _ _))
    have d0 := hb6.cell 0
    have d1 := hb6.cell 1
    have d2 := hb6.cell 2
    have f0 := hb6.free 0
    have f1 := hb6.free 1
    have f2 := hb6.free 2
    have S3 := Lib.hid (((S1.out.set (Sets.l (sets_blk g6 44 _ 0 (.string ⟨#[]⟩)))).set (Sets.l (sets_blk g6 44 _ 1 (.string ⟨#[]⟩)))).set (Sets.l (sets_blk g6 44 _ 2 (.bool false))))
    simp only [List.setIfInBounds_toArray, List.set_cons_zero, List.set_cons_succ] at S3
    clear S1 HR HPl he hb6
    go_wp2_with fail
    generalize World.setCell _ _ _ = w5 at *
    exact bodyPost_ret (resE rfl rfl rfl rfl (S3.out.has (Has.l (has_blk _ _ _)))) rfl ⟨rfl, S3.out.right.right.right⟩
set_option maxRecDepth 100000 in
set_option maxHeartbeats 16000000 in
theorem Height_any (hs : Sm S) (hv : LvOk S) (root : Int) (w0 w : World) (C : Asn) (hS : Own w0 No w (aSf gs S V * C)) :
    Calls Try.prog 22 #[pgs gs, .int .i64 root] w fun r w' => ∃ z : Int, r = .returned (.tuple #[.int .i64 z, .int .i64 (vis S 256 root).err]) ∧ ((vis S 256 root).err = 0 → 0 ≤ (vis S 256 root).nd.level → (vis S 256 root).nd.level ≤ 100 → z = (vis S 256 root).nd.level + 1) ∧ Own w0 No w' (aSf gs S V * C) := by
  have S0 := Lib.hid ((hS.alloc #[pgs gs, .int .i64 0] 95).re (show _ = aG w.heap.size gs 256 * (aSf gs S V * C) by unfold aG; rw [show (256 : Int) - ((256 : Nat) : Int) = 0 from rfl]))
  have HVi := Lib.hid (fun gg W (h : Own w0 No W (aG gg gs 256 * (aSf gs S V * C))) => visit_any gs S V hs.small gg 256 (Nat.le_refl _) root w0 W C h)
  generalize vis S 256 root = x at *
  clear hS
  unfold spotC pgs sPtr at *
  go_enter Try.func22, Try.ntmps22
  go_upto_region 2 with fail
  obtain ⟨g6, hgz⟩ : ∃ g, g = w.heap.size := ⟨_, rfl⟩
  rw [← hgz] at S0 ⊢
  clear hgz
  generalize World.alloc _ _ = w1 at *
  go_wp2_with fail
  refine (HVi.out _ _ S0.out).mono ?_
  rintro rr w2 ⟨v, rfl, hX⟩
  obtain ⟨A, c, rfl⟩ := (show Own w0 No w2 (Asn.vec 44 3 v x.nd.list.length (cells3 x.nd.list) * _) from hX).vec.slice
  have S1 := Lib.hid (hX.alloc #[.int .i64 x.pg, .int .i64 x.nd.tree, .int .i64 x.nd.level, .int .i64 x.nd.stamp, .bool x.nd.has, .string (ofL x.nd.high), .int .i64 x.nd.right, .slice A x.nd.list.length c] 100)
  clear hX HVi S0
  go_upto_region 3 with fail
  obtain ⟨g8, hgz⟩ : ∃ g, g = w2.heap.size := ⟨_, rfl⟩
  rw [← hgz] at S1 ⊢
  clear hgz
  generalize World.alloc _ _ = w3 at *
  have S2 := Lib.hid (S1.out.right.right.right)
  have k2 := (S1.out.has (Has.l (has_blk _ _ _))).cell 2
  clear S1
  obtain ⟨lf, err, pg, nd⟩ := x
  dsimp only at *
  by_cases he : err = 0
  · subst he
    have HZ : Hid (0 ≤ nd.level → nd.level ≤ 100 → wrap64 (nd.level + 1) = nd.level + 1) := Lib.hid fun h1 h2 => by unfold wrap64; omega
    go_wp2_with fail
    go_returns
    exact ⟨_, rfl, by intros; exact HZ.out (by assumption) (by assumption), S2.out⟩
  · have he1 : (((err : Nat) : Int) == 0) = false := beq_eq_false_iff_ne.2 (by omega)
    have HE := Lib.hid he
    clear he
    go_wp2_with fail
    go_returns
    exact ⟨0, rfl, by intro h; exact absurd h HE.out, S2.out⟩
end
end Go.Proofs.Ythoaangmekkcmaa.Bk
end

-- joined
section
namespace Go.Proofs.Ythoaangmekkcmaa.Bk
open Go.ChangeShapes Go.WideShapes Go.ChangeAt Go.RowKit Go.PlainAid Aid Nt Nd Tr
set_option linter.unusedVariables false
set_option linter.unusedSimpArgs false
set_option linter.unusedSectionVars false
/-- The pages that Seek answers. -/
def pagesR (S : Sf) (root level : Int) (key : By) : List Int := (seek S 256 root level key).2.2.map fun x => x.1
theorem infoInt : (Try.prog.info? 3).map (fun i => (i.zero, i.size, i.bytes)) = some (some (.int .i64 0), 1, 8) := by kernel_rfl
section
variable (gs : Nat) (S : Sf) (V : Nat → Value)
end
end Go.Proofs.Ythoaangmekkcmaa.Bk
end

-- joined
section
namespace Go.Proofs.Ythoaangmekkcmaa.Bk
open Go.ChangeShapes Go.WideShapes Go.ChangeAt Go.RowKit Go.PlainAid Aid Nt Nd Tr
set_option linter.unusedVariables false
set_option linter.unusedSimpArgs false
set_option linter.unusedSectionVars false
section
variable (gs : Nat) (S : Sf) (V : Nat → Value)
end
end Go.Proofs.Ythoaangmekkcmaa.Bk
end
