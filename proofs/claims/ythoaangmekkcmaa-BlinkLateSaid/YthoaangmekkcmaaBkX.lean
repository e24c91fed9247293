/- What is to change: Split. -/
import Derived.Test.YthoaangmekkcmaaBkW
namespace Go.Proofs.Ythoaangmekkcmaa.Bk
open Go.ChangeShapes Go.WideShapes Go.ChangeAt Go.RowKit Go.PlainAid Aid Nt Nd Tr
set_option linter.unusedVariables false
set_option linter.unusedSimpArgs false
set_option linter.unusedSectionVars false
/-- What is left to do: the tree, the level, the key, the page. -/
abbrev Po := Int × Int × By × Int
def po0 : Po := (0, 0, [], 0)
def poC (x : Po) : Array Value := #[.int .i64 x.1, .int .i64 x.2.1, .string (ofL x.2.2.1), .int .i64 x.2.2.2]
/-- What Split answers. -/
def splitR (S : Sf) (root level : Int) (key : By) (f0 f1 : Int) : Nat × List (Int × Nod) × Po :=
  if (so S root level key).err = 0 then
    (if (so S root level key).nd.list.length < 2 then (1, [], po0) else
      if (so S root level key).pg ≠ root then
        (0, [((so S root level key).pg, (hlf (so S root level key).nd f0).1), (f0, (hlf (so S root level key).nd f0).2)], ((so S root level key).nd.tree, wrap64 ((so S root level key).nd.level + 1), (hlf (so S root level key).nd f0).1.high, f0))
      else if 12 ≤ (so S root level key).nd.level then (5, [], po0)
      else (0, grw (so S root level key).nd (so S root level key).pg f0 f1, po0))
  else ((so S root level key).err, [], po0)
theorem resVPI {fn : Func} {x y z : Nat} {tm : Array Value} {w : World} {g : Nat} {v v2 a0 a1 a2 a3 : Value} (hf : fn.results = #[.tmp x, .cell y 80, .tmp z]) (hx : tm[x]?.getD undef = v) (hy : tm[y]?.getD undef = .pointer (some ⟨g, 0, none⟩)) (hz : tm[z]?.getD undef = v2)
    (hB : Blk w g 80 #[a0, a1, a2, a3]) : (results fn tm).run Try.prog w = .ok (.tuple #[v, .agg #[a0, a1, a2, a3], v2]) w := by
  have c0 := hB.cell 0
  have c1 := hB.cell 1
  have c2 := hB.cell 2
  have c3 := hB.cell 3
  clear hB
  simp only [List.getElem?_toArray, List.getElem?_cons_zero, List.getElem?_cons_succ] at c0 c1 c2 c3
  unfold results
  rw [hf]
  simp [go_sem, hx, hy, hz, c0, c1, c2, c3]
theorem own_4 {w0 w : World} {O0 : Nat → Prop} {A : Asn} {g : Nat} {T : TypeId} {a0 a1 a2 a3 : Value} (h : Own w0 O0 w (Asn.blk g T #[a0, a1, a2, a3] * A)) (b0 b1 b2 b3 : Value) :
    Own w0 O0 ((((w.setCell ⟨g, 0, none⟩ b0).setCell ⟨g, 1, none⟩ b1).setCell ⟨g, 2, none⟩ b2).setCell ⟨g, 3, none⟩ b3) (Asn.blk g T #[b0, b1, b2, b3] * A) := by
  have := (((h.set (Sets.l (sets_blk g T _ 0 b0))).set (Sets.l (sets_blk g T _ 1 b1))).set (Sets.l (sets_blk g T _ 2 b2))).set (Sets.l (sets_blk g T _ 3 b3))
  simpa only [List.setIfInBounds_toArray, List.set_cons_zero, List.set_cons_succ] using this
theorem four_of {w : World} {g : Nat} {T : TypeId} {a0 a1 a2 a3 : Value} (h : Blk w g T #[a0, a1, a2, a3]) :
    (w.cell? ⟨g, 0, none⟩ = some a0 ∧ w.cell? ⟨g, 1, none⟩ = some a1 ∧ w.cell? ⟨g, 2, none⟩ = some a2 ∧ w.cell? ⟨g, 3, none⟩ = some a3) ∧ w.frozen? ⟨g, 0, none⟩ = false ∧ w.frozen? ⟨g, 1, none⟩ = false ∧ w.frozen? ⟨g, 2, none⟩ = false ∧ w.frozen? ⟨g, 3, none⟩ = false :=
  ⟨⟨h.cell 0, h.cell 1, h.cell 2, h.cell 3⟩, h.free 0, h.free 1, h.free 2, h.free 3⟩
section
variable (gs : Nat) (S : Sf) (V : Nat → Value)
set_option maxRecDepth 100000 in
set_option maxHeartbeats 32000000 in
theorem Split_any (hs : Sm S) (hv : LvOk S) (root level : Int) (key : By) (f0 f1 : Int) (w0 w : World) (C : Asn) (hS : Own w0 No w (aSf gs S V * C)) :
    Calls Try.prog 32 #[pgs gs, .int .i64 root, .int .i64 level, .string (ofL key), .agg #[.int .i64 f0, .int .i64 f1]] w fun r w' => ∃ (v : Value) (L : List Sp), r = .returned (.tuple #[v, .agg (poC (splitR S root level key f0 f1).2.2), .int .i64 (splitR S root level key f0 f1).1]) ∧ plain L = (splitR S root level key f0 f1).2.1 ∧
      Own w0 No w' (Asn.vec 73 8 v L.length (spL L) * (aLs L * (aSf gs S V * C))) := by
  have S0 := Lib.hid ((hS.alloc #[.int .i64 f0, .int .i64 f1] 83).alloc #[.int .i64 0, .int .i64 0, .string ⟨#[]⟩, .int .i64 0] 80)
  rw [show (w.alloc (.cells #[.int .i64 f0, .int .i64 f1] 83)).heap.size = w.heap.size + 1 by simp] at S0
  have HSo := Lib.hid (fun W D (h : Own w0 No W (aSf gs S V * D)) => sought_any gs S V hs.small hv root level key w0 W D h)
  have hxl := so_P (Pr := fun n => n.list.length ≤ 99999) (by decide) hs root level key
  obtain ⟨r, hr⟩ : ∃ r, r = splitR S root level key f0 f1 := ⟨_, rfl⟩
  rw [← hr]
  unfold splitR at hr
  generalize so S root level key = x at *
  have HR := Lib.hid hr
  clear hr hS
  have HP0 : Hid (poC po0 = #[.int .i64 0, .int .i64 0, .string ⟨#[]⟩, .int .i64 0]) := Lib.hid rfl
  unfold spotC pgs at *
  go_enter Try.func32, Try.ntmps32
  go_upto_region 1 with fail
  obtain ⟨g9, hgz⟩ : ∃ g, g = w.heap.size := ⟨_, rfl⟩
  rw [← hgz] at S0 ⊢
  clear hgz
  generalize World.alloc _ _ = w1 at *
  go_wp2_with fail
  refine (HSo.out _ _ (S0.out.re (show _ = aSf gs S V * (Asn.blk (g9 + 1) 80 #[.int .i64 0, .int .i64 0, .string ⟨#[]⟩, .int .i64 0] * (Asn.blk g9 83 #[.int .i64 f0, .int .i64 f1] * C)) by ac_rfl))).mono ?_
  rintro rr w2 ⟨v, rfl, hX⟩
  obtain ⟨A, c, rfl⟩ := (show Own w0 No w2 (Asn.vec 44 3 v x.nd.list.length (cells3 x.nd.list) * _) from hX).vec.slice
  have S1 := Lib.hid (hX.alloc #[.int .i64 x.pg, .int .i64 x.nd.tree, .int .i64 x.nd.level, .int .i64 x.nd.stamp, .bool x.nd.has, .string (ofL x.nd.high), .int .i64 x.nd.right, .slice A x.nd.list.length c] 100)
  clear hX HSo S0
  go_upto_region 2 with fail
  obtain ⟨g13, hgz⟩ : ∃ g, g = w2.heap.size := ⟨_, rfl⟩
  rw [← hgz] at S1 ⊢
  clear hgz
  generalize World.alloc _ _ = w3 at *
  have S1' := Lib.hid (S1.out.re (show _ = Asn.blk (g9 + 1) 80 #[.int .i64 0, .int .i64 0, .string ⟨#[]⟩, .int .i64 0] * (Asn.blk g13 100 #[.int .i64 x.pg, .int .i64 x.nd.tree, .int .i64 x.nd.level, .int .i64 x.nd.stamp, .bool x.nd.has, .string (ofL x.nd.high), .int .i64 x.nd.right, .slice A x.nd.list.length c] * (aEnts x.nd (.slice A x.nd.list.length c) * (aSf gs S V * (Asn.blk g9 83 #[.int .i64 f0, .int .i64 f1] * C)))) by ac_rfl))
  clear S1
  obtain ⟨⟨p0, p1, p2, p3⟩, l0, l1, l2, l3⟩ := four_of (S1'.out.has (Has.l (has_blk (g9 + 1) _ _)))
  have FIN : Hid (∀ W, Own w0 No W (Asn.blk (g9 + 1) 80 #[.int .i64 0, .int .i64 0, .string ⟨#[]⟩, .int .i64 0] * (Asn.blk g13 100 #[.int .i64 x.pg, .int .i64 x.nd.tree, .int .i64 x.nd.level, .int .i64 x.nd.stamp, .bool x.nd.has, .string (ofL x.nd.high), .int .i64 x.nd.right, .slice A x.nd.list.length c] * (aEnts x.nd (.slice A x.nd.list.length c) * (aSf gs S V * (Asn.blk g9 83 #[.int .i64 f0, .int .i64 f1] * C))))) → Own w0 No W (Asn.vec 73 8 (.slice none 0 0) ([] : List Sp).length (spL []) * (aLs [] * (aSf gs S V * C)))) := Lib.hid fun W h => by
    have h1 := (h.re (show _ = (Asn.blk (g9 + 1) 80 #[.int .i64 0, .int .i64 0, .string ⟨#[]⟩, .int .i64 0] * (Asn.blk g13 100 #[.int .i64 x.pg, .int .i64 x.nd.tree, .int .i64 x.nd.level, .int .i64 x.nd.stamp, .bool x.nd.has, .string (ofL x.nd.high), .int .i64 x.nd.right, .slice A x.nd.list.length c] * (aEnts x.nd (.slice A x.nd.list.length c) * Asn.blk g9 83 #[.int .i64 f0, .int .i64 f1]))) * (aSf gs S V * C) by ac_rfl)).right.nilVec 73 8
    rw [show aLs [] = Asn.emp from rfl, emp_mul]
    exact h1
  have FS : Hid (∀ W, Own w0 No W (Asn.blk (g9 + 1) 80 #[.int .i64 0, .int .i64 0, .string ⟨#[]⟩, .int .i64 0] * (Asn.blk g13 100 #[.int .i64 x.pg, .int .i64 x.nd.tree, .int .i64 x.nd.level, .int .i64 x.nd.stamp, .bool x.nd.has, .string (ofL x.nd.high), .int .i64 x.nd.right, .slice A x.nd.list.length c] * (aEnts x.nd (.slice A x.nd.list.length c) * (aSf gs S V * (Asn.blk g9 83 #[.int .i64 f0, .int .i64 f1] * C))))) → Own w0 No ((((W.setCell ⟨g9 + 1, 0, none⟩ (.int .i64 0)).setCell ⟨g9 + 1, 1, none⟩ (.int .i64 0)).setCell ⟨g9 + 1, 2, none⟩ (.string ⟨#[]⟩)).setCell ⟨g9 + 1, 3, none⟩ (.int .i64 0)) (Asn.blk (g9 + 1) 80 #[.int .i64 0, .int .i64 0, .string ⟨#[]⟩, .int .i64 0] * (Asn.blk g13 100 #[.int .i64 x.pg, .int .i64 x.nd.tree, .int .i64 x.nd.level, .int .i64 x.nd.stamp, .bool x.nd.has, .string (ofL x.nd.high), .int .i64 x.nd.right, .slice A x.nd.list.length c] * (aEnts x.nd (.slice A x.nd.list.length c) * (aSf gs S V * (Asn.blk g9 83 #[.int .i64 f0, .int .i64 f1] * C)))))) := Lib.hid fun W h => own_4 h _ _ _ _
  by_cases he : x.err = 0
  · have he0 : ((x.err : Nat) : Int) = 0 := by rw [he]; rfl
    rw [he0]
    have hr := HR.out
    rw [if_pos he] at hr
    have HR2 := Lib.hid hr
    clear hr HR he
    obtain ⟨k0, k1, k2, k3, k4, k5, k6, k7⟩ := eight_of (S1'.out.has (Has.r (Has.l (has_blk _ _ _))))
    by_cases h2 : x.nd.list.length < 2
    · have hr := HR2.out
      rw [if_pos h2] at hr
      subst hr
      have h2i : decide ((x.nd.list.length : Int) < 2) = true := decide_eq_true (by omega)
      have S2 := Lib.hid (FS.out _ S1'.out)
      clear S1' HR2 k0 k1 k2 k3 k4 k5 k6
      go_wp2_with fail
      generalize World.setCell _ _ _ = w5 at *
      exact bodyPost_ret (resVPI rfl rfl rfl rfl (S2.out.has (Has.l (has_blk _ _ _)))) rfl ⟨.slice none 0 0, rfl, [], rfl, FIN.out _ S2.out⟩
    · have h2i : decide ((x.nd.list.length : Int) < 2) = false := decide_eq_false (by omega)
      have hr := HR2.out
      rw [if_neg h2] at hr
      have HR3 := Lib.hid hr
      clear HR2 hr
      obtain ⟨b, rfl, hcc, hcm⟩ : ∃ b, A = some ⟨b, 0, none⟩ ∧ x.nd.list.length ≤ c ∧ c ≤ 9223372036854775807 := by
        rcases (show Own w0 No w3 (Asn.vec 44 3 (.slice A x.nd.list.length c) x.nd.list.length (cells3 x.nd.list) * _) from S1'.out.right.right).vec.forms with ⟨-, hz⟩ | ⟨g, cap, h, -, h1, h3⟩
        · omega
        · cases h; exact ⟨_, rfl, h1, by unfold maxLen at h3; omega⟩
      by_cases hpr : x.pg ≠ root
      · have hpb : (x.pg == root) = false := beq_eq_false_iff_ne.2 hpr
        have hr := HR3.out
        rw [if_pos hpr] at hr
        subst hr
        have HPa := Lib.hid (part_any x.pg x.nd f0 b 0 c w3 (Row3.of_vec (show Own w0 No w3 (Asn.vec 44 3 (.slice (some ⟨b, 0, none⟩) x.nd.list.length c) x.nd.list.length (cells3 x.nd.list) * _) from S1'.out.right.right).vec) hcc hcm (by omega) (by omega))
        have y0 := (S1'.out.has (Has.r (Has.r (Has.r (Has.r (Has.l (has_blk g9 _ _))))))).cell 0
        unfold spotC at HPa
        rw [Go.PlainAid.i64_is] at HPa
        clear FS FIN
        obtain ⟨hh, hhh⟩ : ∃ hh, hh = hlf x.nd f0 := ⟨_, rfl⟩
        rw [← hhh] at HPa
        have HHH := Lib.hid hhh
        clear hhh
        go_wp2_with fail
        refine HPa.out.mono ?_
        rintro rr w4 ⟨v7, L, rfl, hpl, hX⟩
        have T := own_join S1'.out hX
        have T1 := Lib.hid ((T.alloc #[.int .i64 x.nd.tree, .int .i64 (wrap64 (x.nd.level + 1)), .string (ofL hh.1.high), .int .i64 f0] 80).re (show _ = Asn.blk (g9 + 1) 80 #[.int .i64 0, .int .i64 0, .string ⟨#[]⟩, .int .i64 0] * (Asn.blk w4.heap.size 80 #[.int .i64 x.nd.tree, .int .i64 (wrap64 (x.nd.level + 1)), .string (ofL hh.1.high), .int .i64 f0] * ((Asn.vec 73 8 v7 L.length (spL L) * aLs L) * (Asn.blk g13 100 #[.int .i64 x.pg, .int .i64 x.nd.tree, .int .i64 x.nd.level, .int .i64 x.nd.stamp, .bool x.nd.has, .string (ofL x.nd.high), .int .i64 x.nd.right, .slice (some ⟨b, 0, none⟩) x.nd.list.length c] * (aEnts x.nd (.slice (some ⟨b, 0, none⟩) x.nd.list.length c) * (aSf gs S V * (Asn.blk g9 83 #[.int .i64 f0, .int .i64 f1] * C)))))) by ac_rfl))
        clear hX T S1' HPa y0 k0 k1 k2 k3 k4 k5 k6 k7 p0 p1 p2 p3 l0 l1 l2 l3
        go_upto_region 8 with fail
        obtain ⟨g16, hgz⟩ : ∃ g, g = w4.heap.size := ⟨_, rfl⟩
        rw [← hgz] at T1 ⊢
        clear hgz
        generalize World.alloc _ _ = w5 at *
        have T2 := Lib.hid ((own_4 T1.out (.int .i64 x.nd.tree) (.int .i64 (wrap64 (x.nd.level + 1))) (.string (ofL hh.1.high)) (.int .i64 f0)).drew)
        obtain ⟨⟨p0, p1, p2, p3⟩, l0, l1, l2, l3⟩ := four_of (T1.out.has (Has.l (has_blk (g9 + 1) _ _)))
        obtain ⟨⟨q0, q1, q2, q3⟩, -⟩ := four_of (T1.out.has (Has.r (Has.l (has_blk g16 _ _))))
        have HPL := Lib.hid hpl
        clear hpl
        go_region_law fail
        all_goals
          go_wp2_with fail
          generalize World.drew _ = w9 at *
          have hhh := HHH.out
          subst hhh
          exact bodyPost_ret (resVPI rfl rfl rfl rfl (T2.out.has (Has.l (has_blk _ _ _)))) rfl ⟨v7, rfl, L, HPL.out, (T2.out.re (show _ = (Asn.blk (g9 + 1) 80 #[.int .i64 x.nd.tree, .int .i64 (wrap64 (x.nd.level + 1)), .string (ofL (hlf x.nd f0).1.high), .int .i64 f0] * (Asn.blk g16 80 #[.int .i64 x.nd.tree, .int .i64 (wrap64 (x.nd.level + 1)), .string (ofL (hlf x.nd f0).1.high), .int .i64 f0] * (Asn.blk g13 100 #[.int .i64 x.pg, .int .i64 x.nd.tree, .int .i64 x.nd.level, .int .i64 x.nd.stamp, .bool x.nd.has, .string (ofL x.nd.high), .int .i64 x.nd.right, .slice (some ⟨b, 0, none⟩) x.nd.list.length c] * (aEnts x.nd (.slice (some ⟨b, 0, none⟩) x.nd.list.length c) * Asn.blk g9 83 #[.int .i64 f0, .int .i64 f1])))) * (Asn.vec 73 8 v7 L.length (spL L) * (aLs L * (aSf gs S V * C))) by ac_rfl)).right⟩
      · have hpr' : x.pg = root := Decidable.byContradiction hpr
        have hpb : (x.pg == x.pg) = true := beq_iff_eq.2 rfl
        subst hpr'
        have hr := HR3.out
        rw [if_neg hpr] at hr
        have HR4 := Lib.hid hr
        clear hr HR3
        by_cases hlv : 12 ≤ x.nd.level
        · have hli : decide (12 ≤ x.nd.level) = true := decide_eq_true hlv
          have hr := HR4.out
          rw [if_pos hlv] at hr
          subst hr
          have S2 := Lib.hid (FS.out _ S1'.out)
          clear S1' HR4
          go_wp2_with fail
          generalize World.setCell _ _ _ = w5 at *
          exact bodyPost_ret (resVPI rfl rfl rfl rfl (S2.out.has (Has.l (has_blk _ _ _)))) rfl ⟨.slice none 0 0, rfl, [], rfl, FIN.out _ S2.out⟩
        · have hli : decide (12 ≤ x.nd.level) = false := decide_eq_false hlv
          have hr := HR4.out
          rw [if_neg hlv] at hr
          subst hr
          have HGr := Lib.hid (grow_any x.pg x.nd f0 f1 b 0 c w3 (Row3.of_vec (show Own w0 No w3 (Asn.vec 44 3 (.slice (some ⟨b, 0, none⟩) x.nd.list.length c) x.nd.list.length (cells3 x.nd.list) * _) from S1'.out.right.right).vec) hcc hcm (by omega) (by omega))
          have hy := S1'.out.has (Has.r (Has.r (Has.r (Has.r (Has.l (has_blk g9 _ _))))))
          have y0 := hy.cell 0
          have y1 := hy.cell 1
          unfold spotC at HGr
          clear FS FIN HR4
          go_wp2_with fail
          refine HGr.out.mono ?_
          rintro rr w4 ⟨v7, L, rfl, hpl, hX⟩
          have T := own_join S1'.out hX
          have T1 := Lib.hid (T.re (show _ = Asn.blk (g9 + 1) 80 #[.int .i64 0, .int .i64 0, .string ⟨#[]⟩, .int .i64 0] * ((Asn.vec 73 8 v7 L.length (spL L) * aLs L) * (Asn.blk g13 100 #[.int .i64 x.pg, .int .i64 x.nd.tree, .int .i64 x.nd.level, .int .i64 x.nd.stamp, .bool x.nd.has, .string (ofL x.nd.high), .int .i64 x.nd.right, .slice (some ⟨b, 0, none⟩) x.nd.list.length c] * (aEnts x.nd (.slice (some ⟨b, 0, none⟩) x.nd.list.length c) * (aSf gs S V * (Asn.blk g9 83 #[.int .i64 f0, .int .i64 f1] * C))))) by ac_rfl))
          clear hX T S1' HGr hy y0 y1 k0 k1 k2 k3 k4 k5 k6 k7 p0 p1 p2 p3 l0 l1 l2 l3
          obtain ⟨⟨p0, p1, p2, p3⟩, l0, l1, l2, l3⟩ := four_of (T1.out.has (Has.l (has_blk (g9 + 1) _ _)))
          have T2 := Lib.hid (own_4 T1.out (.int .i64 0) (.int .i64 0) (.string ⟨#[]⟩) (.int .i64 0))
          have HPL := Lib.hid hpl
          clear T1 hpl
          go_wp2_with fail
          generalize World.setCell _ _ _ = w9 at *
          exact bodyPost_ret (resVPI rfl rfl rfl rfl (T2.out.has (Has.l (has_blk _ _ _)))) rfl ⟨v7, rfl, L, HPL.out, (T2.out.re (show _ = (Asn.blk (g9 + 1) 80 #[.int .i64 0, .int .i64 0, .string ⟨#[]⟩, .int .i64 0] * (Asn.blk g13 100 #[.int .i64 x.pg, .int .i64 x.nd.tree, .int .i64 x.nd.level, .int .i64 x.nd.stamp, .bool x.nd.has, .string (ofL x.nd.high), .int .i64 x.nd.right, .slice (some ⟨b, 0, none⟩) x.nd.list.length c] * (aEnts x.nd (.slice (some ⟨b, 0, none⟩) x.nd.list.length c) * Asn.blk g9 83 #[.int .i64 f0, .int .i64 f1]))) * (Asn.vec 73 8 v7 L.length (spL L) * (aLs L * (aSf gs S V * C))) by ac_rfl)).right⟩
  · have he1 : (((x.err : Nat) : Int) == 0) = false := beq_eq_false_iff_ne.2 (by omega)
    have hr := HR.out
    rw [if_neg he] at hr
    subst hr
    have S2 := Lib.hid (FS.out _ S1'.out)
    clear S1' HR he
    go_wp2_with fail
    generalize World.setCell _ _ _ = w5 at *
    exact bodyPost_ret (resVPI rfl rfl rfl rfl (S2.out.has (Has.l (has_blk _ _ _)))) rfl ⟨.slice none 0 0, rfl, [], rfl, FIN.out _ S2.out⟩
end
end Go.Proofs.Ythoaangmekkcmaa.Bk
