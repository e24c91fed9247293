/- Texts of ours, joined. -/
import Derived.Test.YteiiogaopgfpfaaBmQ
import Derived.Test.YteiiogaopgfpfaaBkAd

-- joined
section
namespace Go.Proofs.Yteiiogaopgfpfaa.Bk
open Go.ChangeShapes Go.WideShapes Go.ChangeAt Go.RowKit Go.PlainAid Aid Nt Nd Tr
open Ky (keyZ key_any)
set_option linter.unusedVariables false
set_option linter.unusedSimpArgs false
set_option linter.unusedSectionVars false
theorem Wg.small {S : Sf} {l : List Ent} {ps : List Du} {n top : Nat} {ch : Nat → List Nat} (h : Wg S l ps n top ch) : Sm S ∧ LvOk S := by
  have ht := h.four
  have hk : ∀ p, (S p).list.length ≤ 99999 ∧ (S p).level ≤ 9223372036854775807 := fun p => by
    by_cases hp : ∃ K, K ≤ top ∧ p ∈ ch K
    · obtain ⟨K, hK, hm⟩ := hp
      obtain ⟨A, B, e⟩ := List.append_of_mem hm
      have hl := h.tree.lvl K hK
      rw [e] at hl
      obtain ⟨l', hp⟩ := hl.pos
      have h1 := fits_len hp.ok.ft
      have h2 := hp.ok.lv
      exact ⟨by omega, by omega⟩
    · rw [h.out p (fun K hK hm => hp ⟨K, hK, hm⟩)]
      exact ⟨Nat.zero_le _, by decide⟩
  exact ⟨fun p _ => (hk p).1, fun p _ => (hk p).2⟩
theorem WS.of {S : Sf} {l : List Ent} {ps : List Du} {n top : Nat} {ch : Nat → List Nat} (h : Wg S l ps n top ch) (hp : ps.length ≤ n) : WS S l ps n top ch := ⟨h, h.small.1, h.small.2, hp⟩
theorem list_slice1 {P : Program} {ops : Array Oper} {rest : List Oper} {o : Oper} {a : Go.Act} {Q : Exit → Go.Act → World → Prop} {w w' : World} (hgd : o.guard = none) (T : TypeId) (x : Operand) (ho : o.op = .buildSlice T 1 #[(0, x)]) (xv : Value) (hx : a.eval x = xv)
    (v : Value) (hr : (Instr.buildSlice T 1 #[(0, xv)]).run P w = .ok v w') (h : wpList P ops Q rest (a.put o.dst v) w') : wpList P ops Q (o :: rest) a w := by
  refine wpList_plain hgd fun K hK => ?_
  unfold Oper.wp execOp
  subst hx
  simp only [ho, List.map_toArray, List.map_cons, List.map_nil, Sem.run_bind, Sem.run_pure, Result.andThen_ok, hr]
  exact hK _ _ h
theorem slice_page (cc : Int) (w : World) : (Instr.buildSlice 68 1 #[(0, .agg #[.int .i64 cc, .int .i64 0, .int .i64 0, .int .i64 0, .bool false, .string ⟨#[]⟩, .int .i64 0, .slice none 0 0])]).run Try.prog w = .ok (.slice (some ⟨w.heap.size, 0, none⟩) 1 1) (w.alloc (.cells #[.int .i64 cc, .int .i64 0, .int .i64 0, .int .i64 0, .bool false, .string ⟨#[]⟩, .int .i64 0, .slice none 0 0] 73)) := by
  go_simp
/-- What taking out a leaf comes to. -/
theorem WS.shrink {S : Sf} {l : List Ent} {n top : Nat} {ch : Nat → List Nat} (h : WS S l [] n top ch) (key : By) (hk : key.length = 9) :
    shrR S 3 key = (13, [], 0) ∨ ∃ (c : Nat) (cs : List (Int × Nod)) (ps' : List Nat), shrR S 3 key = (0, cs, (c : Int)) ∧ cs.length = 2 ∧ (∀ x, x ∈ cs → x.2.list.length ≤ 99999) ∧ 0 < c ∧ c < 256 ∧ ps'.length + 1 = (ch 0).length ∧ WS (puts (puts S cs) [((c : Int), Nod.none)]) l [] n top (up ch 0 ps') := by
  rcases h.wg.shrink key hk with g | ⟨c, d, pa, n', na', ps', g1, g2, g3, ⟨b1, b2, b3, b4⟩, g4, g5⟩
  · exact Or.inl g
  · have e : puts (puts S [((d : Int), n'), ((pa : Int), na')]) [((c : Int), Nod.none)] = up (up (up S d n') pa na') c Nod.none := by
      rw [puts_two _ _ _ _ _ b1 b2, puts_one _ _ _ g3]
    refine Or.inr ⟨c, _, ps', g1, rfl, ?_, g2, g3, g4, ?_⟩
    · intro x hx
      simp only [List.mem_cons, List.not_mem_nil, or_false] at hx
      rcases hx with rfl | rfl
      · exact b3
      · exact b4
    · rw [e]
      exact WS.of g5 (Nat.zero_le _)
set_option maxRecDepth 100000 in
set_option maxHeartbeats 16000000 in
theorem do_shrink (g gs : Nat) (S : Sf) (V : Nat → Value) (vl : Value) (l : List Ent) (vp : Value) (ps : List Du) (n top : Nat) (ch : Nat → List Nat) (kd K N : Int) (h1 : kd ≠ 1) (h2 : kd ≠ 2) (h3 : kd ≠ 3) (h4 : kd ≠ 4) (h5 : kd ≠ 5) (hW : WS S l ps n top ch) (hn : n + 8 < 256)
    (w0 w : World) (C : Asn) (hS : Own w0 No w (aWd g gs S V vl l vp (ps.map du) n * C)) :
    Calls Try.prog 9 #[.pointer (some ⟨g, 0, none⟩), .agg #[.int .i64 kd, .int .i64 K, .int .i64 N]] w fun r w' => r = .returned (.bool true) ∧ ∃ B, WP g gs n B ∧ Own w0 No w' (B * C) := by
  obtain ⟨q, hq, hqe⟩ := key_act K
  have hwp : Hid (WP g gs n (aWd g gs S V vl l vp (ps.map du) n)) := Lib.hid ⟨S, V, vl, l, vp, ps, n, top, ch, hW, by omega, rfl⟩
  have HW := Lib.hid hW
  have hpl := hW.pl
  have S0 := Lib.hid (hS.alloc #[.int .i64 kd, .int .i64 K, .int .i64 N] 33)
  clear hW hS
  go_enter Try.func9, Try.ntmps9
  go_upto_region 1 with fail
  obtain ⟨ge, hgz⟩ : ∃ g, g = w.heap.size := ⟨_, rfl⟩
  rw [← hgz] at S0 ⊢
  clear hgz
  generalize World.alloc w _ = w1 at *
  obtain ⟨⟨e0, e1, e2⟩, -⟩ := three_ofE (S0.out.has (Has.l (has_blk ge _ _)))
  go_wp2_with fail
  refine (key_any q w1 (by omega) (by omega)).mono ?_
  rintro e w2 ⟨rfl, hX⟩
  have S1 := Lib.hid (S0.out.below hX)
  clear hX S0 e0 e1 e2
  unfold aWd sPtr at S1
  obtain ⟨A, c, hvp⟩ := (S1.out.re (show _ = Asn.vec 79 4 vp (ps.map du).length (poL (ps.map du)) * (Asn.blk ge 33 #[.int .i64 kd, .int .i64 K, .int .i64 N] * (Asn.blk g 30 #[.pointer (some ⟨gs, 0, none⟩), vl, vp, .int .i64 n] * (Asn.vec 44 3 vl l.length (cells3 l) * (aSf gs S V * C)))) by ac_rfl)).vec.slice
  subst hvp
  obtain ⟨⟨e0, e1, e2⟩, -⟩ := three_ofE (S1.out.has (Has.l (has_blk ge _ _)))
  obtain ⟨c0, c1, c2, c3⟩ := post_cellsB (S1.out.has (Has.r (Has.l (Has.l (has_blk g _ _)))))
  clear c1 c3
  cases ps with
  | cons x ps =>
    have hlen : 0 < (((x :: ps).map du).length : Int) := by simp only [List.map_cons, List.length_cons]; omega
    generalize (x :: ps).map du = pl at *
    go_wp2_with fail
    go_returns
    refine ⟨rfl, _, hwp.out, (S1.out.re (show _ = Asn.blk ge 33 #[.int .i64 kd, .int .i64 K, .int .i64 N] * (aWd g gs S V vl l (.slice A pl.length c) pl n * C) by unfold aWd sPtr; ac_rfl)).right⟩
  | nil =>
    rw [show ([] : List Du).map du = [] from rfl, show poL [] = [] from rfl, List.length_nil] at S1
    rw [show ([] : List Du).map du = [] from rfl, List.length_nil] at hwp
    rw [show ([] : List Du).map du = [] from rfl, List.length_nil] at c2
    have HSh := Lib.hid (fun W C h => Shrink_any gs S V HW.out.sm HW.out.lo 3 (keyZ q) w0 W C h)
    have hsr := HW.out.shrink (keyZ q) rfl
    generalize shrR S 3 (keyZ q) = r at *
    unfold pgs at HSh
    rcases hsr with rfl | ⟨cc, cs, ps', rfl, hcl, hcm, hc0, hc1, -, hws⟩
    · as_aux_lemma =>
        go_wp2_with fail
        refine (HSh.out _ _ (S1.out.re (show _ = aSf gs S V * (Asn.blk ge 33 #[.int .i64 kd, .int .i64 K, .int .i64 N] * (Asn.blk g 30 #[.pointer (some ⟨gs, 0, none⟩), vl, .slice A 0 c, .int .i64 n] * (Asn.vec 44 3 vl l.length (cells3 l) * (Asn.vec 79 4 (.slice A 0 c) 0 [] * C)))) by ac_rfl))).mono ?_
        rintro e w3 ⟨v, L, rfl, hpc, hX⟩
        have hL0 : L = [] := List.map_eq_nil_iff.1 hpc
        subst hL0
        obtain ⟨B, d, rfl⟩ := hX.vec.slice
        have S2 := Lib.hid hX
        clear hX S1 HSh c0 c2 e0 e1 e2
        rw [List.length_nil] at *
        go_wp2_with fail
        go_returns
        refine ⟨rfl, _, hwp.out, (S2.out.re (show _ = (Asn.vec 73 8 (.slice B 0 d) 0 (spL []) * (aLs [] * Asn.blk ge 33 #[.int .i64 kd, .int .i64 K, .int .i64 N])) * (aWd g gs S V vl l (.slice A 0 c) [] n * C) by unfold aWd sPtr; rw [show poL [] = [] from rfl, List.length_nil]; ac_rfl)).right⟩
    · as_aux_lemma =>
        have hcz : (0 : Int) < (cc : Int) := by omega
        go_wp2_with fail
        refine (HSh.out _ _ (S1.out.re (show _ = aSf gs S V * (Asn.blk ge 33 #[.int .i64 kd, .int .i64 K, .int .i64 N] * (Asn.blk g 30 #[.pointer (some ⟨gs, 0, none⟩), vl, .slice A 0 c, .int .i64 n] * (Asn.vec 44 3 vl l.length (cells3 l) * (Asn.vec 79 4 (.slice A 0 c) 0 [] * C)))) by ac_rfl))).mono ?_
        rintro e w3 ⟨v, L, rfl, hpc, hX⟩
        have hL : L.length = 2 := by
          have := congrArg List.length hpc
          simp only [plain, List.length_map] at this
          omega
        obtain ⟨B, d, rfl⟩ := hX.vec.slice
        rw [hL] at hX ⊢
        have HPu := Lib.hid (ShPut_own gs S V L 2 hL (.slice B 2 d) w0 w3 _ (by decide) (by rw [hpc]; exact hcm) hX)
        rw [hpc] at HPu
        unfold sPtr at HPu
        clear c0 c2 e0 e1 e2
        have c0 := (hX.has (Has.r (Has.r (Has.r (Has.r (Has.l (has_blk g _ _))))))).cell 0
        rw [show (#[Value.pointer (some ⟨gs, 0, none⟩), vl, .slice A 0 c, .int .i64 (n : Int)] : Array Value)[0]? = some (.pointer (some ⟨gs, 0, none⟩)) from rfl] at c0
        clear hX S1 HSh hpc hcl hcm
        go_wp2_with fail
        refine HPu.out.mono ?_
        rintro e w4 ⟨rfl, V2, hX⟩
        clear c0
        have S4 := Lib.hid ((hX.nilVec 44 3).alloc #[.int .i64 cc, .int .i64 0, .int .i64 0, .int .i64 0, .bool false, .string ⟨#[]⟩, .int .i64 0, .slice none 0 0] 73)
        have c0 := (hX.has (Has.r (Has.r (Has.l (has_blk g _ _))))).cell 0
        rw [show (#[Value.pointer (some ⟨gs, 0, none⟩), vl, .slice A 0 c, .int .i64 (n : Int)] : Array Value)[0]? = some (.pointer (some ⟨gs, 0, none⟩)) from rfl] at c0
        clear hX HPu
        go_upto_region 31 with fail
        go_wp2_with (with_reducible refine list_slice1 rfl 68 (.tmp 202) rfl (.agg #[.int .i64 cc, .int .i64 0, .int .i64 0, .int .i64 0, .bool false, .string ⟨#[]⟩, .int .i64 0, .slice none 0 0]) ?b0 (.slice (some ⟨w4.heap.size, 0, none⟩) 1 1) (slice_page cc _) ?_)
        case b0 => rfl
        go_wp2_with fail
        obtain ⟨gq, hgz⟩ : ∃ g, g = w4.heap.size := ⟨_, rfl⟩
        rw [← hgz] at S4 ⊢
        clear hgz c0
        generalize World.alloc w4 _ = w5 at *
        have S5 := Lib.hid (S4.out.imp (Imp.l (blk_vec (cs := [.int .i64 cc, .int .i64 0, .int .i64 0, .int .i64 0, .bool false, .string ⟨#[]⟩, .int .i64 0, .slice none 0 0]) 1 8 rfl (by decide))))
        clear S4
        have HPu := Lib.hid (ShPut_own gs (puts S cs) V2 [⟨cc, Nod.none, .slice none 0 0⟩] 1 rfl (.slice (some ⟨gq, 0, none⟩) 1 1) w0 w5 (Asn.blk ge 33 #[.int .i64 kd, .int .i64 K, .int .i64 N] * (Asn.blk g 30 #[.pointer (some ⟨gs, 0, none⟩), vl, .slice A 0 c, .int .i64 n] * (Asn.vec 44 3 vl l.length (cells3 l) * (Asn.vec 79 4 (.slice A 0 c) 0 [] * C)))) (by decide) (fun x hx => by obtain rfl := List.mem_singleton.1 hx; exact Nat.zero_le _)
          (S5.out.addEmp.re (show _ = Asn.vec 73 8 (.slice (some ⟨gq, 0, none⟩) 1 1) 1 [.int .i64 cc, .int .i64 0, .int .i64 0, .int .i64 0, .bool false, .string ⟨#[]⟩, .int .i64 0, .slice none 0 0] * ((Asn.vec 44 3 (.slice none 0 0) 0 [] * Asn.emp) * (aSf gs (puts S cs) V2 * (Asn.blk ge 33 #[.int .i64 kd, .int .i64 K, .int .i64 N] * (Asn.blk g 30 #[.pointer (some ⟨gs, 0, none⟩), vl, .slice A 0 c, .int .i64 n] * (Asn.vec 44 3 vl l.length (cells3 l) * (Asn.vec 79 4 (.slice A 0 c) 0 [] * C)))))) by ac_rfl)))
        unfold sPtr at HPu
        rw [show plain [⟨(cc : Int), Nod.none, .slice none 0 0⟩] = [((cc : Int), Nod.none)] from rfl] at HPu
        clear S5
        refine HPu.out.mono ?_
        rintro e w6 ⟨rfl, V3, hX⟩
        have S6 := Lib.hid hX
        clear hX HPu
        go_wp2_with fail
        go_returns
        refine ⟨rfl, _, ⟨_, V3, vl, l, .slice A 0 c, [], n, top, _, hws, by omega, rfl⟩, (S6.out.re (show _ = Asn.blk ge 33 #[.int .i64 kd, .int .i64 K, .int .i64 N] * (aWd g gs _ V3 vl l (.slice A 0 c) [] n * C) by unfold aWd sPtr; rw [show poL [] = [] from rfl, List.length_nil]; ac_rfl)).right⟩
end Go.Proofs.Yteiiogaopgfpfaa.Bk
end

-- joined
section
namespace Go.Proofs.Yteiiogaopgfpfaa.Bk
open Go.ChangeShapes Go.WideShapes Go.ChangeAt Go.RowKit Go.PlainAid Aid Nt Nd Tr
set_option linter.unusedVariables false
set_option linter.unusedSimpArgs false
set_option linter.unusedSectionVars false
theorem info_node : (Try.prog.info? 52).map (fun i => (i.zero, i.size, i.bytes)) = some (some (Value.agg #[.int .i64 0, .int .i64 0, .int .i64 0, .bool false, .string ⟨#[]⟩, .int .i64 0, .slice none 0 0]), 7, 80) := by kernel_rfl
/-- Nodes in a row, each with a list of its own. -/
def ndL (L : List Sp) : List Value := L.flatMap fun x => (nodCells x.nd x.v).toList
theorem ndL_snoc (L : List Sp) (x : Sp) : ndL (L ++ [x]) = ndL L ++ (nodCells x.nd x.v).toList := by unfold ndL; rw [List.flatMap_append]; simp
theorem ndL_at (L : List Sp) (q j : Nat) (x : Sp) (h : L[q]? = some x) (hj : j < 7) : (ndL L)[q * 7 + j]? = (nodCells x.nd x.v)[j]? := by
  unfold ndL
  rw [flatMap_at _ 7 (fun _ => rfl) L q j x h hj, Array.getElem?_toList]
/-- All pages up to one, in memory. -/
def aPg (A : Option Addr) (n c : Nat) (L : List Sp) : Asn := Asn.vec 52 7 (.slice A n c) n (ndL L) * aLs L
def PgOk (S : Sf) (n : Nat) (L : List Sp) : Prop := L.map (fun x => x.nd) = (List.range n).map S
theorem PgOk.at {S : Sf} {n : Nat} {L : List Sp} (h : PgOk S n L) {q : Nat} (hq : q < n) : ∃ x, L[q]? = some x ∧ x.nd = S q := by
  have h1 : (L.map (fun x => x.nd))[q]? = some (S q) := by rw [h, List.getElem?_map, List.getElem?_range hq]; rfl
  rw [List.getElem?_map] at h1
  obtain ⟨x, hx, e⟩ := Option.map_eq_some_iff.1 h1
  exact ⟨x, hx, e⟩
set_option maxRecDepth 100000 in
set_option maxHeartbeats 16000000 in
theorem pages_any (g gs : Nat) (S : Sf) (V : Nat → Value) (vl : Value) (l : List Ent) (vp : Value) (ps : List Po) (n : Nat) (hs : Sm S) (hn : n ≤ 256)
    (w0 w : World) (C : Asn) (hS : Own w0 No w (aWd g gs S V vl l vp ps n * C)) :
    Calls Try.prog 11 #[.pointer (some ⟨g, 0, none⟩)] w fun r w' => ∃ A c L, r = .returned (.slice A n c) ∧ PgOk S n L ∧ Own w0 No w' (aPg A n c L * (aWd g gs S V vl l vp ps n * C)) := by
  unfold aWd sPtr at *
  have HNd := Lib.hid (fun p W C h => Node_any gs S V hs.small p w0 W C h)
  have hnr : ∀ k : Nat, k < 256 → nodeR S (k : Int) = (0, S k) := fun k hk => by
    unfold nodeR
    rw [at_page _ (by omega) (by omega)]
    rfl
  have HNR := Lib.hid hnr
  have S0 := Lib.hid ((hS.re (show _ = aSf gs S V * (Asn.blk g 30 #[.pointer (some ⟨gs, 0, none⟩), vl, vp, .int .i64 n] * (Asn.vec 44 3 vl l.length (cells3 l) * (Asn.vec 79 4 vp ps.length (poL ps) * C))) by ac_rfl)).alloc #[] 52)
  obtain ⟨R, hR⟩ : ∃ R : Asn, R = Asn.vec 44 3 vl l.length (cells3 l) * (Asn.vec 79 4 vp ps.length (poL ps) * C) := ⟨_, rfl⟩
  rw [← hR] at S0
  clear hS hnr
  go_enter Try.func11, Try.ntmps11
  go_upto_region 2 with fail
  obtain ⟨g3, hgz⟩ : ∃ g, g = w.heap.size := ⟨_, rfl⟩
  rw [← hgz] at S0 ⊢
  clear hgz
  generalize World.alloc w _ = w1 at *
  have S1 := Lib.hid (show Own w0 No w1 (Asn.vec 52 7 (.slice (some ⟨g3, 0, none⟩) 0 0) 0 (ndL []) * (aLs [] * (aSf gs S V * (Asn.blk g 30 #[.pointer (some ⟨gs, 0, none⟩), vl, vp, .int .i64 n] * R)))) from by
    have := S0.out.imp (Imp.l (blk_vec (cs := []) 0 7 rfl (by decide)))
    rw [show aLs [] = Asn.emp from rfl, emp_mul]
    exact this)
  clear S0
  go_wp2_with fail
  go_loopw [3, 4] (fun s3 i wr => ∃ (k : Nat) (A : Option Addr) (c : Nat) (L : List Sp), k ≤ n ∧ i = .int .i64 k ∧ s3 = .slice A k c ∧ Hid (PgOk S k L) ∧ Hid (Own w0 No wr (Asn.vec 52 7 (.slice A k c) k (ndL L) * (aLs L * (aSf gs S V * (Asn.blk g 30 #[.pointer (some ⟨gs, 0, none⟩), vl, vp, .int .i64 n] * R)))))) (fun _ i _ => n - (intOf i).toNat)
  case atStart => exact ⟨0, _, _, [], by omega, rfl, rfl, Lib.hid rfl, S1⟩
  case round =>
    clear S1
    obtain ⟨k, A, c, L, hk, rfl, rfl, HL, S1⟩ := hrel
    obtain ⟨c0, c1, c2, c3⟩ := post_cellsB (S1.out.has (Has.r (Has.r (Has.r (Has.l (has_blk g _ _))))))
    clear c1 c2
    by_cases hlt : k < n
    · have hltI : (k : Int) < (n : Int) := by omega
      have HNk := Lib.hid (HNd.out k)
      rw [HNR.out k (by omega)] at HNk
      dsimp only at HNk
      go_wp2_with fail
      refine (HNk.out _ _ (S1.out.re (show _ = aSf gs S V * (Asn.vec 52 7 (.slice A k c) k (ndL L) * (aLs L * (Asn.blk g 30 #[.pointer (some ⟨gs, 0, none⟩), vl, vp, .int .i64 n] * R))) by ac_rfl))).mono ?_
      rintro e w3 ⟨v, rfl, hX⟩
      obtain ⟨B, d, rfl⟩ := (show Own w0 No w3 (Asn.vec 44 3 v (S k).list.length (cells3 (S k).list) * _) from hX).vec.slice
      unfold nodCells
      have S2 := Lib.hid (hX.alloc #[.int .i64 (S k).tree, .int .i64 (S k).level, .int .i64 (S k).stamp, .bool (S k).has, .string (ofL (S k).high), .int .i64 (S k).right, .slice B (S k).list.length d] 52)
      clear hX S1 HNk c0 c3
      go_upto_region 6 with fail
      obtain ⟨gd, hgz⟩ : ∃ g, g = w3.heap.size := ⟨_, rfl⟩
      rw [← hgz] at S2 ⊢
      clear hgz
      generalize World.alloc w3 _ = w4 at *
      obtain ⟨⟨d0, d1, d2, d3, d4, d5, d6⟩, -⟩ := seven7 (S2.out.has (Has.l (has_blk gd _ _)))
      have S3 := Lib.hid (((S2.out.alloc #[.int .i64 (S k).tree, .int .i64 (S k).level, .int .i64 (S k).stamp, .bool (S k).has, .string (ofL (S k).high), .int .i64 (S k).right, .slice B (S k).list.length d] 52)).re (show _ = Asn.vec 52 7 (.slice A k c) k (ndL L) * (Asn.blk w4.heap.size 52 #[.int .i64 (S k).tree, .int .i64 (S k).level, .int .i64 (S k).stamp, .bool (S k).has, .string (ofL (S k).high), .int .i64 (S k).right, .slice B (S k).list.length d] * (Asn.blk gd 52 #[.int .i64 (S k).tree, .int .i64 (S k).level, .int .i64 (S k).stamp, .bool (S k).has, .string (ofL (S k).high), .int .i64 (S k).right, .slice B (S k).list.length d] * (Asn.vec 44 3 (.slice B (S k).list.length d) (S k).list.length (cells3 (S k).list) * (aLs L * (aSf gs S V * (Asn.blk g 30 #[.pointer (some ⟨gs, 0, none⟩), vl, vp, .int .i64 n] * R)))))) by unfold aEnts; ac_rfl))
      have CX : Hid (Src Try.prog 7 35 (.slice (some ⟨w4.heap.size, 0, none⟩) 1 1) 1 [.int .i64 (S k).tree, .int .i64 (S k).level, .int .i64 (S k).stamp, .bool (S k).has, .string (ofL (S k).high), .int .i64 (S k).right, .slice B (S k).list.length d] (w4.alloc (.cells #[.int .i64 (S k).tree, .int .i64 (S k).level, .int .i64 (S k).stamp, .bool (S k).has, .string (ofL (S k).high), .int .i64 (S k).right, .slice B (S k).list.length d] 52))) := Lib.hid (src_blk Try.underlying35 (Blk.new w4 #[.int .i64 (S k).tree, .int .i64 (S k).level, .int .i64 (S k).stamp, .bool (S k).has, .string (ofL (S k).high), .int .i64 (S k).right, .slice B (S k).list.length d] 52) rfl (by intro u hu; simp at hu; rcases hu with rfl | rfl | rfl | rfl | rfl | rfl | rfl <;> rfl))
      clear S2
      go_wp2_with (with_reducible refine wpList_append_vec rfl (.tmp 25) (.tmp 27) 35 35 rfl 52 _ 7 80 Try.underlying35 info_node ?c1 ?c2 (.slice A k c) k (ndL L) ?c7 S3.out.vec (.slice (some ⟨w4.heap.size, 0, none⟩) 1 1) ?c8 1 _ CX.out ?c3 ?c4 ?_)
      case c1 => rfl
      case c2 => decide
      case c3 => unfold maxLen; omega
      case c4 => omega
      try (case c7 => rfl)
      try (case c8 => rfl)
      intro v' w5 hv hc hf
      have S4 := Lib.hid (S3.out.app hv hc hf)
      obtain ⟨A5, c5, rfl⟩ := hv.slice
      clear S3 CX hv hc hf d0 d1 d2 d3 d4 d5 d6
      have HL2 : Hid (PgOk S (k + 1) (L ++ [⟨0, S k, .slice B (S k).list.length d⟩])) := Lib.hid (by
        have := HL.out
        unfold PgOk at this ⊢
        rw [List.map_append, this, List.range_succ, List.map_append]
        rfl)
      have S5 := Lib.hid (show Own w0 No w5 (Asn.vec 52 7 (.slice A5 (k + 1) c5) (k + 1) (ndL (L ++ [⟨0, S k, .slice B (S k).list.length d⟩])) * (aLs (L ++ [⟨0, S k, .slice B (S k).list.length d⟩]) * (aSf gs S V * (Asn.blk g 30 #[.pointer (some ⟨gs, 0, none⟩), vl, vp, .int .i64 n] * R)))) from by
        rw [ndL_snoc, aLs_snoc]
        exact (S4.out.re (show _ = (Asn.blk w4.heap.size 52 #[.int .i64 (S k).tree, .int .i64 (S k).level, .int .i64 (S k).stamp, .bool (S k).has, .string (ofL (S k).high), .int .i64 (S k).right, .slice B (S k).list.length d] * Asn.blk gd 52 #[.int .i64 (S k).tree, .int .i64 (S k).level, .int .i64 (S k).stamp, .bool (S k).has, .string (ofL (S k).high), .int .i64 (S k).right, .slice B (S k).list.length d]) * (Asn.vec 52 7 (.slice A5 (k + 1) c5) (k + 1) (ndL L ++ [.int .i64 (S k).tree, .int .i64 (S k).level, .int .i64 (S k).stamp, .bool (S k).has, .string (ofL (S k).high), .int .i64 (S k).right, .slice B (S k).list.length d]) * (Asn.vec 44 3 (.slice B (S k).list.length d) (S k).list.length (cells3 (S k).list) * aLs L * (aSf gs S V * (Asn.blk g 30 #[.pointer (some ⟨gs, 0, none⟩), vl, vp, .int .i64 n] * R)))) by ac_rfl)).right)
      clear S4
      go_wp2_with fail
      go_roundw
      case rel => exact ⟨k + 1, A5, c5, _, by omega, by go_num, rfl, HL2, S5⟩
      case measure => simp only [intOf]; omega
    · obtain rfl : k = n := by omega
      go_wp2_with fail
      go_returns
      rw [hR] at S1
      exact ⟨A, c, L, rfl, HL.out, S1.out.re (by unfold aPg; ac_rfl)⟩
end Go.Proofs.Yteiiogaopgfpfaa.Bk
end
