/- The law's world: a deed that parts. -/
import Derived.Test.YteiiogaopgfpfaaBmP
namespace Go.Proofs.Yteiiogaopgfpfaa.Bk
open Go.ChangeShapes Go.WideShapes Go.ChangeAt Go.RowKit Go.PlainAid Aid Nt Nd Tr
open Ky (keyZ key_any)
set_option linter.unusedVariables false
set_option linter.unusedSimpArgs false
set_option linter.unusedSectionVars false
theorem store_nodN {P : Program} (n : Nod) (A : Option Addr) (m c : Nat) {w : World} {g : Nat} {T : TypeId} {c0 c1 c2 c3 c4 c5 c6 : Value} (h : Blk w g T #[c0, c1, c2, c3, c4, c5, c6]) : (storeCells ⟨g, 0, none⟩ (nodCells n (.slice A m c)).toList).run P w = .ok () (w.setRow g (nodCells n (.slice A m c))) := by
  have := run_storeCells_at P g 0 T (nodCells n (.slice A m c)).toList 0 _ w h (Nat.le_refl 7) (fun v hv => by
    unfold nodCells at hv
    simp only [List.mem_cons, List.not_mem_nil, or_false] at hv
    rcases hv with rfl | rfl | rfl | rfl | rfl | rfl | rfl <;> rfl)
  exact this
/-- A leaf of two entries or more is parted. -/
theorem WS.part {S : Sf} {l : List Ent} {ps : List Du} {n top : Nat} {ch : Nat → List Nat} (h : WS S l ps n top ch) (hn : n + 8 < 256) (key : By) (hk : key.length = 9) (h2 : 2 ≤ (S (fnd S key (ch 0))).list.length) :
    ∃ cs po ps' top' ch', splitR S 3 0 key n ((n + 1 : Nat) : Int) = (0, cs, po) ∧ addP (ps.map du) po = ps'.map du ∧ (po = po0 ∨ po.1 = 2) ∧ WS (puts S cs) l ps' (n + 2) top' ch' := by
  obtain ⟨cs, po, ps', top', ch', hsp, hpo, hwg, -, hbl⟩ := h.wg.part key hk 0 (Nat.zero_le _) (by omega) (by omega) (fun h => absurd h (by omega))
  have hsp' : splitR S 3 0 key n ((n + 1 : Nat) : Int) = (0, cs, po) := hsp
  refine ⟨cs, po, ps', top', ch', hsp', ?_, ?_, ?_⟩
  · rcases hpo with ⟨rfl, rfl⟩ | ⟨x, rfl, rfl⟩
    · exact if_pos rfl
    · rw [List.map_append]
      refine if_neg (fun h => ?_)
      have := congrArg Prod.fst h
      exact absurd this (show ¬ ((2 : Int) = 0) by decide)
  · rcases hpo with ⟨h, -⟩ | ⟨x, h, -⟩
    · exact Or.inl h
    · exact Or.inr (by rw [h])
  · have hpl2 : ps'.length ≤ n + 2 := by
      have := h.pl
      rcases hpo with ⟨-, rfl⟩ | ⟨x, -, rfl⟩
      · omega
      · simp; omega
    have hmd := Wk.split_md h.sm h.lo 3 0 key n ((n + 1 : Nat) : Int)
    rw [hsp'] at hmd
    have hps3 := Wk.puts_md h.sm h.lo hmd.2
    exact ⟨hwg, hps3.1, hps3.2, hpl2⟩
/-- A leaf of fewer is not. -/
theorem WS.nopart {S : Sf} {l : List Ent} {ps : List Du} {n top : Nat} {ch : Nat → List Nat} (h : WS S l ps n top ch) (key : By) (hk : key.length = 9) (h2 : (S (fnd S key (ch 0))).list.length < 2) :
    splitR S 3 0 key n ((n + 1 : Nat) : Int) = (1, [], po0) := by
  have ht := h.wg.four
  have hso : so S 3 0 key = ⟨0, 0, (fnd S key (ch 0) : Int), S (fnd S key (ch 0))⟩ := tree_so h.wg.tree key (low_le _ hk) 0 (Nat.zero_le _) (by omega)
  unfold splitR
  rw [hso]
  dsimp only
  rw [if_pos rfl, if_pos h2]
theorem WS.leafAt {S : Sf} {l : List Ent} {ps : List Du} {n top : Nat} {ch : Nat → List Nat} (h : WS S l ps n top ch) (key : By) (hk : key.length = 9) :
    (Bk.seek S 256 3 0 key).2.1 = 0 ∧ (pagesR S 3 0 key).length = top + 1 ∧ (pagesR S 3 0 key)[top]? = some (fnd S key (ch 0) : Int) ∧ fnd S key (ch 0) < 256 ∧ nodeR S (fnd S key (ch 0) : Int) = (0, S (fnd S key (ch 0))) := by
  obtain ⟨h1, h2'⟩ := h.wg.pages key hk 0 (Nat.zero_le _)
  have h2 : pagesR S 3 0 key = _ := h2'
  have hb := h.wg.tree.bnd 0 _ (Nat.zero_le _) (h.wg.at0 key hk 0 (Nat.zero_le _))
  refine ⟨h1, ?_, ?_, hb, ?_⟩
  · rw [h2, List.length_map, List.length_range]; omega
  · rw [h2, List.getElem?_map, List.getElem?_range (by omega)]
    simp
  · unfold nodeR
    rw [at_page _ (by omega) (by omega)]
    rfl
set_option maxRecDepth 100000 in
set_option maxHeartbeats 16000000 in
theorem do_part (g gs : Nat) (S : Sf) (V : Nat → Value) (vl : Value) (l : List Ent) (vp : Value) (ps : List Du) (n top : Nat) (ch : Nat → List Nat) (K N : Int) (hW : WS S l ps n top ch) (hn : n + 8 < 256)
    (w0 w : World) (C : Asn) (hS : Own w0 No w (aWd g gs S V vl l vp (ps.map du) n * C)) :
    Calls Try.prog 9 #[.pointer (some ⟨g, 0, none⟩), .agg #[.int .i64 5, .int .i64 K, .int .i64 N]] w fun r w' => r = .returned (.bool true) ∧ ∃ B, WP g gs n B ∧ Own w0 No w' (B * C) := by
  obtain ⟨q, hq, hqe⟩ := key_act K
  have HW := Lib.hid hW
  obtain ⟨hl1, hl2, hl3, hl4, hl5⟩ := hW.leafAt (keyZ q) rfl
  have HSk := Lib.hid (fun W C h => Seek_any gs S V hW.sm hW.lo 3 0 (keyZ q) w0 W C h)
  have HNd := Lib.hid (fun W C h => Node_any gs S V hW.sm.small (fnd S (keyZ q) (ch 0) : Int) w0 W C h)
  rw [hl1, hl2] at HSk
  rw [hl5] at HNd
  have HN2 : Hid ((S (fnd S (keyZ q) (ch 0))).list.length < 2 → splitR S 3 0 (keyZ q) n ((n + 1 : Nat) : Int) = (1, [], po0)) := Lib.hid (hW.nopart (keyZ q) rfl)
  have HSp := Lib.hid (fun W C h => Split_any gs S V hW.sm hW.lo 3 0 (keyZ q) n ((n + 1 : Nat) : Int) w0 W C h)
  have HPT : Hid (2 ≤ (S (fnd S (keyZ q) (ch 0))).list.length → ∀ W D, Own w0 No W (aWd g gs S V vl l vp (ps.map du) n * D) → Calls Try.prog 33 #[.pointer (some ⟨g, 0, none⟩), .int .i64 0, .string (ofL (keyZ q))] W fun r w' => r = .returned (.bool true) ∧ ∃ B, WP g gs n B ∧ Own w0 No w' (B * D)) := Lib.hid (fun h2 W D h => by
    obtain ⟨cs, po, ps', top', ch', hsp, hadd, hpo, hws⟩ := hW.part hn (keyZ q) rfl h2
    refine (part_law g gs S V vl l vp (ps.map du) n hW.sm hW.lo 0 (keyZ q) cs po (by omega) (by have := hW.pl; rw [List.length_map]; omega) hsp hpo w0 W D h).mono ?_
    rintro r w' ⟨rfl, V', vp', h3⟩
    rw [hadd] at h3
    exact ⟨rfl, _, ⟨_, V', vl, l, vp', ps', n + 2, top', ch', hws, by omega, rfl⟩, h3⟩)
  have hnl : ((S (fnd S (keyZ q) (ch 0))).list.length : Int) ≤ 99999 := by
    have := hW.sm (fnd S (keyZ q) (ch 0))
    omega
  generalize fnd S (keyZ q) (ch 0) = pg at *
  have hwp : Hid (WP g gs n (aWd g gs S V vl l vp (ps.map du) n)) := Lib.hid ⟨S, V, vl, l, vp, ps, n, top, ch, hW, by omega, rfl⟩
  have hw1 : IntKind.i64.wrap ((n : Int) + 1) = ((n + 1 : Nat) : Int) := by rw [i64_is, IntWalk.wrap64_in _ ⟨by omega, by omega⟩]; omega
  have htop : top ≤ 4 := hW.wg.four
  have S0 := Lib.hid (hS.alloc #[.int .i64 5, .int .i64 K, .int .i64 N] 33)
  generalize pagesR S 3 0 (keyZ q) = pgl at *
  unfold pgs at HSk HSp
  dsimp only at HNd
  clear hW hS HW
  go_enter Try.func9, Try.ntmps9
  go_upto_region 1 with fail
  obtain ⟨ge, hgz⟩ : ∃ g, g = w.heap.size := ⟨_, rfl⟩
  rw [← hgz] at S0 ⊢
  clear hgz
  generalize World.alloc w _ = w1 at *
  obtain ⟨⟨e0, e1, e2⟩, -⟩ := three_ofE (S0.out.has (Has.l (has_blk ge _ _)))
  go_wp2_with fail
  refine (key_any q w1 (by omega) (by omega)).mono ?_
  rintro e w2 ⟨rfl, hX⟩
  have S1 := Lib.hid (S0.out.below hX)
  clear hX S0 e0 e1 e2
  unfold aWd sPtr at S1
  obtain ⟨⟨e0, e1, e2⟩, -⟩ := three_ofE (S1.out.has (Has.l (has_blk ge _ _)))
  obtain ⟨c0, c1, c2, c3⟩ := post_cellsB (S1.out.has (Has.r (Has.l (Has.l (has_blk g _ _)))))
  clear c1 c2 c3
  go_wp2_with fail
  have S2 := Lib.hid (S1.out.re (show _ = aSf gs S V * (Asn.blk ge 33 #[.int .i64 5, .int .i64 K, .int .i64 N] * (Asn.blk g 30 #[.pointer (some ⟨gs, 0, none⟩), vl, vp, .int .i64 n] * (Asn.vec 44 3 vl l.length (cells3 l) * (Asn.vec 79 4 vp (ps.map du).length (poL (ps.map du)) * C)))) by ac_rfl))
  obtain ⟨R, hR⟩ : ∃ R : Asn, R = Asn.vec 44 3 vl l.length (cells3 l) * (Asn.vec 79 4 vp (ps.map du).length (poL (ps.map du)) * C) := ⟨_, rfl⟩
  rw [← hR] at S2
  refine (HSk.out _ _ S2.out).mono ?_
  rintro e w3 ⟨v, rfl, hX⟩
  have hv := hX.vec
  rcases hv.forms with ⟨-, hz⟩ | ⟨gp, cap, rfl, -, -, -⟩
  · exact absurd hz (by omega)
  have S3 := Lib.hid hX
  clear hX S1 S2 HSk e0 e1 e2 c0 hv
  have hpc : ∀ W D, Own w0 No W (Asn.vec 3 1 (.slice (some ⟨gp, 0, none⟩) (top + 1) cap) (top + 1) (ints pgl) * D) → W.cell? ⟨gp, top, none⟩ = some (.int .i64 (pg : Int)) := fun W D h => by
    have := h.vec.cell (j := top) (u := .int .i64 (pg : Int)) (by unfold ints; rw [List.getElem?_map, hl3]; rfl)
    exact this
  have HPC := Lib.hid hpc
  clear hpc
  have c0 := (S3.out.has (Has.r (Has.r (Has.r (Has.l (has_blk g _ _)))))).cell 0
  rw [show (#[Value.pointer (some ⟨gs, 0, none⟩), vl, vp, .int .i64 (n : Int)] : Array Value)[0]? = some (.pointer (some ⟨gs, 0, none⟩)) from rfl] at c0
  have hq1 := HPC.out _ _ S3.out
  have htz : (((top + 1 : Nat) : Int)) ≠ 0 := by omega
  have htw : IntKind.i64.wrap (top : Int) = (top : Int) := by rw [i64_is, IntWalk.wrap64_in _ ⟨by omega, by omega⟩]
  have htx : (0 : Int) ≤ (top : Int) := by omega
  have hty : (top : Int) < (top : Int) + 1 := by omega
  go_upto_region 20 with fail
  have S4 := Lib.hid (S3.out.drew.re (show _ = aSf gs S V * (Asn.vec 3 1 (.slice (some ⟨gp, 0, none⟩) (top + 1) cap) (top + 1) (ints pgl) * (Asn.blk ge 33 #[.int .i64 5, .int .i64 K, .int .i64 N] * (Asn.blk g 30 #[.pointer (some ⟨gs, 0, none⟩), vl, vp, .int .i64 n] * R))) by ac_rfl))
  clear S3
  go_cut [12] (fun s12 wx => ∃ (gd : Nat) (A : Option Addr) (c : Nat), s12 = .pointer (some ⟨gd, 0, none⟩) ∧
    Hid (Own w0 No wx (Asn.blk gd 52 (nodCells (S pg) (.slice A (S pg).list.length c)) * Asn.vec 44 3 (.slice A (S pg).list.length c) (S pg).list.length (cells3 (S pg).list) * (aSf gs S V * (Asn.vec 3 1 (.slice (some ⟨gp, 0, none⟩) (top + 1) cap) (top + 1) (ints pgl) * (Asn.blk ge 33 #[.int .i64 5, .int .i64 K, .int .i64 N] * (Asn.blk g 30 #[.pointer (some ⟨gs, 0, none⟩), vl, vp, .int .i64 n] * R)))))))
  case first =>
    as_aux_lemma =>
      refine wp_region_held_drew (S := fun W : World => W.cell? ⟨g, 0, none⟩ = some (.pointer (some ⟨gs, 0, none⟩)) ∧ W.cell? ⟨gp, top, none⟩ = some (.int .i64 (pg : Int))) (by kernel_rfl) ⟨c0, hq1⟩ (fun hHeld => ?_)
      clear c0 hq1
      generalize w3.drew = w4 at *
      refine' wpAnyH_take (i := 0) (oi := ?ot1z0) (v := ?vt1z0) ?ht1z0 ?st1z0 ?ft1z0 ?zt1z0 ?qt1z0 ?yt1z0 ?at1z0 ?rt1z0
      case ht1z0 => (simp only [List.getElem?_toArray, List.getElem?_cons_succ, List.getElem?_cons_zero]; rfl)
      case st1z0 => kernel_rfl
      case ft1z0 => kernel_rfl
      case zt1z0 => kernel_rfl
      case qt1z0 => exact fun _ _ _ h => h
      case yt1z0 => (refine Or.inl ⟨rfl, ?_⟩; intro w hSw; (try dsimp only at hSw); go_simp; try with_reducible rfl)
      case at1z0 => assumption
      case rt1z0 =>
      simp only [Act.put, List.setIfInBounds_toArray, List.set_cons_zero, List.set_cons_succ]
      refine' wpAnyH_take (i := 1) (oi := ?ot2z1) (v := ?vt2z1) ?ht2z1 ?st2z1 ?ft2z1 ?zt2z1 ?qt2z1 ?yt2z1 ?at2z1 ?rt2z1
      case ht2z1 => (simp only [List.getElem?_toArray, List.getElem?_cons_succ, List.getElem?_cons_zero]; rfl)
      case st2z1 => kernel_rfl
      case ft2z1 => kernel_rfl
      case zt2z1 => kernel_rfl
      case qt2z1 => exact fun _ _ _ h => h
      case yt2z1 => (refine Or.inl ⟨rfl, ?_⟩; intro w hSw; (try dsimp only at hSw); go_simp; try with_reducible rfl)
      case at2z1 => assumption
      case rt2z1 =>
      simp only [Act.put, List.setIfInBounds_toArray, List.set_cons_zero, List.set_cons_succ]
      refine' wpAnyH_take (i := 2) (oi := ?ot3z2) (v := ?vt3z2) ?ht3z2 ?st3z2 ?ft3z2 ?zt3z2 ?qt3z2 ?yt3z2 ?at3z2 ?rt3z2
      case ht3z2 => (simp only [List.getElem?_toArray, List.getElem?_cons_succ, List.getElem?_cons_zero]; rfl)
      case st3z2 => kernel_rfl
      case ft3z2 => kernel_rfl
      case zt3z2 => kernel_rfl
      case qt3z2 => exact fun _ _ _ h => h
      case yt3z2 => (refine Or.inl ⟨rfl, ?_⟩; intro w hSw; (try dsimp only at hSw); go_simp; try with_reducible rfl)
      case at3z2 => assumption
      case rt3z2 =>
      simp only [Act.put, List.setIfInBounds_toArray, List.set_cons_zero, List.set_cons_succ]
      refine' wpAnyH_take (i := 3) (oi := ?ot4z3) (v := ?vt4z3) ?ht4z3 ?st4z3 ?ft4z3 ?zt4z3 ?qt4z3 ?yt4z3 ?at4z3 ?rt4z3
      case ht4z3 => (simp only [List.getElem?_toArray, List.getElem?_cons_succ, List.getElem?_cons_zero]; rfl)
      case st4z3 => kernel_rfl
      case ft4z3 => kernel_rfl
      case zt4z3 => kernel_rfl
      case qt4z3 => exact fun _ _ _ h => h
      case yt4z3 => (refine Or.inl ⟨rfl, ?_⟩; intro w hSw; obtain ⟨hS1, hS2⟩ := hSw; go_simp; try with_reducible rfl)
      case at4z3 => assumption
      case rt4z3 =>
      simp only [Act.put, List.setIfInBounds_toArray, List.set_cons_zero, List.set_cons_succ]
      refine' wpAnyH_take (i := 4) (oi := ?ot5z4) (v := ?vt5z4) ?ht5z4 ?st5z4 ?ft5z4 ?zt5z4 ?qt5z4 ?yt5z4 ?at5z4 ?rt5z4
      case ht5z4 => (simp only [List.getElem?_toArray, List.getElem?_cons_succ, List.getElem?_cons_zero]; rfl)
      case st5z4 => kernel_rfl
      case ft5z4 => kernel_rfl
      case zt5z4 => kernel_rfl
      case qt5z4 => exact fun _ _ _ h => h
      case yt5z4 => (refine Or.inl ⟨rfl, ?_⟩; intro w hSw; (try dsimp only at hSw); go_simp; try with_reducible rfl)
      case at5z4 => assumption
      case rt5z4 =>
      simp only [Act.put, List.setIfInBounds_toArray, List.set_cons_zero, List.set_cons_succ]
      refine' wpAnyH_take (i := 5) (oi := ?ot6z5) (v := ?vt6z5) ?ht6z5 ?st6z5 ?ft6z5 ?zt6z5 ?qt6z5 ?yt6z5 ?at6z5 ?rt6z5
      case ht6z5 => (simp only [List.getElem?_toArray, List.getElem?_cons_succ, List.getElem?_cons_zero]; rfl)
      case st6z5 => kernel_rfl
      case ft6z5 => kernel_rfl
      case zt6z5 => kernel_rfl
      case qt6z5 => exact fun _ _ _ h => h
      case yt6z5 => (refine Or.inl ⟨rfl, ?_⟩; intro w hSw; (try dsimp only at hSw); go_simp; try with_reducible rfl)
      case at6z5 => assumption
      case rt6z5 =>
      simp only [Act.put, List.setIfInBounds_toArray, List.set_cons_zero, List.set_cons_succ]
      refine' wpAnyH_take (i := 6) (oi := ?ot7z6) (v := ?vt7z6) ?ht7z6 ?st7z6 ?ft7z6 ?zt7z6 ?qt7z6 ?yt7z6 ?at7z6 ?rt7z6
      case ht7z6 => (simp only [List.getElem?_toArray, List.getElem?_cons_succ, List.getElem?_cons_zero]; rfl)
      case st7z6 => kernel_rfl
      case ft7z6 => kernel_rfl
      case zt7z6 => kernel_rfl
      case qt7z6 => exact fun _ _ _ h => h
      case yt7z6 => (refine Or.inl ⟨rfl, ?_⟩; intro w hSw; (try dsimp only at hSw); go_simp; try with_reducible rfl)
      case at7z6 => assumption
      case rt7z6 =>
      simp only [Act.put, List.setIfInBounds_toArray, List.set_cons_zero, List.set_cons_succ]
      refine' wpAnyH_take (i := 7) (oi := ?ot8z7) (v := ?vt8z7) ?ht8z7 ?st8z7 ?ft8z7 ?zt8z7 ?qt8z7 ?yt8z7 ?at8z7 ?rt8z7
      case ht8z7 => (simp only [List.getElem?_toArray, List.getElem?_cons_succ, List.getElem?_cons_zero]; rfl)
      case st8z7 => kernel_rfl
      case ft8z7 => kernel_rfl
      case zt8z7 => kernel_rfl
      case qt8z7 => exact fun _ _ _ h => h
      case yt8z7 => (refine Or.inl ⟨rfl, ?_⟩; intro w hSw; (try dsimp only at hSw); go_simp; try with_reducible rfl)
      case at8z7 => assumption
      case rt8z7 =>
      simp only [Act.put, List.setIfInBounds_toArray, List.set_cons_zero, List.set_cons_succ]
      refine' wpAnyH_take (i := 8) (oi := ?ot9z8) (v := ?vt9z8) ?ht9z8 ?st9z8 ?ft9z8 ?zt9z8 ?qt9z8 ?yt9z8 ?at9z8 ?rt9z8
      case ht9z8 => (simp only [List.getElem?_toArray, List.getElem?_cons_succ, List.getElem?_cons_zero]; rfl)
      case st9z8 => kernel_rfl
      case ft9z8 => kernel_rfl
      case zt9z8 => kernel_rfl
      case qt9z8 => exact fun _ _ _ h => h
      case yt9z8 => (refine Or.inl ⟨rfl, ?_⟩; intro w hSw; obtain ⟨hS1, hS2⟩ := hSw; go_simp; try with_reducible rfl)
      case at9z8 => assumption
      case rt9z8 =>
      simp only [Act.put, List.setIfInBounds_toArray, List.set_cons_zero, List.set_cons_succ]
      refine' wpAnyH_take (i := 9) (oi := ?ot10z9) (v := ?vt10z9) ?ht10z9 ?st10z9 ?ft10z9 ?zt10z9 ?qt10z9 ?yt10z9 ?at10z9 ?rt10z9
      case ht10z9 => (simp only [List.getElem?_toArray, List.getElem?_cons_succ, List.getElem?_cons_zero]; rfl)
      case st10z9 => kernel_rfl
      case ft10z9 => kernel_rfl
      case zt10z9 => kernel_rfl
      case qt10z9 => exact fun _ _ _ h => h
      case yt10z9 => (refine Or.inl ⟨rfl, ?_⟩; intro w hSw; obtain ⟨hS1, hS2⟩ := hSw; go_simp; try with_reducible rfl)
      case at10z9 => assumption
      case rt10z9 =>
      simp only [Act.put, List.setIfInBounds_toArray, List.set_cons_zero, List.set_cons_succ]
      refine wpAnyH_ready (rs := [10, 14]) (by kernel_rfl) (by simp) ?_
      refine' AllReadyH.cons (o := ?ob11z10) ?hb11z10 ?kb11z10 ?mb11z10
      case hb11z10 => (simp only [List.getElem?_toArray, List.getElem?_cons_succ, List.getElem?_cons_zero]; rfl)
      case kb11z10 =>
        intro K0 hK
        go_simp
        refine (HNd.out w4 _ S4.out).mono ?_
        rintro e wc12 ⟨v, rfl, hX⟩
        obtain ⟨A, c, rfl⟩ := (show Own w0 No wc12 (Asn.vec 44 3 v (S pg).list.length (cells3 (S pg).list) * _) from hX).vec.slice
        have SC12 := Lib.hid (hX.re (show _ = Asn.vec 44 3 (.slice A (S pg).list.length c) (S pg).list.length (cells3 (S pg).list) * (aSf gs S V * (Asn.vec 3 1 (.slice (some ⟨gp, 0, none⟩) (top + 1) cap) (top + 1) (ints pgl) * (Asn.blk ge 33 #[.int .i64 5, .int .i64 K, .int .i64 N] * (Asn.blk g 30 #[.pointer (some ⟨gs, 0, none⟩), vl, vp, .int .i64 n] * R)))) by unfold aEnts; ac_rfl))
        clear hX S4
        refine hK.out _ _ ?_ (fun hHeld => ?_)
        · exact ⟨(SC12.out.has (Has.r (Has.r (Has.r (Has.r (Has.l (has_blk g _ _))))))).cell 0, HPC.out _ _ (SC12.out.re (show _ = Asn.vec 3 1 (.slice (some ⟨gp, 0, none⟩) (top + 1) cap) (top + 1) (ints pgl) * (Asn.vec 44 3 (.slice A (S pg).list.length c) (S pg).list.length (cells3 (S pg).list) * (aSf gs S V * ((Asn.blk ge 33 #[.int .i64 5, .int .i64 K, .int .i64 N] * (Asn.blk g 30 #[.pointer (some ⟨gs, 0, none⟩), vl, vp, .int .i64 n] * R))))) by ac_rfl))⟩
        clear hK K0
        (try simp only [Act.put, List.setIfInBounds_toArray, List.set_cons_zero, List.set_cons_succ])
        (try clear hH2)
        refine' wpAnyH_take (i := 11) (oi := ?ot13z11) (v := ?vt13z11) ?ht13z11 ?st13z11 ?ft13z11 ?zt13z11 ?qt13z11 ?yt13z11 ?at13z11 ?rt13z11
        case ht13z11 => (simp only [List.getElem?_toArray, List.getElem?_cons_succ, List.getElem?_cons_zero]; rfl)
        case st13z11 => kernel_rfl
        case ft13z11 => kernel_rfl
        case zt13z11 => kernel_rfl
        case qt13z11 => exact fun _ _ _ h => h
        case yt13z11 => (refine Or.inl ⟨rfl, ?_⟩; intro w hSw; (try dsimp only at hSw); go_simp; try with_reducible rfl)
        case at13z11 => assumption
        case rt13z11 =>
        simp only [Act.put, List.setIfInBounds_toArray, List.set_cons_zero, List.set_cons_succ]
        refine' wpAnyH_take (i := 12) (oi := ?ot14z12) (v := ?vt14z12) ?ht14z12 ?st14z12 ?ft14z12 ?zt14z12 ?qt14z12 ?yt14z12 ?at14z12 ?rt14z12
        case ht14z12 => (simp only [List.getElem?_toArray, List.getElem?_cons_succ, List.getElem?_cons_zero]; rfl)
        case st14z12 => kernel_rfl
        case ft14z12 => kernel_rfl
        case zt14z12 => kernel_rfl
        case qt14z12 => exact fun _ _ _ h => h
        case yt14z12 => (refine Or.inl ⟨rfl, ?_⟩; intro w hSw; (try dsimp only at hSw); go_simp; try with_reducible rfl)
        case at14z12 => assumption
        case rt14z12 =>
        simp only [Act.put, List.setIfInBounds_toArray, List.set_cons_zero, List.set_cons_succ]
        refine' wpAnyH_take (i := 13) (oi := ?ot15z13) (v := ?vt15z13) ?ht15z13 ?st15z13 ?ft15z13 ?zt15z13 ?qt15z13 ?yt15z13 ?at15z13 ?rt15z13
        case ht15z13 => (simp only [List.getElem?_toArray, List.getElem?_cons_succ, List.getElem?_cons_zero]; rfl)
        case st15z13 => kernel_rfl
        case ft15z13 => kernel_rfl
        case zt15z13 => kernel_rfl
        case qt15z13 => exact fun _ _ _ h => h
        case yt15z13 => (refine Or.inl ⟨rfl, ?_⟩; intro w hSw; (try dsimp only at hSw); go_simp; try with_reducible rfl)
        case at15z13 => assumption
        case rt15z13 =>
        simp only [Act.put, List.setIfInBounds_toArray, List.set_cons_zero, List.set_cons_succ]
        refine wpAnyH_ready (rs := [14]) (by kernel_rfl) (by simp) ?_
        refine' AllReadyH.cons (o := ?ob16z14) ?hb16z14 ?kb16z14 AllReadyH.nil
        case hb16z14 => (simp only [List.getElem?_toArray, List.getElem?_cons_succ, List.getElem?_cons_zero]; rfl)
        case kb16z14 =>
          intro K0 hK
          go_simp
          obtain ⟨gd, hgz⟩ : ∃ g, g = wc12.heap.size := ⟨_, rfl⟩
          have SA17 := Lib.hid (SC12.out.alloc #[.int .i64 0, .int .i64 0, .int .i64 0, .bool false, .string ⟨#[]⟩, .int .i64 0, .slice none 0 0] 52)
          rw [← hgz] at SA17 ⊢
          clear hgz SC12
          generalize World.alloc wc12 _ = wa17 at *
          refine hK.out _ _ ?_ (fun hHeld => ?_)
          · exact ⟨(SA17.out.has (Has.r (Has.r (Has.r (Has.r (Has.r (Has.l (has_blk g _ _)))))))).cell 0, HPC.out _ _ (SA17.out.re (show _ = Asn.vec 3 1 (.slice (some ⟨gp, 0, none⟩) (top + 1) cap) (top + 1) (ints pgl) * (Asn.blk gd 52 #[.int .i64 0, .int .i64 0, .int .i64 0, .bool false, .string ⟨#[]⟩, .int .i64 0, .slice none 0 0] * (Asn.vec 44 3 (.slice A (S pg).list.length c) (S pg).list.length (cells3 (S pg).list) * (aSf gs S V * ((Asn.blk ge 33 #[.int .i64 5, .int .i64 K, .int .i64 N] * (Asn.blk g 30 #[.pointer (some ⟨gs, 0, none⟩), vl, vp, .int .i64 n] * R)))))) by ac_rfl))⟩
          clear hK K0
          (try simp only [Act.put, List.setIfInBounds_toArray, List.set_cons_zero, List.set_cons_succ])
          (try clear hH2)
          refine wpAnyH_ready (rs := [15]) (by kernel_rfl) (by simp) ?_
          refine' AllReadyH.cons (o := ?ob18z15) ?hb18z15 ?kb18z15 AllReadyH.nil
          case hb18z15 => (simp only [List.getElem?_toArray, List.getElem?_cons_succ, List.getElem?_cons_zero]; rfl)
          case kb18z15 =>
            intro K0 hK
            have hst := store_nodN (P := Try.prog) (S pg) A (S pg).list.length c (SA17.out.has (Has.l (has_blk gd _ _)))
            have hsz : (nodCells (S pg) (.slice A (S pg).list.length c)).size = 7 := rfl
            go_simp
            clear hst hsz
            have SB19 := Lib.hid (own_setRowB SA17.out (nodCells (S pg) (.slice A (S pg).list.length c)))
            clear SA17
            generalize World.setRow _ _ _ = wb19 at *
            refine hK.out _ _ ?_ (fun hHeld => ?_)
            · exact ⟨(SB19.out.has (Has.r (Has.r (Has.r (Has.r (Has.r (Has.l (has_blk g _ _)))))))).cell 0, HPC.out _ _ (SB19.out.re (show _ = Asn.vec 3 1 (.slice (some ⟨gp, 0, none⟩) (top + 1) cap) (top + 1) (ints pgl) * (Asn.blk gd 52 (nodCells (S pg) (.slice A (S pg).list.length c)) * (Asn.vec 44 3 (.slice A (S pg).list.length c) (S pg).list.length (cells3 (S pg).list) * (aSf gs S V * ((Asn.blk ge 33 #[.int .i64 5, .int .i64 K, .int .i64 N] * (Asn.blk g 30 #[.pointer (some ⟨gs, 0, none⟩), vl, vp, .int .i64 n] * R)))))) by ac_rfl))⟩
            clear hK K0
            (try simp only [Act.put, List.setIfInBounds_toArray, List.set_cons_zero, List.set_cons_succ])
            (try clear hH2)
            refine' wpAnyH_take (i := 16) (oi := ?ot20z16) (v := ?vt20z16) ?ht20z16 ?st20z16 ?ft20z16 ?zt20z16 ?qt20z16 ?yt20z16 ?at20z16 ?rt20z16
            case ht20z16 => (simp only [List.getElem?_toArray, List.getElem?_cons_succ, List.getElem?_cons_zero]; rfl)
            case st20z16 => kernel_rfl
            case ft20z16 => kernel_rfl
            case zt20z16 => kernel_rfl
            case qt20z16 => exact fun _ _ _ h => h
            case yt20z16 => (refine Or.inl ⟨rfl, ?_⟩; intro w hSw; (try dsimp only at hSw); go_simp; try with_reducible rfl)
            case at20z16 => assumption
            case rt20z16 =>
            simp only [Act.put, List.setIfInBounds_toArray, List.set_cons_zero, List.set_cons_succ]
            refine wpAnyH_done (by kernel_rfl) ?_ _
            go_wp2_with fail
            go_meet
            case rel => exact ⟨gd, A, c, rfl, Lib.hid (SB19.out.re (show _ = Asn.blk gd 52 (nodCells (S pg) (.slice A (S pg).list.length c)) * Asn.vec 44 3 (.slice A (S pg).list.length c) (S pg).list.length (cells3 (S pg).list) * (aSf gs S V * (Asn.vec 3 1 (.slice (some ⟨gp, 0, none⟩) (top + 1) cap) (top + 1) (ints pgl) * (Asn.blk ge 33 #[.int .i64 5, .int .i64 K, .int .i64 N] * (Asn.blk g 30 #[.pointer (some ⟨gs, 0, none⟩), vl, vp, .int .i64 n] * R)))) by ac_rfl))⟩
      case mb11z10 =>
      refine' AllReadyH.cons (o := ?ob21z14) ?hb21z14 ?kb21z14 AllReadyH.nil
      case hb21z14 => (simp only [List.getElem?_toArray, List.getElem?_cons_succ, List.getElem?_cons_zero]; rfl)
      case kb21z14 =>
        intro K0 hK
        go_simp
        obtain ⟨gd, hgz⟩ : ∃ g, g = w4.heap.size := ⟨_, rfl⟩
        have SA22 := Lib.hid (S4.out.alloc #[.int .i64 0, .int .i64 0, .int .i64 0, .bool false, .string ⟨#[]⟩, .int .i64 0, .slice none 0 0] 52)
        rw [← hgz] at SA22 ⊢
        clear hgz S4
        generalize World.alloc w4 _ = wa22 at *
        refine hK.out _ _ ?_ (fun hHeld => ?_)
        · exact ⟨(SA22.out.has (Has.r (Has.r (Has.r (Has.r (Has.l (has_blk g _ _))))))).cell 0, HPC.out _ _ (SA22.out.re (show _ = Asn.vec 3 1 (.slice (some ⟨gp, 0, none⟩) (top + 1) cap) (top + 1) (ints pgl) * (Asn.blk gd 52 #[.int .i64 0, .int .i64 0, .int .i64 0, .bool false, .string ⟨#[]⟩, .int .i64 0, .slice none 0 0] * (aSf gs S V * ((Asn.blk ge 33 #[.int .i64 5, .int .i64 K, .int .i64 N] * (Asn.blk g 30 #[.pointer (some ⟨gs, 0, none⟩), vl, vp, .int .i64 n] * R))))) by ac_rfl))⟩
        clear hK K0
        (try simp only [Act.put, List.setIfInBounds_toArray, List.set_cons_zero, List.set_cons_succ])
        (try clear hH2)
        refine wpAnyH_ready (rs := [10]) (by kernel_rfl) (by simp) ?_
        refine' AllReadyH.cons (o := ?ob23z10) ?hb23z10 ?kb23z10 AllReadyH.nil
        case hb23z10 => (simp only [List.getElem?_toArray, List.getElem?_cons_succ, List.getElem?_cons_zero]; rfl)
        case kb23z10 =>
          intro K0 hK
          go_simp
          refine (HNd.out wa22 _ (SA22.out.re (show _ = aSf gs S V * (Asn.blk gd 52 #[.int .i64 0, .int .i64 0, .int .i64 0, .bool false, .string ⟨#[]⟩, .int .i64 0, .slice none 0 0] * (Asn.vec 3 1 (.slice (some ⟨gp, 0, none⟩) (top + 1) cap) (top + 1) (ints pgl) * (Asn.blk ge 33 #[.int .i64 5, .int .i64 K, .int .i64 N] * (Asn.blk g 30 #[.pointer (some ⟨gs, 0, none⟩), vl, vp, .int .i64 n] * R)))) by ac_rfl))).mono ?_
          rintro e wc24 ⟨v, rfl, hX⟩
          obtain ⟨A, c, rfl⟩ := (show Own w0 No wc24 (Asn.vec 44 3 v (S pg).list.length (cells3 (S pg).list) * _) from hX).vec.slice
          have SC24 := Lib.hid (hX.re (show _ = Asn.blk gd 52 #[.int .i64 0, .int .i64 0, .int .i64 0, .bool false, .string ⟨#[]⟩, .int .i64 0, .slice none 0 0] * (Asn.vec 44 3 (.slice A (S pg).list.length c) (S pg).list.length (cells3 (S pg).list) * (aSf gs S V * (Asn.vec 3 1 (.slice (some ⟨gp, 0, none⟩) (top + 1) cap) (top + 1) (ints pgl) * (Asn.blk ge 33 #[.int .i64 5, .int .i64 K, .int .i64 N] * (Asn.blk g 30 #[.pointer (some ⟨gs, 0, none⟩), vl, vp, .int .i64 n] * R))))) by unfold aEnts; ac_rfl))
          clear hX SA22
          refine hK.out _ _ ?_ (fun hHeld => ?_)
          · exact ⟨(SC24.out.has (Has.r (Has.r (Has.r (Has.r (Has.r (Has.l (has_blk g _ _)))))))).cell 0, HPC.out _ _ (SC24.out.re (show _ = Asn.vec 3 1 (.slice (some ⟨gp, 0, none⟩) (top + 1) cap) (top + 1) (ints pgl) * (Asn.blk gd 52 #[.int .i64 0, .int .i64 0, .int .i64 0, .bool false, .string ⟨#[]⟩, .int .i64 0, .slice none 0 0] * (Asn.vec 44 3 (.slice A (S pg).list.length c) (S pg).list.length (cells3 (S pg).list) * (aSf gs S V * ((Asn.blk ge 33 #[.int .i64 5, .int .i64 K, .int .i64 N] * (Asn.blk g 30 #[.pointer (some ⟨gs, 0, none⟩), vl, vp, .int .i64 n] * R)))))) by ac_rfl))⟩
          clear hK K0
          (try simp only [Act.put, List.setIfInBounds_toArray, List.set_cons_zero, List.set_cons_succ])
          (try clear hH2)
          refine' wpAnyH_take (i := 11) (oi := ?ot25z11) (v := ?vt25z11) ?ht25z11 ?st25z11 ?ft25z11 ?zt25z11 ?qt25z11 ?yt25z11 ?at25z11 ?rt25z11
          case ht25z11 => (simp only [List.getElem?_toArray, List.getElem?_cons_succ, List.getElem?_cons_zero]; rfl)
          case st25z11 => kernel_rfl
          case ft25z11 => kernel_rfl
          case zt25z11 => kernel_rfl
          case qt25z11 => exact fun _ _ _ h => h
          case yt25z11 => (refine Or.inl ⟨rfl, ?_⟩; intro w hSw; (try dsimp only at hSw); go_simp; try with_reducible rfl)
          case at25z11 => assumption
          case rt25z11 =>
          simp only [Act.put, List.setIfInBounds_toArray, List.set_cons_zero, List.set_cons_succ]
          refine' wpAnyH_take (i := 12) (oi := ?ot26z12) (v := ?vt26z12) ?ht26z12 ?st26z12 ?ft26z12 ?zt26z12 ?qt26z12 ?yt26z12 ?at26z12 ?rt26z12
          case ht26z12 => (simp only [List.getElem?_toArray, List.getElem?_cons_succ, List.getElem?_cons_zero]; rfl)
          case st26z12 => kernel_rfl
          case ft26z12 => kernel_rfl
          case zt26z12 => kernel_rfl
          case qt26z12 => exact fun _ _ _ h => h
          case yt26z12 => (refine Or.inl ⟨rfl, ?_⟩; intro w hSw; (try dsimp only at hSw); go_simp; try with_reducible rfl)
          case at26z12 => assumption
          case rt26z12 =>
          simp only [Act.put, List.setIfInBounds_toArray, List.set_cons_zero, List.set_cons_succ]
          refine' wpAnyH_take (i := 13) (oi := ?ot27z13) (v := ?vt27z13) ?ht27z13 ?st27z13 ?ft27z13 ?zt27z13 ?qt27z13 ?yt27z13 ?at27z13 ?rt27z13
          case ht27z13 => (simp only [List.getElem?_toArray, List.getElem?_cons_succ, List.getElem?_cons_zero]; rfl)
          case st27z13 => kernel_rfl
          case ft27z13 => kernel_rfl
          case zt27z13 => kernel_rfl
          case qt27z13 => exact fun _ _ _ h => h
          case yt27z13 => (refine Or.inl ⟨rfl, ?_⟩; intro w hSw; (try dsimp only at hSw); go_simp; try with_reducible rfl)
          case at27z13 => assumption
          case rt27z13 =>
          simp only [Act.put, List.setIfInBounds_toArray, List.set_cons_zero, List.set_cons_succ]
          refine wpAnyH_ready (rs := [15]) (by kernel_rfl) (by simp) ?_
          refine' AllReadyH.cons (o := ?ob28z15) ?hb28z15 ?kb28z15 AllReadyH.nil
          case hb28z15 => (simp only [List.getElem?_toArray, List.getElem?_cons_succ, List.getElem?_cons_zero]; rfl)
          case kb28z15 =>
            intro K0 hK
            have hst := store_nodN (P := Try.prog) (S pg) A (S pg).list.length c (SC24.out.has (Has.l (has_blk gd _ _)))
            have hsz : (nodCells (S pg) (.slice A (S pg).list.length c)).size = 7 := rfl
            go_simp
            clear hst hsz
            have SB29 := Lib.hid (own_setRowB SC24.out (nodCells (S pg) (.slice A (S pg).list.length c)))
            clear SC24
            generalize World.setRow _ _ _ = wb29 at *
            refine hK.out _ _ ?_ (fun hHeld => ?_)
            · exact ⟨(SB29.out.has (Has.r (Has.r (Has.r (Has.r (Has.r (Has.l (has_blk g _ _)))))))).cell 0, HPC.out _ _ (SB29.out.re (show _ = Asn.vec 3 1 (.slice (some ⟨gp, 0, none⟩) (top + 1) cap) (top + 1) (ints pgl) * (Asn.blk gd 52 (nodCells (S pg) (.slice A (S pg).list.length c)) * (Asn.vec 44 3 (.slice A (S pg).list.length c) (S pg).list.length (cells3 (S pg).list) * (aSf gs S V * ((Asn.blk ge 33 #[.int .i64 5, .int .i64 K, .int .i64 N] * (Asn.blk g 30 #[.pointer (some ⟨gs, 0, none⟩), vl, vp, .int .i64 n] * R)))))) by ac_rfl))⟩
            clear hK K0
            (try simp only [Act.put, List.setIfInBounds_toArray, List.set_cons_zero, List.set_cons_succ])
            (try clear hH2)
            refine' wpAnyH_take (i := 16) (oi := ?ot30z16) (v := ?vt30z16) ?ht30z16 ?st30z16 ?ft30z16 ?zt30z16 ?qt30z16 ?yt30z16 ?at30z16 ?rt30z16
            case ht30z16 => (simp only [List.getElem?_toArray, List.getElem?_cons_succ, List.getElem?_cons_zero]; rfl)
            case st30z16 => kernel_rfl
            case ft30z16 => kernel_rfl
            case zt30z16 => kernel_rfl
            case qt30z16 => exact fun _ _ _ h => h
            case yt30z16 => (refine Or.inl ⟨rfl, ?_⟩; intro w hSw; (try dsimp only at hSw); go_simp; try with_reducible rfl)
            case at30z16 => assumption
            case rt30z16 =>
            simp only [Act.put, List.setIfInBounds_toArray, List.set_cons_zero, List.set_cons_succ]
            refine wpAnyH_done (by kernel_rfl) ?_ _
            go_wp2_with fail
            go_meet
            case rel => exact ⟨gd, A, c, rfl, Lib.hid (SB29.out.re (show _ = Asn.blk gd 52 (nodCells (S pg) (.slice A (S pg).list.length c)) * Asn.vec 44 3 (.slice A (S pg).list.length c) (S pg).list.length (cells3 (S pg).list) * (aSf gs S V * (Asn.vec 3 1 (.slice (some ⟨gp, 0, none⟩) (top + 1) cap) (top + 1) (ints pgl) * (Asn.blk ge 33 #[.int .i64 5, .int .i64 K, .int .i64 N] * (Asn.blk g 30 #[.pointer (some ⟨gs, 0, none⟩), vl, vp, .int .i64 n] * R)))) by ac_rfl))⟩

  case rest =>
    obtain ⟨gd, A, c, rfl, S5⟩ := hcut
    clear S4 c0 hq1 HNd
    have d6 := (S5.out.has (Has.l (Has.l (has_blk gd _ _)))).cell 6
    rw [show (nodCells (S pg) (.slice A (S pg).list.length c))[6]? = some (.slice A (S pg).list.length c) from rfl] at d6
    by_cases h2 : (S pg).list.length < 2
    · as_aux_lemma =>
        have h2' : ((S pg).list.length : Int) < 2 := by omega
        rw [HN2.out h2] at HSp
        dsimp only at HSp
        rw [show ((n + 1 : Nat) : Int) = (n : Int) + 1 from rfl] at HSp hw1
        clear HN2 HPT h2
        go_upto_region 22 with fail
        clear d6 h2'
        have S6 := Lib.hid (S5.out.drew.re (show _ = aSf gs S V * (Asn.blk g 30 #[.pointer (some ⟨gs, 0, none⟩), vl, vp, .int .i64 n] * ((Asn.blk gd 52 (nodCells (S pg) (.slice A (S pg).list.length c)) * Asn.vec 44 3 (.slice A (S pg).list.length c) (S pg).list.length (cells3 (S pg).list)) * (Asn.vec 3 1 (.slice (some ⟨gp, 0, none⟩) (top + 1) cap) (top + 1) (ints pgl) * (Asn.blk ge 33 #[.int .i64 5, .int .i64 K, .int .i64 N] * R)))) by ac_rfl))
        clear S5
        obtain ⟨X, hX⟩ : ∃ X : Asn, X = (Asn.blk gd 52 (nodCells (S pg) (.slice A (S pg).list.length c)) * Asn.vec 44 3 (.slice A (S pg).list.length c) (S pg).list.length (cells3 (S pg).list)) * (Asn.vec 3 1 (.slice (some ⟨gp, 0, none⟩) (top + 1) cap) (top + 1) (ints pgl) * (Asn.blk ge 33 #[.int .i64 5, .int .i64 K, .int .i64 N] * R)) := ⟨_, rfl⟩
        rw [← hX] at S6
        have cc := S6.out.has (Has.r (Has.l (has_blk g _ _)))
        obtain ⟨c0, c1, c2, c3⟩ := post_cellsB cc
        refine wp_region_held_drew (S := fun W : World => W.cell? ⟨g, 0, none⟩ = some (.pointer (some ⟨gs, 0, none⟩)) ∧ W.cell? ⟨g, 3, none⟩ = some (.int .i64 n)) (by kernel_rfl) ⟨c0, c3⟩ (fun hHeld => ?_)
        clear c0 c1 c2 c3 cc
        generalize World.drew _ = w4 at *
        refine' wpAnyH_take (i := 0) (oi := ?ot31z0) (v := ?vt31z0) ?ht31z0 ?st31z0 ?ft31z0 ?zt31z0 ?qt31z0 ?yt31z0 ?at31z0 ?rt31z0
        case ht31z0 => (simp only [List.getElem?_toArray, List.getElem?_cons_succ, List.getElem?_cons_zero]; rfl)
        case st31z0 => kernel_rfl
        case ft31z0 => kernel_rfl
        case zt31z0 => kernel_rfl
        case qt31z0 => exact fun _ _ _ h => h
        case yt31z0 => (refine Or.inl ⟨rfl, ?_⟩; intro w hSw; (try dsimp only at hSw); go_simp; try with_reducible rfl)
        case at31z0 => assumption
        case rt31z0 =>
        simp only [Act.put, List.setIfInBounds_toArray, List.set_cons_zero, List.set_cons_succ]
        refine' wpAnyH_take (i := 1) (oi := ?ot32z1) (v := ?vt32z1) ?ht32z1 ?st32z1 ?ft32z1 ?zt32z1 ?qt32z1 ?yt32z1 ?at32z1 ?rt32z1
        case ht32z1 => (simp only [List.getElem?_toArray, List.getElem?_cons_succ, List.getElem?_cons_zero]; rfl)
        case st32z1 => kernel_rfl
        case ft32z1 => kernel_rfl
        case zt32z1 => kernel_rfl
        case qt32z1 => exact fun _ _ _ h => h
        case yt32z1 => (refine Or.inl ⟨rfl, ?_⟩; intro w hSw; (try dsimp only at hSw); go_simp; try with_reducible rfl)
        case at32z1 => assumption
        case rt32z1 =>
        simp only [Act.put, List.setIfInBounds_toArray, List.set_cons_zero, List.set_cons_succ]
        refine' wpAnyH_take (i := 2) (oi := ?ot33z2) (v := ?vt33z2) ?ht33z2 ?st33z2 ?ft33z2 ?zt33z2 ?qt33z2 ?yt33z2 ?at33z2 ?rt33z2
        case ht33z2 => (simp only [List.getElem?_toArray, List.getElem?_cons_succ, List.getElem?_cons_zero]; rfl)
        case st33z2 => kernel_rfl
        case ft33z2 => kernel_rfl
        case zt33z2 => kernel_rfl
        case qt33z2 => exact fun _ _ _ h => h
        case yt33z2 => (refine Or.inl ⟨rfl, ?_⟩; intro w hSw; (try dsimp only at hSw); go_simp; try with_reducible rfl)
        case at33z2 => assumption
        case rt33z2 =>
        simp only [Act.put, List.setIfInBounds_toArray, List.set_cons_zero, List.set_cons_succ]
        refine' wpAnyH_take (i := 3) (oi := ?ot34z3) (v := ?vt34z3) ?ht34z3 ?st34z3 ?ft34z3 ?zt34z3 ?qt34z3 ?yt34z3 ?at34z3 ?rt34z3
        case ht34z3 => (simp only [List.getElem?_toArray, List.getElem?_cons_succ, List.getElem?_cons_zero]; rfl)
        case st34z3 => kernel_rfl
        case ft34z3 => kernel_rfl
        case zt34z3 => kernel_rfl
        case qt34z3 => exact fun _ _ _ h => h
        case yt34z3 => (refine Or.inl ⟨rfl, ?_⟩; intro w hSw; obtain ⟨hS1, hS2⟩ := hSw; go_simp; try with_reducible rfl)
        case at34z3 => assumption
        case rt34z3 =>
        simp only [Act.put, List.setIfInBounds_toArray, List.set_cons_zero, List.set_cons_succ]
        refine' wpAnyH_take (i := 4) (oi := ?ot35z4) (v := ?vt35z4) ?ht35z4 ?st35z4 ?ft35z4 ?zt35z4 ?qt35z4 ?yt35z4 ?at35z4 ?rt35z4
        case ht35z4 => (simp only [List.getElem?_toArray, List.getElem?_cons_succ, List.getElem?_cons_zero]; rfl)
        case st35z4 => kernel_rfl
        case ft35z4 => kernel_rfl
        case zt35z4 => kernel_rfl
        case qt35z4 => exact fun _ _ _ h => h
        case yt35z4 => (refine Or.inl ⟨rfl, ?_⟩; intro w hSw; (try dsimp only at hSw); go_simp; try with_reducible rfl)
        case at35z4 => assumption
        case rt35z4 =>
        simp only [Act.put, List.setIfInBounds_toArray, List.set_cons_zero, List.set_cons_succ]
        refine' wpAnyH_take (i := 5) (oi := ?ot36z5) (v := ?vt36z5) ?ht36z5 ?st36z5 ?ft36z5 ?zt36z5 ?qt36z5 ?yt36z5 ?at36z5 ?rt36z5
        case ht36z5 => (simp only [List.getElem?_toArray, List.getElem?_cons_succ, List.getElem?_cons_zero]; rfl)
        case st36z5 => kernel_rfl
        case ft36z5 => kernel_rfl
        case zt36z5 => kernel_rfl
        case qt36z5 => exact fun _ _ _ h => h
        case yt36z5 => (refine Or.inl ⟨rfl, ?_⟩; intro w hSw; (try dsimp only at hSw); go_simp; try with_reducible rfl)
        case at36z5 => assumption
        case rt36z5 =>
        simp only [Act.put, List.setIfInBounds_toArray, List.set_cons_zero, List.set_cons_succ]
        refine' wpAnyH_take (i := 6) (oi := ?ot37z6) (v := ?vt37z6) ?ht37z6 ?st37z6 ?ft37z6 ?zt37z6 ?qt37z6 ?yt37z6 ?at37z6 ?rt37z6
        case ht37z6 => (simp only [List.getElem?_toArray, List.getElem?_cons_succ, List.getElem?_cons_zero]; rfl)
        case st37z6 => kernel_rfl
        case ft37z6 => kernel_rfl
        case zt37z6 => kernel_rfl
        case qt37z6 => exact fun _ _ _ h => h
        case yt37z6 => (refine Or.inl ⟨rfl, ?_⟩; intro w hSw; (try dsimp only at hSw); go_simp; try with_reducible rfl)
        case at37z6 => assumption
        case rt37z6 =>
        simp only [Act.put, List.setIfInBounds_toArray, List.set_cons_zero, List.set_cons_succ]
        refine' wpAnyH_take (i := 7) (oi := ?ot38z7) (v := ?vt38z7) ?ht38z7 ?st38z7 ?ft38z7 ?zt38z7 ?qt38z7 ?yt38z7 ?at38z7 ?rt38z7
        case ht38z7 => (simp only [List.getElem?_toArray, List.getElem?_cons_succ, List.getElem?_cons_zero]; rfl)
        case st38z7 => kernel_rfl
        case ft38z7 => kernel_rfl
        case zt38z7 => kernel_rfl
        case qt38z7 => exact fun _ _ _ h => h
        case yt38z7 => (refine Or.inl ⟨rfl, ?_⟩; intro w hSw; (try dsimp only at hSw); go_simp; try with_reducible rfl)
        case at38z7 => assumption
        case rt38z7 =>
        simp only [Act.put, List.setIfInBounds_toArray, List.set_cons_zero, List.set_cons_succ]
        refine' wpAnyH_take (i := 8) (oi := ?ot39z8) (v := ?vt39z8) ?ht39z8 ?st39z8 ?ft39z8 ?zt39z8 ?qt39z8 ?yt39z8 ?at39z8 ?rt39z8
        case ht39z8 => (simp only [List.getElem?_toArray, List.getElem?_cons_succ, List.getElem?_cons_zero]; rfl)
        case st39z8 => kernel_rfl
        case ft39z8 => kernel_rfl
        case zt39z8 => kernel_rfl
        case qt39z8 => exact fun _ _ _ h => h
        case yt39z8 => (refine Or.inl ⟨rfl, ?_⟩; intro w hSw; (try dsimp only at hSw); go_simp; try with_reducible rfl)
        case at39z8 => assumption
        case rt39z8 =>
        simp only [Act.put, List.setIfInBounds_toArray, List.set_cons_zero, List.set_cons_succ]
        refine' wpAnyH_take (i := 9) (oi := ?ot40z9) (v := ?vt40z9) ?ht40z9 ?st40z9 ?ft40z9 ?zt40z9 ?qt40z9 ?yt40z9 ?at40z9 ?rt40z9
        case ht40z9 => (simp only [List.getElem?_toArray, List.getElem?_cons_succ, List.getElem?_cons_zero]; rfl)
        case st40z9 => kernel_rfl
        case ft40z9 => kernel_rfl
        case zt40z9 => kernel_rfl
        case qt40z9 => exact fun _ _ _ h => h
        case yt40z9 => (refine Or.inl ⟨rfl, ?_⟩; intro w hSw; obtain ⟨hS1, hS2⟩ := hSw; go_simp; try with_reducible rfl)
        case at40z9 => assumption
        case rt40z9 =>
        simp only [Act.put, List.setIfInBounds_toArray, List.set_cons_zero, List.set_cons_succ]
        refine' wpAnyH_take (i := 10) (oi := ?ot41z10) (v := ?vt41z10) ?ht41z10 ?st41z10 ?ft41z10 ?zt41z10 ?qt41z10 ?yt41z10 ?at41z10 ?rt41z10
        case ht41z10 => (simp only [List.getElem?_toArray, List.getElem?_cons_succ, List.getElem?_cons_zero]; rfl)
        case st41z10 => kernel_rfl
        case ft41z10 => kernel_rfl
        case zt41z10 => kernel_rfl
        case qt41z10 => exact fun _ _ _ h => h
        case yt41z10 => (refine Or.inl ⟨rfl, ?_⟩; intro w hSw; (try dsimp only at hSw); go_simp; try with_reducible rfl)
        case at41z10 => assumption
        case rt41z10 =>
        simp only [Act.put, List.setIfInBounds_toArray, List.set_cons_zero, List.set_cons_succ]
        refine' wpAnyH_take (i := 11) (oi := ?ot42z11) (v := ?vt42z11) ?ht42z11 ?st42z11 ?ft42z11 ?zt42z11 ?qt42z11 ?yt42z11 ?at42z11 ?rt42z11
        case ht42z11 => (simp only [List.getElem?_toArray, List.getElem?_cons_succ, List.getElem?_cons_zero]; rfl)
        case st42z11 => kernel_rfl
        case ft42z11 => kernel_rfl
        case zt42z11 => kernel_rfl
        case qt42z11 => exact fun _ _ _ h => h
        case yt42z11 => (refine Or.inl ⟨rfl, ?_⟩; intro w hSw; (try dsimp only at hSw); go_simp; try with_reducible rfl)
        case at42z11 => assumption
        case rt42z11 =>
        simp only [Act.put, List.setIfInBounds_toArray, List.set_cons_zero, List.set_cons_succ]
        refine' wpAnyH_take (i := 12) (oi := ?ot43z12) (v := ?vt43z12) ?ht43z12 ?st43z12 ?ft43z12 ?zt43z12 ?qt43z12 ?yt43z12 ?at43z12 ?rt43z12
        case ht43z12 => (simp only [List.getElem?_toArray, List.getElem?_cons_succ, List.getElem?_cons_zero]; rfl)
        case st43z12 => kernel_rfl
        case ft43z12 => kernel_rfl
        case zt43z12 => kernel_rfl
        case qt43z12 => exact fun _ _ _ h => h
        case yt43z12 => (refine Or.inl ⟨rfl, ?_⟩; intro w hSw; (try dsimp only at hSw); go_simp; try with_reducible rfl)
        case at43z12 => assumption
        case rt43z12 =>
        simp only [Act.put, List.setIfInBounds_toArray, List.set_cons_zero, List.set_cons_succ]
        refine' wpAnyH_take (i := 13) (oi := ?ot44z13) (v := ?vt44z13) ?ht44z13 ?st44z13 ?ft44z13 ?zt44z13 ?qt44z13 ?yt44z13 ?at44z13 ?rt44z13
        case ht44z13 => (simp only [List.getElem?_toArray, List.getElem?_cons_succ, List.getElem?_cons_zero]; rfl)
        case st44z13 => kernel_rfl
        case ft44z13 => kernel_rfl
        case zt44z13 => kernel_rfl
        case qt44z13 => exact fun _ _ _ h => h
        case yt44z13 => (refine Or.inl ⟨rfl, ?_⟩; intro w hSw; obtain ⟨hS1, hS2⟩ := hSw; go_simp; try with_reducible rfl)
        case at44z13 => assumption
        case rt44z13 =>
        simp only [Act.put, List.setIfInBounds_toArray, List.set_cons_zero, List.set_cons_succ]
        refine' wpAnyH_take (i := 14) (oi := ?ot45z14) (v := ?vt45z14) ?ht45z14 ?st45z14 ?ft45z14 ?zt45z14 ?qt45z14 ?yt45z14 ?at45z14 ?rt45z14
        case ht45z14 => (simp only [List.getElem?_toArray, List.getElem?_cons_succ, List.getElem?_cons_zero]; rfl)
        case st45z14 => kernel_rfl
        case ft45z14 => kernel_rfl
        case zt45z14 => kernel_rfl
        case qt45z14 => exact fun _ _ _ h => h
        case yt45z14 => (refine Or.inl ⟨rfl, ?_⟩; intro w hSw; (try dsimp only at hSw); go_simp; try with_reducible rfl)
        case at45z14 => assumption
        case rt45z14 =>
        simp only [Act.put, List.setIfInBounds_toArray, List.set_cons_zero, List.set_cons_succ]
        refine' wpAnyH_take (i := 15) (oi := ?ot46z15) (v := ?vt46z15) ?ht46z15 ?st46z15 ?ft46z15 ?zt46z15 ?qt46z15 ?yt46z15 ?at46z15 ?rt46z15
        case ht46z15 => (simp only [List.getElem?_toArray, List.getElem?_cons_succ, List.getElem?_cons_zero]; rfl)
        case st46z15 => kernel_rfl
        case ft46z15 => kernel_rfl
        case zt46z15 => kernel_rfl
        case qt46z15 => exact fun _ _ _ h => h
        case yt46z15 => (refine Or.inl ⟨rfl, ?_⟩; intro w hSw; (try dsimp only at hSw); go_simp; try with_reducible rfl)
        case at46z15 => assumption
        case rt46z15 =>
        simp only [Act.put, List.setIfInBounds_toArray, List.set_cons_zero, List.set_cons_succ]
        refine wpAnyH_ready (rs := [16, 21]) (by kernel_rfl) (by simp) ?_
        refine' AllReadyH.cons (o := ?ob47z16) ?hb47z16 ?kb47z16 ?mb47z16
        case hb47z16 => (simp only [List.getElem?_toArray, List.getElem?_cons_succ, List.getElem?_cons_zero]; rfl)
        case kb47z16 =>
          intro K0 hK
          go_simp
          refine (HSp.out w4 _ S6.out).mono ?_
          rintro e wc48 ⟨v, L, rfl, hpl, hX9⟩
          have SC48 := Lib.hid hX9
          clear hX9 S6
          refine hK.out _ _ ?_ (fun hHeld => ?_)
          · exact ⟨(SC48.out.has (Has.r (Has.r (Has.r (Has.l (has_blk g _ _)))))).cell 0, (SC48.out.has (Has.r (Has.r (Has.r (Has.l (has_blk g _ _)))))).cell 3⟩
          clear hK K0
          (try simp only [Act.put, List.setIfInBounds_toArray, List.set_cons_zero, List.set_cons_succ])
          (try clear hH2)
          refine' wpAnyH_take (i := 17) (oi := ?ot49z17) (v := ?vt49z17) ?ht49z17 ?st49z17 ?ft49z17 ?zt49z17 ?qt49z17 ?yt49z17 ?at49z17 ?rt49z17
          case ht49z17 => (simp only [List.getElem?_toArray, List.getElem?_cons_succ, List.getElem?_cons_zero]; rfl)
          case st49z17 => kernel_rfl
          case ft49z17 => kernel_rfl
          case zt49z17 => kernel_rfl
          case qt49z17 => exact fun _ _ _ h => h
          case yt49z17 => (refine Or.inl ⟨rfl, ?_⟩; intro w hSw; (try dsimp only at hSw); go_simp; try with_reducible rfl)
          case at49z17 => assumption
          case rt49z17 =>
          simp only [Act.put, List.setIfInBounds_toArray, List.set_cons_zero, List.set_cons_succ]
          refine' wpAnyH_take (i := 18) (oi := ?ot50z18) (v := ?vt50z18) ?ht50z18 ?st50z18 ?ft50z18 ?zt50z18 ?qt50z18 ?yt50z18 ?at50z18 ?rt50z18
          case ht50z18 => (simp only [List.getElem?_toArray, List.getElem?_cons_succ, List.getElem?_cons_zero]; rfl)
          case st50z18 => kernel_rfl
          case ft50z18 => kernel_rfl
          case zt50z18 => kernel_rfl
          case qt50z18 => exact fun _ _ _ h => h
          case yt50z18 => (refine Or.inl ⟨rfl, ?_⟩; intro w hSw; (try dsimp only at hSw); go_simp; try with_reducible rfl)
          case at50z18 => assumption
          case rt50z18 =>
          simp only [Act.put, List.setIfInBounds_toArray, List.set_cons_zero, List.set_cons_succ]
          refine' wpAnyH_take (i := 19) (oi := ?ot51z19) (v := ?vt51z19) ?ht51z19 ?st51z19 ?ft51z19 ?zt51z19 ?qt51z19 ?yt51z19 ?at51z19 ?rt51z19
          case ht51z19 => (simp only [List.getElem?_toArray, List.getElem?_cons_succ, List.getElem?_cons_zero]; rfl)
          case st51z19 => kernel_rfl
          case ft51z19 => kernel_rfl
          case zt51z19 => kernel_rfl
          case qt51z19 => exact fun _ _ _ h => h
          case yt51z19 => (refine Or.inl ⟨rfl, ?_⟩; intro w hSw; (try dsimp only at hSw); go_simp; try with_reducible rfl)
          case at51z19 => assumption
          case rt51z19 =>
          simp only [Act.put, List.setIfInBounds_toArray, List.set_cons_zero, List.set_cons_succ]
          refine' wpAnyH_take (i := 20) (oi := ?ot52z20) (v := ?vt52z20) ?ht52z20 ?st52z20 ?ft52z20 ?zt52z20 ?qt52z20 ?yt52z20 ?at52z20 ?rt52z20
          case ht52z20 => (simp only [List.getElem?_toArray, List.getElem?_cons_succ, List.getElem?_cons_zero]; rfl)
          case st52z20 => kernel_rfl
          case ft52z20 => kernel_rfl
          case zt52z20 => kernel_rfl
          case qt52z20 => exact fun _ _ _ h => h
          case yt52z20 => (refine Or.inl ⟨rfl, ?_⟩; intro w hSw; (try dsimp only at hSw); go_simp; try with_reducible rfl)
          case at52z20 => assumption
          case rt52z20 =>
          simp only [Act.put, List.setIfInBounds_toArray, List.set_cons_zero, List.set_cons_succ]
          refine wpAnyH_ready (rs := [21]) (by kernel_rfl) (by simp) ?_
          refine' AllReadyH.cons (o := ?ob53z21) ?hb53z21 ?kb53z21 AllReadyH.nil
          case hb53z21 => (simp only [List.getElem?_toArray, List.getElem?_cons_succ, List.getElem?_cons_zero]; rfl)
          case kb53z21 =>
            intro K0 hK
            go_simp
            obtain ⟨gq, hgz⟩ : ∃ g, g = wc48.heap.size := ⟨_, rfl⟩
            have SA54 := Lib.hid (SC48.out.alloc #[.int .i64 0, .int .i64 0, .string ⟨#[]⟩, .int .i64 0] 79)
            rw [← hgz] at SA54 ⊢
            clear hgz SC48
            generalize World.alloc wc48 _ = wa54 at *
            have SA54 := Lib.hid (SA54.out.re (show _ = Asn.vec 73 8 v L.length (spL L) * (aLs L * (aSf gs S V * (Asn.blk gq 79 #[.int .i64 0, .int .i64 0, .string ⟨#[]⟩, .int .i64 0] * (Asn.blk g 30 #[.pointer (some ⟨gs, 0, none⟩), vl, vp, .int .i64 n] * X)))) by ac_rfl))
            refine hK.out _ _ ?_ (fun hHeld => ?_)
            · exact ⟨(SA54.out.has (Has.r (Has.r (Has.r (Has.r (Has.l (has_blk g _ _))))))).cell 0, (SA54.out.has (Has.r (Has.r (Has.r (Has.r (Has.l (has_blk g _ _))))))).cell 3⟩
            clear hK K0
            (try simp only [Act.put, List.setIfInBounds_toArray, List.set_cons_zero, List.set_cons_succ])
            (try clear hH2)
            refine' wpAnyH_take (i := 22) (oi := ?ot55z22) (v := ?vt55z22) ?ht55z22 ?st55z22 ?ft55z22 ?zt55z22 ?qt55z22 ?yt55z22 ?at55z22 ?rt55z22
            case ht55z22 => (simp only [List.getElem?_toArray, List.getElem?_cons_succ, List.getElem?_cons_zero]; rfl)
            case st55z22 => kernel_rfl
            case ft55z22 => kernel_rfl
            case zt55z22 => kernel_rfl
            case qt55z22 => exact fun _ _ _ h => h
            case yt55z22 => (refine Or.inl ⟨rfl, ?_⟩; intro w hSw; (try dsimp only at hSw); go_simp; try with_reducible rfl)
            case at55z22 => assumption
            case rt55z22 =>
            simp only [Act.put, List.setIfInBounds_toArray, List.set_cons_zero, List.set_cons_succ]
            refine wpAnyH_ready (rs := [23]) (by kernel_rfl) (by simp) ?_
            refine' AllReadyH.cons (o := ?ob56z23) ?hb56z23 ?kb56z23 AllReadyH.nil
            case hb56z23 => (simp only [List.getElem?_toArray, List.getElem?_cons_succ, List.getElem?_cons_zero]; rfl)
            case kb56z23 =>
              intro K0 hK
              have hq := SA54.out.re (show _ = Asn.blk gq 79 #[.int .i64 0, .int .i64 0, .string ⟨#[]⟩, .int .i64 0] * (Asn.vec 73 8 v L.length (spL L) * (aLs L * (aSf gs S V * (Asn.blk g 30 #[.pointer (some ⟨gs, 0, none⟩), vl, vp, .int .i64 n] * X)))) by ac_rfl)
              have hst := store_post (P := Try.prog) po0 (hq.has (Has.l (has_blk gq _ _)))
              have hsz : (poC po0).size = 4 := rfl
              go_simp
              clear hst hsz
              have SB57 := Lib.hid ((own_setRowB hq (poC po0)).re (show _ = Asn.vec 73 8 v L.length (spL L) * (aLs L * (aSf gs S V * (Asn.blk gq 79 (poC po0) * (Asn.blk g 30 #[.pointer (some ⟨gs, 0, none⟩), vl, vp, .int .i64 n] * X)))) by ac_rfl))
              clear SA54 hq
              generalize World.setRow _ _ _ = wb57 at *
              refine hK.out _ _ ?_ (fun hHeld => ?_)
              · exact ⟨(SB57.out.has (Has.r (Has.r (Has.r (Has.r (Has.l (has_blk g _ _))))))).cell 0, (SB57.out.has (Has.r (Has.r (Has.r (Has.r (Has.l (has_blk g _ _))))))).cell 3⟩
              clear hK K0
              (try simp only [Act.put, List.setIfInBounds_toArray, List.set_cons_zero, List.set_cons_succ])
              (try clear hH2)
              refine' wpAnyH_take (i := 24) (oi := ?ot58z24) (v := ?vt58z24) ?ht58z24 ?st58z24 ?ft58z24 ?zt58z24 ?qt58z24 ?yt58z24 ?at58z24 ?rt58z24
              case ht58z24 => (simp only [List.getElem?_toArray, List.getElem?_cons_succ, List.getElem?_cons_zero]; rfl)
              case st58z24 => kernel_rfl
              case ft58z24 => kernel_rfl
              case zt58z24 => kernel_rfl
              case qt58z24 => exact fun _ _ _ h => h
              case yt58z24 => (refine Or.inl ⟨rfl, ?_⟩; intro w hSw; (try dsimp only at hSw); go_simp; try with_reducible rfl)
              case at58z24 => assumption
              case rt58z24 =>
              simp only [Act.put, List.setIfInBounds_toArray, List.set_cons_zero, List.set_cons_succ]
              refine wpAnyH_done (by kernel_rfl) ?_ _
              go_wp2_with fail
              go_returns
              rw [hX, hR] at SB57
              exact ⟨rfl, _, hwp.out, (SB57.out.re (show _ = (Asn.vec 73 8 v L.length (spL L) * (aLs L * (Asn.blk gq 79 (poC po0) * ((Asn.blk gd 52 (nodCells (S pg) (.slice A (S pg).list.length c)) * Asn.vec 44 3 (.slice A (S pg).list.length c) (S pg).list.length (cells3 (S pg).list)) * (Asn.vec 3 1 (.slice (some ⟨gp, 0, none⟩) (top + 1) cap) (top + 1) (ints pgl) * Asn.blk ge 33 #[.int .i64 5, .int .i64 K, .int .i64 N]))))) * (aWd g gs S V vl l vp (ps.map du) n * C) by unfold aWd sPtr; ac_rfl)).right⟩
        case mb47z16 =>
        refine' AllReadyH.cons (o := ?ob59z21) ?hb59z21 ?kb59z21 AllReadyH.nil
        case hb59z21 => (simp only [List.getElem?_toArray, List.getElem?_cons_succ, List.getElem?_cons_zero]; rfl)
        case kb59z21 =>
          intro K0 hK
          go_simp
          obtain ⟨gq, hgz⟩ : ∃ g, g = w4.heap.size := ⟨_, rfl⟩
          have SA60 := Lib.hid (S6.out.alloc #[.int .i64 0, .int .i64 0, .string ⟨#[]⟩, .int .i64 0] 79)
          rw [← hgz] at SA60 ⊢
          clear hgz S6
          generalize World.alloc w4 _ = wa60 at *
          have SA60 := Lib.hid (SA60.out.re (show _ = aSf gs S V * (Asn.blk gq 79 #[.int .i64 0, .int .i64 0, .string ⟨#[]⟩, .int .i64 0] * (Asn.blk g 30 #[.pointer (some ⟨gs, 0, none⟩), vl, vp, .int .i64 n] * X)) by ac_rfl))
          refine hK.out _ _ ?_ (fun hHeld => ?_)
          · exact ⟨(SA60.out.has (Has.r (Has.r (Has.l (has_blk g _ _))))).cell 0, (SA60.out.has (Has.r (Has.r (Has.l (has_blk g _ _))))).cell 3⟩
          clear hK K0
          (try simp only [Act.put, List.setIfInBounds_toArray, List.set_cons_zero, List.set_cons_succ])
          (try clear hH2)
          refine wpAnyH_ready (rs := [16]) (by kernel_rfl) (by simp) ?_
          refine' AllReadyH.cons (o := ?ob61z16) ?hb61z16 ?kb61z16 AllReadyH.nil
          case hb61z16 => (simp only [List.getElem?_toArray, List.getElem?_cons_succ, List.getElem?_cons_zero]; rfl)
          case kb61z16 =>
            intro K0 hK
            go_simp
            refine (HSp.out wa60 _ SA60.out).mono ?_
            rintro e wc62 ⟨v, L, rfl, hpl, hX9⟩
            have SC62 := Lib.hid hX9
            clear hX9 SA60
            refine hK.out _ _ ?_ (fun hHeld => ?_)
            · exact ⟨(SC62.out.has (Has.r (Has.r (Has.r (Has.r (Has.l (has_blk g _ _))))))).cell 0, (SC62.out.has (Has.r (Has.r (Has.r (Has.r (Has.l (has_blk g _ _))))))).cell 3⟩
            clear hK K0
            (try simp only [Act.put, List.setIfInBounds_toArray, List.set_cons_zero, List.set_cons_succ])
            (try clear hH2)
            refine' wpAnyH_take (i := 17) (oi := ?ot63z17) (v := ?vt63z17) ?ht63z17 ?st63z17 ?ft63z17 ?zt63z17 ?qt63z17 ?yt63z17 ?at63z17 ?rt63z17
            case ht63z17 => (simp only [List.getElem?_toArray, List.getElem?_cons_succ, List.getElem?_cons_zero]; rfl)
            case st63z17 => kernel_rfl
            case ft63z17 => kernel_rfl
            case zt63z17 => kernel_rfl
            case qt63z17 => exact fun _ _ _ h => h
            case yt63z17 => (refine Or.inl ⟨rfl, ?_⟩; intro w hSw; (try dsimp only at hSw); go_simp; try with_reducible rfl)
            case at63z17 => assumption
            case rt63z17 =>
            simp only [Act.put, List.setIfInBounds_toArray, List.set_cons_zero, List.set_cons_succ]
            refine' wpAnyH_take (i := 18) (oi := ?ot64z18) (v := ?vt64z18) ?ht64z18 ?st64z18 ?ft64z18 ?zt64z18 ?qt64z18 ?yt64z18 ?at64z18 ?rt64z18
            case ht64z18 => (simp only [List.getElem?_toArray, List.getElem?_cons_succ, List.getElem?_cons_zero]; rfl)
            case st64z18 => kernel_rfl
            case ft64z18 => kernel_rfl
            case zt64z18 => kernel_rfl
            case qt64z18 => exact fun _ _ _ h => h
            case yt64z18 => (refine Or.inl ⟨rfl, ?_⟩; intro w hSw; (try dsimp only at hSw); go_simp; try with_reducible rfl)
            case at64z18 => assumption
            case rt64z18 =>
            simp only [Act.put, List.setIfInBounds_toArray, List.set_cons_zero, List.set_cons_succ]
            refine' wpAnyH_take (i := 19) (oi := ?ot65z19) (v := ?vt65z19) ?ht65z19 ?st65z19 ?ft65z19 ?zt65z19 ?qt65z19 ?yt65z19 ?at65z19 ?rt65z19
            case ht65z19 => (simp only [List.getElem?_toArray, List.getElem?_cons_succ, List.getElem?_cons_zero]; rfl)
            case st65z19 => kernel_rfl
            case ft65z19 => kernel_rfl
            case zt65z19 => kernel_rfl
            case qt65z19 => exact fun _ _ _ h => h
            case yt65z19 => (refine Or.inl ⟨rfl, ?_⟩; intro w hSw; (try dsimp only at hSw); go_simp; try with_reducible rfl)
            case at65z19 => assumption
            case rt65z19 =>
            simp only [Act.put, List.setIfInBounds_toArray, List.set_cons_zero, List.set_cons_succ]
            refine' wpAnyH_take (i := 20) (oi := ?ot66z20) (v := ?vt66z20) ?ht66z20 ?st66z20 ?ft66z20 ?zt66z20 ?qt66z20 ?yt66z20 ?at66z20 ?rt66z20
            case ht66z20 => (simp only [List.getElem?_toArray, List.getElem?_cons_succ, List.getElem?_cons_zero]; rfl)
            case st66z20 => kernel_rfl
            case ft66z20 => kernel_rfl
            case zt66z20 => kernel_rfl
            case qt66z20 => exact fun _ _ _ h => h
            case yt66z20 => (refine Or.inl ⟨rfl, ?_⟩; intro w hSw; (try dsimp only at hSw); go_simp; try with_reducible rfl)
            case at66z20 => assumption
            case rt66z20 =>
            simp only [Act.put, List.setIfInBounds_toArray, List.set_cons_zero, List.set_cons_succ]
            refine' wpAnyH_take (i := 22) (oi := ?ot67z22) (v := ?vt67z22) ?ht67z22 ?st67z22 ?ft67z22 ?zt67z22 ?qt67z22 ?yt67z22 ?at67z22 ?rt67z22
            case ht67z22 => (simp only [List.getElem?_toArray, List.getElem?_cons_succ, List.getElem?_cons_zero]; rfl)
            case st67z22 => kernel_rfl
            case ft67z22 => kernel_rfl
            case zt67z22 => kernel_rfl
            case qt67z22 => exact fun _ _ _ h => h
            case yt67z22 => (refine Or.inl ⟨rfl, ?_⟩; intro w hSw; (try dsimp only at hSw); go_simp; try with_reducible rfl)
            case at67z22 => assumption
            case rt67z22 =>
            simp only [Act.put, List.setIfInBounds_toArray, List.set_cons_zero, List.set_cons_succ]
            refine wpAnyH_ready (rs := [23]) (by kernel_rfl) (by simp) ?_
            refine' AllReadyH.cons (o := ?ob68z23) ?hb68z23 ?kb68z23 AllReadyH.nil
            case hb68z23 => (simp only [List.getElem?_toArray, List.getElem?_cons_succ, List.getElem?_cons_zero]; rfl)
            case kb68z23 =>
              intro K0 hK
              have hq := SC62.out.re (show _ = Asn.blk gq 79 #[.int .i64 0, .int .i64 0, .string ⟨#[]⟩, .int .i64 0] * (Asn.vec 73 8 v L.length (spL L) * (aLs L * (aSf gs S V * (Asn.blk g 30 #[.pointer (some ⟨gs, 0, none⟩), vl, vp, .int .i64 n] * X)))) by ac_rfl)
              have hst := store_post (P := Try.prog) po0 (hq.has (Has.l (has_blk gq _ _)))
              have hsz : (poC po0).size = 4 := rfl
              go_simp
              clear hst hsz
              have SB69 := Lib.hid ((own_setRowB hq (poC po0)).re (show _ = Asn.vec 73 8 v L.length (spL L) * (aLs L * (aSf gs S V * (Asn.blk gq 79 (poC po0) * (Asn.blk g 30 #[.pointer (some ⟨gs, 0, none⟩), vl, vp, .int .i64 n] * X)))) by ac_rfl))
              clear SC62 hq
              generalize World.setRow _ _ _ = wb69 at *
              refine hK.out _ _ ?_ (fun hHeld => ?_)
              · exact ⟨(SB69.out.has (Has.r (Has.r (Has.r (Has.r (Has.l (has_blk g _ _))))))).cell 0, (SB69.out.has (Has.r (Has.r (Has.r (Has.r (Has.l (has_blk g _ _))))))).cell 3⟩
              clear hK K0
              (try simp only [Act.put, List.setIfInBounds_toArray, List.set_cons_zero, List.set_cons_succ])
              (try clear hH2)
              refine' wpAnyH_take (i := 24) (oi := ?ot70z24) (v := ?vt70z24) ?ht70z24 ?st70z24 ?ft70z24 ?zt70z24 ?qt70z24 ?yt70z24 ?at70z24 ?rt70z24
              case ht70z24 => (simp only [List.getElem?_toArray, List.getElem?_cons_succ, List.getElem?_cons_zero]; rfl)
              case st70z24 => kernel_rfl
              case ft70z24 => kernel_rfl
              case zt70z24 => kernel_rfl
              case qt70z24 => exact fun _ _ _ h => h
              case yt70z24 => (refine Or.inl ⟨rfl, ?_⟩; intro w hSw; (try dsimp only at hSw); go_simp; try with_reducible rfl)
              case at70z24 => assumption
              case rt70z24 =>
              simp only [Act.put, List.setIfInBounds_toArray, List.set_cons_zero, List.set_cons_succ]
              refine wpAnyH_done (by kernel_rfl) ?_ _
              go_wp2_with fail
              go_returns
              rw [hX, hR] at SB69
              exact ⟨rfl, _, hwp.out, (SB69.out.re (show _ = (Asn.vec 73 8 v L.length (spL L) * (aLs L * (Asn.blk gq 79 (poC po0) * ((Asn.blk gd 52 (nodCells (S pg) (.slice A (S pg).list.length c)) * Asn.vec 44 3 (.slice A (S pg).list.length c) (S pg).list.length (cells3 (S pg).list)) * (Asn.vec 3 1 (.slice (some ⟨gp, 0, none⟩) (top + 1) cap) (top + 1) (ints pgl) * Asn.blk ge 33 #[.int .i64 5, .int .i64 K, .int .i64 N]))))) * (aWd g gs S V vl l vp (ps.map du) n * C) by unfold aWd sPtr; ac_rfl)).right⟩

    · as_aux_lemma =>
        have h2' : ¬ ((S pg).list.length : Int) < 2 := by omega
        have HPU := Lib.hid (HPT.out (by omega))
        clear HN2 HSp HPT h2
        go_wp2_with fail
        rw [hR] at S5
        refine (HPU.out _ _ (S5.out.re (show _ = aWd g gs S V vl l vp (ps.map du) n * ((Asn.blk gd 52 (nodCells (S pg) (.slice A (S pg).list.length c)) * Asn.vec 44 3 (.slice A (S pg).list.length c) (S pg).list.length (cells3 (S pg).list)) * (Asn.vec 3 1 (.slice (some ⟨gp, 0, none⟩) (top + 1) cap) (top + 1) (ints pgl) * (Asn.blk ge 33 #[.int .i64 5, .int .i64 K, .int .i64 N] * C))) by unfold aWd sPtr; ac_rfl))).mono ?_
        rintro e w4 ⟨rfl, B, hB, hX⟩
        have S6 := Lib.hid (hX.re (show _ = ((Asn.blk gd 52 (nodCells (S pg) (.slice A (S pg).list.length c)) * Asn.vec 44 3 (.slice A (S pg).list.length c) (S pg).list.length (cells3 (S pg).list)) * (Asn.vec 3 1 (.slice (some ⟨gp, 0, none⟩) (top + 1) cap) (top + 1) (ints pgl) * Asn.blk ge 33 #[.int .i64 5, .int .i64 K, .int .i64 N])) * (B * C) by ac_rfl)).right
        clear hX HPU S5 h2' d6
        go_wp2_with fail
        go_returns
        exact ⟨rfl, B, hB, S6.out⟩
end Go.Proofs.Yteiiogaopgfpfaa.Bk
