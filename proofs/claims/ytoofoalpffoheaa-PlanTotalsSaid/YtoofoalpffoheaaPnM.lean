/- The document's sum of totals. -/
import Derived.Test.YtoofoalpffoheaaPnL
import Derived.Test.YtoofoalpffoheaaPnD
import Derived.Test.YtoofoalpffoheaaStep
import Derived.Test.YtoofoalpffoheaaRow
namespace Go.Proofs.Ytoofoalpffoheaa.Pn
open Go.ChangeShapes Go.WideShapes Go.ChangeAt Go.RowKit Go.PlainAid Aid Wd
set_option linter.unusedVariables false
set_option linter.unusedSimpArgs false
theorem infoW : (Try.prog.info? 24).map (fun i => (i.zero, i.size, i.bytes)) = some (some (.agg #[.int .i64 0, .int .u64 0]), 2, 16) := by kernel_rfl
theorem WReads.of_vec {W : World} {A : Option Addr} {c : Nat} {l : List W1} {T : TypeId} (h : Vec W T 2 (.slice A l.length c) l.length (cellsW l)) : WReads W A l := by
  rcases h.forms with ⟨he, hz⟩ | ⟨g, cap, he, hlt, -⟩
  · obtain rfl : l = [] := List.eq_nil_of_length_eq_zero hz
    exact fun h => absurd rfl h
  · cases he
    refine fun _ => ⟨g, 0, rfl, hlt, fun i x hx => ?_⟩
    obtain ⟨c0, c1⟩ := cellsW_at l i x hx
    rw [Nat.zero_add]
    exact ⟨h.cell c0, h.cell c1⟩
set_option maxRecDepth 100000 in
set_option maxHeartbeats 4000000 in
theorem refAddT_any (va vb : Value) (ca cb : W1) (la lb : List W1) (w : World) (hla : la.length ≤ 1000) (hlb : lb.length ≤ 1000) (ha : IsTot w va ca la) (hb : IsTot w vb cb lb) :
    Calls Try.prog 10 #[va, vb] w fun e w' => ∃ v, e = .returned v ∧ Below w.heap.size w w' ∧ IsTot w' v (ca + cb) (sumL la lb) := by
  have hs : ∀ (W : World) (o : Obj), (W.alloc o).heap.size = W.heap.size + 1 := fun W o => by simp
  obtain ⟨A, p, rfl, hra⟩ := ha
  obtain ⟨B, q, rfl, hrb⟩ := hb
  have HA := Lib.hid hra
  have HB := Lib.hid hrb
  have HAdd := Lib.hid add16_any
  clear hra hrb
  unfold totV
  go_enter Try.func10, Try.ntmps10
  go_upto_region 1 with fail
  have S0 := (((Own.none w).alloc #[.int .i64 (hi ca), .int .u64 (lo ca), .slice A la.length p] 27).alloc #[.int .i64 (hi cb), .int .u64 (lo cb), .slice B lb.length q] 27).alloc #[.int .i64 0, .int .u64 0, .slice none 0 0] 27
  simp only [hs] at S0
  obtain ⟨ga, hg⟩ : ∃ n, n = w.heap.size := ⟨_, rfl⟩
  rw [← hg] at S0 ⊢
  clear hg
  obtain ⟨gr, hg⟩ : ∃ g, g = ga + 1 + 1 := ⟨_, rfl⟩
  rw [← hg] at S0 ⊢
  clear hg
  obtain ⟨gb, hg⟩ : ∃ g, g = ga + 1 := ⟨_, rfl⟩
  rw [← hg] at S0 ⊢
  clear hg hs
  generalize World.alloc (World.alloc (World.alloc w _) _) _ = w1 at *
  have S1 := Lib.hid (S0.re (show _ = Asn.blk ga 27 #[.int .i64 (hi ca), .int .u64 (lo ca), .slice A la.length p] * (Asn.blk gb 27 #[.int .i64 (hi cb), .int .u64 (lo cb), .slice B lb.length q] * (Asn.blk gr 27 #[.int .i64 0, .int .u64 0, .slice none 0 0] * Asn.emp)) by ac_rfl))
  clear S0
  obtain ⟨a0, a1, a2⟩ := tot_cells (S1.out.has (Has.l (has_blk ga _ _)))
  obtain ⟨b0, b1, b2⟩ := tot_cells (S1.out.has (Has.r (Has.l (has_blk gb _ _))))
  go_wp2_with fail
  refine (HAdd.out ca cb _).mono ?_
  rintro er w2 ⟨rfl, hX⟩
  have S2 := Lib.hid (S1.out.below hX)
  clear hX S1 a0 a1 a2 b0 b1 b2
  go_upto_region 2 with fail
  have SX := Lib.hid (S2.out.alloc #[.int .i64 (hi (ca + cb)), .int .u64 (lo (ca + cb)), .slice none 0 0] 27)
  obtain ⟨gx, hgz⟩ : ∃ g, g = w2.heap.size := ⟨_, rfl⟩
  rw [← hgz] at SX ⊢
  clear hgz S2
  generalize World.alloc w2 _ = w3 at *
  go_wp2_with fail
  go_loopw [6] (fun i wr => ∃ (k : Nat) (E : Option Addr) (ce : Nat), k ≤ la.length ∧ k ≤ lb.length ∧ i = .int .i64 k ∧ Hid (Own w No wr (Asn.blk gx 27 #[.int .i64 (hi (ca + cb)), .int .u64 (lo (ca + cb)), .slice E k ce] * (Asn.vec 24 2 (.slice E k ce) k (cellsW ((sumL la lb).take k)) * (Asn.blk ga 27 #[.int .i64 (hi ca), .int .u64 (lo ca), .slice A la.length p] * (Asn.blk gb 27 #[.int .i64 (hi cb), .int .u64 (lo cb), .slice B lb.length q] * (Asn.blk gr 27 #[.int .i64 0, .int .u64 0, .slice none 0 0] * Asn.emp))))))) (fun i _ => la.length - (intOf i).toNat)
  case atStart => exact ⟨0, none, 0, by omega, by omega, rfl, Lib.hid ((SX.out.nilVec 24 2).re (show _ = Asn.blk gx 27 #[.int .i64 (hi (ca + cb)), .int .u64 (lo (ca + cb)), .slice none 0 0] * (Asn.vec 24 2 (.slice none 0 0) 0 ([]) * (Asn.blk ga 27 #[.int .i64 (hi ca), .int .u64 (lo ca), .slice A la.length p] * (Asn.blk gb 27 #[.int .i64 (hi cb), .int .u64 (lo cb), .slice B lb.length q] * (Asn.blk gr 27 #[.int .i64 0, .int .u64 0, .slice none 0 0] * Asn.emp)))) by ac_rfl))⟩
  case round =>
    clear SX
    obtain ⟨k, E, ce, hka, hkb, rfl, S4⟩ := hrel
    obtain ⟨a0, a1, a2⟩ := tot_cells (S4.out.has (Has.r (Has.r (Has.l (has_blk _ _ _)))))
    obtain ⟨b0, b1, b2⟩ := tot_cells (S4.out.has (Has.r (Has.r (Has.r (Has.l (has_blk _ _ _))))))
    by_cases hlt : k < la.length
    · have hltI : (k : Int) < (la.length : Int) := by omega
      by_cases hlt2 : k < lb.length
      · as_aux_lemma =>
          have hlt2I : (k : Int) < (lb.length : Int) := by omega
          have hk0 : (0 : Int) ≤ (k : Int) := by omega
          obtain ⟨x, hx⟩ : ∃ x, la[k]? = some x := ⟨_, List.getElem?_eq_getElem hlt⟩
          obtain ⟨y, hy⟩ : ∃ y, lb[k]? = some y := ⟨_, List.getElem?_eq_getElem hlt2⟩
          have hxy : (sumL la lb)[k]? = some (x + y) := by unfold sumL; rw [List.getElem?_zipWith, hx, hy]
          obtain ⟨ba, oa, rfl, -, -⟩ := HA.out.at hx
          obtain ⟨bb, ob, rfl, -, -⟩ := HB.out.at hy
          have WAX := Lib.hid (fun (W : World) (hW : Below w.heap.size w W) => (show WAt W ba (oa + k * 2) x from by
            obtain ⟨b, o, e, -, h⟩ := (HA.out.keep hW).at hx
            injection e with e
            injection e with e1 e2
            subst e1 e2
            exact h))
          have WBX := Lib.hid (fun (W : World) (hW : Below w.heap.size w W) => (show WAt W bb (ob + k * 2) y from by
            obtain ⟨b, o, e, -, h⟩ := (HB.out.keep hW).at hy
            injection e with e
            injection e with e1 e2
            subst e1 e2
            exact h))
          have HE := Lib.hid (show cellsW ((sumL la lb).take (k + 1)) = cellsW ((sumL la lb).take k) ++ [.int .i64 (hi (x + y)), .int .u64 (lo (x + y))] from by
            rw [List.take_add_one, hxy]
            exact cellsW_app _ _)
          generalize hcv : cellsW ((sumL la lb).take k) = cv at *
          clear hcv hx hy hxy
          go_upto_region 5 with fail
          have S5 := Lib.hid S4.out.drew
          clear S4 a0 a1 a2 b0 b1 b2
          refine wp_region_held_drew (S := fun W : World => W.cell? ⟨ga, 2, none⟩ = some (.slice (some ⟨ba, oa, none⟩) la.length p) ∧ W.cell? ⟨gb, 2, none⟩ = some (.slice (some ⟨bb, ob, none⟩) lb.length q) ∧ WAt W ba (oa + k * 2) x ∧ WAt W bb (ob + k * 2) y) (by kernel_rfl) ⟨(tot_cells (S5.out.has (Has.r (Has.r (Has.l (has_blk _ _ _)))))).2.2, (tot_cells (S5.out.has (Has.r (Has.r (Has.r (Has.l (has_blk _ _ _))))))).2.2, WAX.out _ S5.out.bel, WBX.out _ S5.out.bel⟩ (fun hHeld => ?_)
          generalize wr.drew = w4 at *
          refine' wpAnyH_take (i := 0) (oi := ?ot1z0) (v := ?vt1z0) ?ht1z0 ?st1z0 ?ft1z0 ?zt1z0 ?qt1z0 ?yt1z0 ?at1z0 ?rt1z0
          case ht1z0 => (simp only [List.getElem?_toArray, List.getElem?_cons_succ, List.getElem?_cons_zero]; rfl)
          case st1z0 => kernel_rfl
          case ft1z0 => kernel_rfl
          case zt1z0 => kernel_rfl
          case qt1z0 => exact fun _ _ _ h => h
          case yt1z0 => (refine Or.inl ⟨rfl, ?_⟩; intro w hSw; obtain ⟨s1, s2, ⟨s3, s4⟩, s5, s6⟩ := hSw; go_simp; try with_reducible rfl)
          case at1z0 => assumption
          case rt1z0 =>
          simp only [Act.put, List.setIfInBounds_toArray, List.set_cons_zero, List.set_cons_succ]
          refine' wpAnyH_take (i := 2) (oi := ?ot2z2) (v := ?vt2z2) ?ht2z2 ?st2z2 ?ft2z2 ?zt2z2 ?qt2z2 ?yt2z2 ?at2z2 ?rt2z2
          case ht2z2 => (simp only [List.getElem?_toArray, List.getElem?_cons_succ, List.getElem?_cons_zero]; rfl)
          case st2z2 => kernel_rfl
          case ft2z2 => kernel_rfl
          case zt2z2 => kernel_rfl
          case qt2z2 => exact fun _ _ _ h => h
          case yt2z2 => (refine Or.inl ⟨rfl, ?_⟩; intro w hSw; obtain ⟨s1, s2, ⟨s3, s4⟩, s5, s6⟩ := hSw; go_simp; try with_reducible rfl)
          case at2z2 => assumption
          case rt2z2 =>
          simp only [Act.put, List.setIfInBounds_toArray, List.set_cons_zero, List.set_cons_succ]
          refine' wpAnyH_take (i := 3) (oi := ?ot3z3) (v := ?vt3z3) ?ht3z3 ?st3z3 ?ft3z3 ?zt3z3 ?qt3z3 ?yt3z3 ?at3z3 ?rt3z3
          case ht3z3 => (simp only [List.getElem?_toArray, List.getElem?_cons_succ, List.getElem?_cons_zero]; rfl)
          case st3z3 => kernel_rfl
          case ft3z3 => kernel_rfl
          case zt3z3 => kernel_rfl
          case qt3z3 => exact fun _ _ _ h => h
          case yt3z3 => (refine Or.inl ⟨rfl, ?_⟩; intro w hSw; obtain ⟨s1, s2, ⟨s3, s4⟩, s5, s6⟩ := hSw; go_simp; try with_reducible rfl)
          case at3z3 => assumption
          case rt3z3 =>
          simp only [Act.put, List.setIfInBounds_toArray, List.set_cons_zero, List.set_cons_succ]
          refine' wpAnyH_take (i := 4) (oi := ?ot4z4) (v := ?vt4z4) ?ht4z4 ?st4z4 ?ft4z4 ?zt4z4 ?qt4z4 ?yt4z4 ?at4z4 ?rt4z4
          case ht4z4 => (simp only [List.getElem?_toArray, List.getElem?_cons_succ, List.getElem?_cons_zero]; rfl)
          case st4z4 => kernel_rfl
          case ft4z4 => kernel_rfl
          case zt4z4 => kernel_rfl
          case qt4z4 => exact fun _ _ _ h => h
          case yt4z4 => (refine Or.inl ⟨rfl, ?_⟩; intro w hSw; obtain ⟨s1, s2, ⟨s3, s4⟩, s5, s6⟩ := hSw; go_simp; try with_reducible rfl)
          case at4z4 => assumption
          case rt4z4 =>
          simp only [Act.put, List.setIfInBounds_toArray, List.set_cons_zero, List.set_cons_succ]
          refine' wpAnyH_take (i := 5) (oi := ?ot5z5) (v := ?vt5z5) ?ht5z5 ?st5z5 ?ft5z5 ?zt5z5 ?qt5z5 ?yt5z5 ?at5z5 ?rt5z5
          case ht5z5 => (simp only [List.getElem?_toArray, List.getElem?_cons_succ, List.getElem?_cons_zero]; rfl)
          case st5z5 => kernel_rfl
          case ft5z5 => kernel_rfl
          case zt5z5 => kernel_rfl
          case qt5z5 => exact fun _ _ _ h => h
          case yt5z5 => (refine Or.inl ⟨rfl, ?_⟩; intro w hSw; obtain ⟨s1, s2, ⟨s3, s4⟩, s5, s6⟩ := hSw; go_simp; try with_reducible rfl)
          case at5z5 => assumption
          case rt5z5 =>
          simp only [Act.put, List.setIfInBounds_toArray, List.set_cons_zero, List.set_cons_succ]
          refine' wpAnyH_take (i := 6) (oi := ?ot6z6) (v := ?vt6z6) ?ht6z6 ?st6z6 ?ft6z6 ?zt6z6 ?qt6z6 ?yt6z6 ?at6z6 ?rt6z6
          case ht6z6 => (simp only [List.getElem?_toArray, List.getElem?_cons_succ, List.getElem?_cons_zero]; rfl)
          case st6z6 => kernel_rfl
          case ft6z6 => kernel_rfl
          case zt6z6 => kernel_rfl
          case qt6z6 => exact fun _ _ _ h => h
          case yt6z6 => (refine Or.inl ⟨rfl, ?_⟩; intro w hSw; obtain ⟨s1, s2, ⟨s3, s4⟩, s5, s6⟩ := hSw; go_simp; try with_reducible rfl)
          case at6z6 => assumption
          case rt6z6 =>
          simp only [Act.put, List.setIfInBounds_toArray, List.set_cons_zero, List.set_cons_succ]
          refine' wpAnyH_take (i := 7) (oi := ?ot7z7) (v := ?vt7z7) ?ht7z7 ?st7z7 ?ft7z7 ?zt7z7 ?qt7z7 ?yt7z7 ?at7z7 ?rt7z7
          case ht7z7 => (simp only [List.getElem?_toArray, List.getElem?_cons_succ, List.getElem?_cons_zero]; rfl)
          case st7z7 => kernel_rfl
          case ft7z7 => kernel_rfl
          case zt7z7 => kernel_rfl
          case qt7z7 => exact fun _ _ _ h => h
          case yt7z7 => (refine Or.inl ⟨rfl, ?_⟩; intro w hSw; obtain ⟨s1, s2, ⟨s3, s4⟩, s5, s6⟩ := hSw; go_simp; try with_reducible rfl)
          case at7z7 => assumption
          case rt7z7 =>
          simp only [Act.put, List.setIfInBounds_toArray, List.set_cons_zero, List.set_cons_succ]
          refine' wpAnyH_take (i := 8) (oi := ?ot8z8) (v := ?vt8z8) ?ht8z8 ?st8z8 ?ft8z8 ?zt8z8 ?qt8z8 ?yt8z8 ?at8z8 ?rt8z8
          case ht8z8 => (simp only [List.getElem?_toArray, List.getElem?_cons_succ, List.getElem?_cons_zero]; rfl)
          case st8z8 => kernel_rfl
          case ft8z8 => kernel_rfl
          case zt8z8 => kernel_rfl
          case qt8z8 => exact fun _ _ _ h => h
          case yt8z8 => (refine Or.inl ⟨rfl, ?_⟩; intro w hSw; obtain ⟨s1, s2, ⟨s3, s4⟩, s5, s6⟩ := hSw; go_simp; try with_reducible rfl)
          case at8z8 => assumption
          case rt8z8 =>
          simp only [Act.put, List.setIfInBounds_toArray, List.set_cons_zero, List.set_cons_succ]
          refine' wpAnyH_take (i := 9) (oi := ?ot9z9) (v := ?vt9z9) ?ht9z9 ?st9z9 ?ft9z9 ?zt9z9 ?qt9z9 ?yt9z9 ?at9z9 ?rt9z9
          case ht9z9 => (simp only [List.getElem?_toArray, List.getElem?_cons_succ, List.getElem?_cons_zero]; rfl)
          case st9z9 => kernel_rfl
          case ft9z9 => kernel_rfl
          case zt9z9 => kernel_rfl
          case qt9z9 => exact fun _ _ _ h => h
          case yt9z9 => (refine Or.inl ⟨rfl, ?_⟩; intro w hSw; obtain ⟨s1, s2, ⟨s3, s4⟩, s5, s6⟩ := hSw; go_simp; try with_reducible rfl)
          case at9z9 => assumption
          case rt9z9 =>
          simp only [Act.put, List.setIfInBounds_toArray, List.set_cons_zero, List.set_cons_succ]
          refine' wpAnyH_take (i := 10) (oi := ?ot10z10) (v := ?vt10z10) ?ht10z10 ?st10z10 ?ft10z10 ?zt10z10 ?qt10z10 ?yt10z10 ?at10z10 ?rt10z10
          case ht10z10 => (simp only [List.getElem?_toArray, List.getElem?_cons_succ, List.getElem?_cons_zero]; rfl)
          case st10z10 => kernel_rfl
          case ft10z10 => kernel_rfl
          case zt10z10 => kernel_rfl
          case qt10z10 => exact fun _ _ _ h => h
          case yt10z10 => (refine Or.inl ⟨rfl, ?_⟩; intro w hSw; obtain ⟨s1, s2, ⟨s3, s4⟩, s5, s6⟩ := hSw; go_simp; try with_reducible rfl)
          case at10z10 => assumption
          case rt10z10 =>
          simp only [Act.put, List.setIfInBounds_toArray, List.set_cons_zero, List.set_cons_succ]
          refine' wpAnyH_take (i := 11) (oi := ?ot11z11) (v := ?vt11z11) ?ht11z11 ?st11z11 ?ft11z11 ?zt11z11 ?qt11z11 ?yt11z11 ?at11z11 ?rt11z11
          case ht11z11 => (simp only [List.getElem?_toArray, List.getElem?_cons_succ, List.getElem?_cons_zero]; rfl)
          case st11z11 => kernel_rfl
          case ft11z11 => kernel_rfl
          case zt11z11 => kernel_rfl
          case qt11z11 => exact fun _ _ _ h => h
          case yt11z11 => (refine Or.inl ⟨rfl, ?_⟩; intro w hSw; obtain ⟨s1, s2, ⟨s3, s4⟩, s5, s6⟩ := hSw; go_simp; try with_reducible rfl)
          case at11z11 => assumption
          case rt11z11 =>
          simp only [Act.put, List.setIfInBounds_toArray, List.set_cons_zero, List.set_cons_succ]
          refine wpAnyH_ready (rs := [1, 12]) (by kernel_rfl) (by simp) ?_
          refine' AllReadyH.cons (o := ?ob12z1) ?hb12z1 ?kb12z1 ?mb12z1
          case hb12z1 => (simp only [List.getElem?_toArray, List.getElem?_cons_succ, List.getElem?_cons_zero]; rfl)
          case kb12z1 =>
            intro K0 hK
            have cc := (tot_cells (S5.out.has (Has.l (has_blk _ _ _)))).2.2
            go_simp
            clear cc
            refine hK.out _ _ ?_ (fun hHeld => ?_)
            · exact ⟨(tot_cells (S5.out.has (Has.r (Has.r (Has.l (has_blk _ _ _)))))).2.2, (tot_cells (S5.out.has (Has.r (Has.r (Has.r (Has.l (has_blk _ _ _))))))).2.2, WAX.out _ S5.out.bel, WBX.out _ S5.out.bel⟩
            clear hK K0
            (try simp only [Act.put, List.setIfInBounds_toArray, List.set_cons_zero, List.set_cons_succ])
            (try clear hH2)
            refine wpAnyH_ready (rs := [12]) (by kernel_rfl) (by simp) ?_
            refine' AllReadyH.cons (o := ?ob14z12) ?hb14z12 ?kb14z12 AllReadyH.nil
            case hb14z12 => (simp only [List.getElem?_toArray, List.getElem?_cons_succ, List.getElem?_cons_zero]; rfl)
            case kb14z12 =>
              intro K0 hK
              go_simp
              refine (HAdd.out x y _).mono ?_
              rintro er wk15 ⟨rfl, hX⟩
              have SK15 := Lib.hid (S5.out.below hX)
              clear hX S5
              refine hK.out _ _ ?_ (fun hHeld => ?_)
              · exact ⟨(tot_cells (SK15.out.has (Has.r (Has.r (Has.l (has_blk _ _ _)))))).2.2, (tot_cells (SK15.out.has (Has.r (Has.r (Has.r (Has.l (has_blk _ _ _))))))).2.2, WAX.out _ SK15.out.bel, WBX.out _ SK15.out.bel⟩
              clear hK K0
              (try simp only [Act.put, List.setIfInBounds_toArray, List.set_cons_zero, List.set_cons_succ])
              (try clear hH2)
              refine wpAnyH_ready (rs := [13]) (by kernel_rfl) (by simp) ?_
              refine' AllReadyH.cons (o := ?ob16z13) ?hb16z13 ?kb16z13 AllReadyH.nil
              case hb16z13 => (simp only [List.getElem?_toArray, List.getElem?_cons_succ, List.getElem?_cons_zero]; rfl)
              case kb16z13 =>
                intro K0 hK
                go_simp
                have SA17a := Lib.hid (SK15.out.alloc #[.int .i64 (hi (x + y)), .int .u64 (lo (x + y))] 24)
                obtain ⟨gq, hgz⟩ : ∃ g, g = wk15.heap.size := ⟨_, rfl⟩
                rw [← hgz] at SA17a ⊢
                clear hgz SK15
                generalize World.alloc wk15 _ = wa17 at *
                have SA17 := Lib.hid (SA17a.out.re (show _ = Asn.blk gx 27 #[.int .i64 (hi (ca + cb)), .int .u64 (lo (ca + cb)), .slice E k ce] * (Asn.vec 24 2 (.slice E k ce) k (cv) * (Asn.blk ga 27 #[.int .i64 (hi ca), .int .u64 (lo ca), .slice (some ⟨ba, oa, none⟩) la.length p] * (Asn.blk gb 27 #[.int .i64 (hi cb), .int .u64 (lo cb), .slice (some ⟨bb, ob, none⟩) lb.length q] * (Asn.blk gq 24 #[.int .i64 (hi (x + y)), .int .u64 (lo (x + y))] * (Asn.blk gr 27 #[.int .i64 0, .int .u64 0, .slice none 0 0] * Asn.emp))))) by ac_rfl))
                clear SA17a
                refine hK.out _ _ ?_ (fun hHeld => ?_)
                · exact ⟨(tot_cells (SA17.out.has (Has.r (Has.r (Has.l (has_blk _ _ _)))))).2.2, (tot_cells (SA17.out.has (Has.r (Has.r (Has.r (Has.l (has_blk _ _ _))))))).2.2, WAX.out _ SA17.out.bel, WBX.out _ SA17.out.bel⟩
                clear hK K0
                (try simp only [Act.put, List.setIfInBounds_toArray, List.set_cons_zero, List.set_cons_succ])
                (try clear hH2)
                refine wpAnyH_ready (rs := [14]) (by kernel_rfl) (by simp) ?_
                refine' AllReadyH.cons (o := ?ob18z14) ?hb18z14 ?kb18z14 AllReadyH.nil
                case hb18z14 => (simp only [List.getElem?_toArray, List.getElem?_cons_succ, List.getElem?_cons_zero]; rfl)
                case kb18z14 =>
                  intro K0 hK
                  have hbk := SA17.out.has (Has.r (Has.r (Has.r (Has.r (Has.l (has_blk _ _ _))))))
                  have CX : Hid (Src Try.prog 2 25 (.slice (some ⟨gq, 0, none⟩) 1 1) 1 [.int .i64 (hi (x + y)), .int .u64 (lo (x + y))] wa17) := Lib.hid (Src.ofSlice _ Try.underlying25 ⟨gq, 0, none⟩ 1 1 [.int .i64 (hi (x + y)), .int .u64 (lo (x + y))] rfl (fun j u hj => by
                    rw [Addr.add_lit, Nat.zero_add, hbk.cell]
                    simpa using hj) (fun u hu => by
                    simp only [List.mem_cons, List.not_mem_nil, or_false] at hu
                    rcases hu with rfl | rfl <;> rfl))
                  clear hbk
                  have SQ := Lib.hid (SA17.out.re (show _ = Asn.vec 24 2 (.slice E k ce) k (cv) * (Asn.blk gx 27 #[.int .i64 (hi (ca + cb)), .int .u64 (lo (ca + cb)), .slice E k ce] * (Asn.blk ga 27 #[.int .i64 (hi ca), .int .u64 (lo ca), .slice (some ⟨ba, oa, none⟩) la.length p] * (Asn.blk gb 27 #[.int .i64 (hi cb), .int .u64 (lo cb), .slice (some ⟨bb, ob, none⟩) lb.length q] * (Asn.blk gq 24 #[.int .i64 (hi (x + y)), .int .u64 (lo (x + y))] * (Asn.blk gr 27 #[.int .i64 0, .int .u64 0, .slice none 0 0] * Asn.emp))))) by ac_rfl))
                  clear SA17
                  with_reducible refine step_append_vec rfl (.tmp 28) (.tmp 40) 25 25 rfl 24 _ 2 16 Try.underlying25 infoW rfl (by decide) (.slice E k ce) k (cv) rfl SQ.out.vec (.slice (some ⟨gq, 0, none⟩) 1 1) rfl 1 [.int .i64 (hi (x + y)), .int .u64 (lo (x + y))] CX.out (by unfold maxLen; omega) (by omega) ?_
                  intro v2 wb19 hv hc hf
                  obtain ⟨A4, c4, hv4⟩ := hv.slice
                  subst hv4
                  have S7 := Lib.hid (SQ.out.app hv hc hf)
                  clear SQ CX hv hc hf
                  have SB19 := Lib.hid (S7.out.re (show _ = Asn.blk gx 27 #[.int .i64 (hi (ca + cb)), .int .u64 (lo (ca + cb)), .slice E k ce] * (Asn.vec 24 2 (.slice A4 (k + 1) c4) (k + 1) (cv ++ [.int .i64 (hi (x + y)), .int .u64 (lo (x + y))]) * (Asn.blk ga 27 #[.int .i64 (hi ca), .int .u64 (lo ca), .slice (some ⟨ba, oa, none⟩) la.length p] * (Asn.blk gb 27 #[.int .i64 (hi cb), .int .u64 (lo cb), .slice (some ⟨bb, ob, none⟩) lb.length q] * (Asn.blk gq 24 #[.int .i64 (hi (x + y)), .int .u64 (lo (x + y))] * (Asn.blk gr 27 #[.int .i64 0, .int .u64 0, .slice none 0 0] * Asn.emp))))) by ac_rfl))
                  clear S7
                  refine hK.out _ _ ?_ (fun hHeld => ?_)
                  · exact ⟨(tot_cells (SB19.out.has (Has.r (Has.r (Has.l (has_blk _ _ _)))))).2.2, (tot_cells (SB19.out.has (Has.r (Has.r (Has.r (Has.l (has_blk _ _ _))))))).2.2, WAX.out _ SB19.out.bel, WBX.out _ SB19.out.bel⟩
                  clear hK K0
                  (try simp only [Act.put, List.setIfInBounds_toArray, List.set_cons_zero, List.set_cons_succ])
                  (try clear hH2)
                  refine' wpAnyH_take (i := 15) (oi := ?ot20z15) (v := ?vt20z15) ?ht20z15 ?st20z15 ?ft20z15 ?zt20z15 ?qt20z15 ?yt20z15 ?at20z15 ?rt20z15
                  case ht20z15 => (simp only [List.getElem?_toArray, List.getElem?_cons_succ, List.getElem?_cons_zero]; rfl)
                  case st20z15 => kernel_rfl
                  case ft20z15 => kernel_rfl
                  case zt20z15 => kernel_rfl
                  case qt20z15 => exact fun _ _ _ h => h
                  case yt20z15 => (refine Or.inl ⟨rfl, ?_⟩; intro w hSw; obtain ⟨s1, s2, ⟨s3, s4⟩, s5, s6⟩ := hSw; go_simp; try with_reducible rfl)
                  case at20z15 => assumption
                  case rt20z15 =>
                  simp only [Act.put, List.setIfInBounds_toArray, List.set_cons_zero, List.set_cons_succ]
                  refine wpAnyH_ready (rs := [16]) (by kernel_rfl) (by simp) ?_
                  refine' AllReadyH.cons (o := ?ob21z16) ?hb21z16 ?kb21z16 AllReadyH.nil
                  case hb21z16 => (simp only [List.getElem?_toArray, List.getElem?_cons_succ, List.getElem?_cons_zero]; rfl)
                  case kb21z16 =>
                    intro K0 hK
                    have cc := (tot_cells (SB19.out.has (Has.l (has_blk _ _ _)))).2.2
                    have f2 := (SB19.out.has (Has.l (has_blk _ _ _))).free 2
                    go_simp
                    clear cc f2
                    have SC22 := Lib.hid (SB19.out.set (Sets.l (sets_blk gx _ _ 2 (.slice A4 (k + 1) c4))))
                    simp only [List.setIfInBounds_toArray, List.set_cons_zero, List.set_cons_succ] at SC22
                    clear SB19
                    generalize World.setCell wb19 _ _ = wc22 at *
                    refine hK.out _ _ ?_ (fun hHeld => ?_)
                    · exact ⟨(tot_cells (SC22.out.has (Has.r (Has.r (Has.l (has_blk _ _ _)))))).2.2, (tot_cells (SC22.out.has (Has.r (Has.r (Has.r (Has.l (has_blk _ _ _))))))).2.2, WAX.out _ SC22.out.bel, WBX.out _ SC22.out.bel⟩
                    clear hK K0
                    (try simp only [Act.put, List.setIfInBounds_toArray, List.set_cons_zero, List.set_cons_succ])
                    (try clear hH2)
                    refine wpAnyH_done (by kernel_rfl) ?_ _
                    go_wp2_with fail
                    go_roundw
                    case rel => exact ⟨k + 1, A4, c4, by omega, by omega, by go_num, Lib.hid (by
                      rw [HE.out]
                      exact (SC22.out.re (show _ = Asn.blk gq 24 #[.int .i64 (hi (x + y)), .int .u64 (lo (x + y))] * (Asn.blk gx 27 #[.int .i64 (hi (ca + cb)), .int .u64 (lo (ca + cb)), .slice A4 (k + 1) c4] * (Asn.vec 24 2 (.slice A4 (k + 1) c4) (k + 1) (cv ++ [.int .i64 (hi (x + y)), .int .u64 (lo (x + y))]) * (Asn.blk ga 27 #[.int .i64 (hi ca), .int .u64 (lo ca), .slice (some ⟨ba, oa, none⟩) la.length p] * (Asn.blk gb 27 #[.int .i64 (hi cb), .int .u64 (lo cb), .slice (some ⟨bb, ob, none⟩) lb.length q] * (Asn.blk gr 27 #[.int .i64 0, .int .u64 0, .slice none 0 0] * Asn.emp))))) by ac_rfl)).right)⟩
                    case measure => simp only [intOf]; omega
          case mb12z1 =>
          refine' AllReadyH.cons (o := ?ob23z12) ?hb23z12 ?kb23z12 AllReadyH.nil
          case hb23z12 => (simp only [List.getElem?_toArray, List.getElem?_cons_succ, List.getElem?_cons_zero]; rfl)
          case kb23z12 =>
            intro K0 hK
            go_simp
            refine (HAdd.out x y _).mono ?_
            rintro er wk24 ⟨rfl, hX⟩
            have SK24 := Lib.hid (S5.out.below hX)
            clear hX S5
            refine hK.out _ _ ?_ (fun hHeld => ?_)
            · exact ⟨(tot_cells (SK24.out.has (Has.r (Has.r (Has.l (has_blk _ _ _)))))).2.2, (tot_cells (SK24.out.has (Has.r (Has.r (Has.r (Has.l (has_blk _ _ _))))))).2.2, WAX.out _ SK24.out.bel, WBX.out _ SK24.out.bel⟩
            clear hK K0
            (try simp only [Act.put, List.setIfInBounds_toArray, List.set_cons_zero, List.set_cons_succ])
            (try clear hH2)
            refine wpAnyH_ready (rs := [1, 13]) (by kernel_rfl) (by simp) ?_
            refine' AllReadyH.cons (o := ?ob25z1) ?hb25z1 ?kb25z1 ?mb25z1
            case hb25z1 => (simp only [List.getElem?_toArray, List.getElem?_cons_succ, List.getElem?_cons_zero]; rfl)
            case kb25z1 =>
              intro K0 hK
              have cc := (tot_cells (SK24.out.has (Has.l (has_blk _ _ _)))).2.2
              go_simp
              clear cc
              refine hK.out _ _ ?_ (fun hHeld => ?_)
              · exact ⟨(tot_cells (SK24.out.has (Has.r (Has.r (Has.l (has_blk _ _ _)))))).2.2, (tot_cells (SK24.out.has (Has.r (Has.r (Has.r (Has.l (has_blk _ _ _))))))).2.2, WAX.out _ SK24.out.bel, WBX.out _ SK24.out.bel⟩
              clear hK K0
              (try simp only [Act.put, List.setIfInBounds_toArray, List.set_cons_zero, List.set_cons_succ])
              (try clear hH2)
              refine wpAnyH_ready (rs := [13]) (by kernel_rfl) (by simp) ?_
              refine' AllReadyH.cons (o := ?ob27z13) ?hb27z13 ?kb27z13 AllReadyH.nil
              case hb27z13 => (simp only [List.getElem?_toArray, List.getElem?_cons_succ, List.getElem?_cons_zero]; rfl)
              case kb27z13 =>
                intro K0 hK
                go_simp
                have SA28a := Lib.hid (SK24.out.alloc #[.int .i64 (hi (x + y)), .int .u64 (lo (x + y))] 24)
                obtain ⟨gq, hgz⟩ : ∃ g, g = wk24.heap.size := ⟨_, rfl⟩
                rw [← hgz] at SA28a ⊢
                clear hgz SK24
                generalize World.alloc wk24 _ = wa28 at *
                have SA28 := Lib.hid (SA28a.out.re (show _ = Asn.blk gx 27 #[.int .i64 (hi (ca + cb)), .int .u64 (lo (ca + cb)), .slice E k ce] * (Asn.vec 24 2 (.slice E k ce) k (cv) * (Asn.blk ga 27 #[.int .i64 (hi ca), .int .u64 (lo ca), .slice (some ⟨ba, oa, none⟩) la.length p] * (Asn.blk gb 27 #[.int .i64 (hi cb), .int .u64 (lo cb), .slice (some ⟨bb, ob, none⟩) lb.length q] * (Asn.blk gq 24 #[.int .i64 (hi (x + y)), .int .u64 (lo (x + y))] * (Asn.blk gr 27 #[.int .i64 0, .int .u64 0, .slice none 0 0] * Asn.emp))))) by ac_rfl))
                clear SA28a
                refine hK.out _ _ ?_ (fun hHeld => ?_)
                · exact ⟨(tot_cells (SA28.out.has (Has.r (Has.r (Has.l (has_blk _ _ _)))))).2.2, (tot_cells (SA28.out.has (Has.r (Has.r (Has.r (Has.l (has_blk _ _ _))))))).2.2, WAX.out _ SA28.out.bel, WBX.out _ SA28.out.bel⟩
                clear hK K0
                (try simp only [Act.put, List.setIfInBounds_toArray, List.set_cons_zero, List.set_cons_succ])
                (try clear hH2)
                refine wpAnyH_ready (rs := [14]) (by kernel_rfl) (by simp) ?_
                refine' AllReadyH.cons (o := ?ob29z14) ?hb29z14 ?kb29z14 AllReadyH.nil
                case hb29z14 => (simp only [List.getElem?_toArray, List.getElem?_cons_succ, List.getElem?_cons_zero]; rfl)
                case kb29z14 =>
                  intro K0 hK
                  have hbk := SA28.out.has (Has.r (Has.r (Has.r (Has.r (Has.l (has_blk _ _ _))))))
                  have CX : Hid (Src Try.prog 2 25 (.slice (some ⟨gq, 0, none⟩) 1 1) 1 [.int .i64 (hi (x + y)), .int .u64 (lo (x + y))] wa28) := Lib.hid (Src.ofSlice _ Try.underlying25 ⟨gq, 0, none⟩ 1 1 [.int .i64 (hi (x + y)), .int .u64 (lo (x + y))] rfl (fun j u hj => by
                    rw [Addr.add_lit, Nat.zero_add, hbk.cell]
                    simpa using hj) (fun u hu => by
                    simp only [List.mem_cons, List.not_mem_nil, or_false] at hu
                    rcases hu with rfl | rfl <;> rfl))
                  clear hbk
                  have SQ := Lib.hid (SA28.out.re (show _ = Asn.vec 24 2 (.slice E k ce) k (cv) * (Asn.blk gx 27 #[.int .i64 (hi (ca + cb)), .int .u64 (lo (ca + cb)), .slice E k ce] * (Asn.blk ga 27 #[.int .i64 (hi ca), .int .u64 (lo ca), .slice (some ⟨ba, oa, none⟩) la.length p] * (Asn.blk gb 27 #[.int .i64 (hi cb), .int .u64 (lo cb), .slice (some ⟨bb, ob, none⟩) lb.length q] * (Asn.blk gq 24 #[.int .i64 (hi (x + y)), .int .u64 (lo (x + y))] * (Asn.blk gr 27 #[.int .i64 0, .int .u64 0, .slice none 0 0] * Asn.emp))))) by ac_rfl))
                  clear SA28
                  with_reducible refine step_append_vec rfl (.tmp 28) (.tmp 40) 25 25 rfl 24 _ 2 16 Try.underlying25 infoW rfl (by decide) (.slice E k ce) k (cv) rfl SQ.out.vec (.slice (some ⟨gq, 0, none⟩) 1 1) rfl 1 [.int .i64 (hi (x + y)), .int .u64 (lo (x + y))] CX.out (by unfold maxLen; omega) (by omega) ?_
                  intro v2 wb30 hv hc hf
                  obtain ⟨A4, c4, hv4⟩ := hv.slice
                  subst hv4
                  have S7 := Lib.hid (SQ.out.app hv hc hf)
                  clear SQ CX hv hc hf
                  have SB30 := Lib.hid (S7.out.re (show _ = Asn.blk gx 27 #[.int .i64 (hi (ca + cb)), .int .u64 (lo (ca + cb)), .slice E k ce] * (Asn.vec 24 2 (.slice A4 (k + 1) c4) (k + 1) (cv ++ [.int .i64 (hi (x + y)), .int .u64 (lo (x + y))]) * (Asn.blk ga 27 #[.int .i64 (hi ca), .int .u64 (lo ca), .slice (some ⟨ba, oa, none⟩) la.length p] * (Asn.blk gb 27 #[.int .i64 (hi cb), .int .u64 (lo cb), .slice (some ⟨bb, ob, none⟩) lb.length q] * (Asn.blk gq 24 #[.int .i64 (hi (x + y)), .int .u64 (lo (x + y))] * (Asn.blk gr 27 #[.int .i64 0, .int .u64 0, .slice none 0 0] * Asn.emp))))) by ac_rfl))
                  clear S7
                  refine hK.out _ _ ?_ (fun hHeld => ?_)
                  · exact ⟨(tot_cells (SB30.out.has (Has.r (Has.r (Has.l (has_blk _ _ _)))))).2.2, (tot_cells (SB30.out.has (Has.r (Has.r (Has.r (Has.l (has_blk _ _ _))))))).2.2, WAX.out _ SB30.out.bel, WBX.out _ SB30.out.bel⟩
                  clear hK K0
                  (try simp only [Act.put, List.setIfInBounds_toArray, List.set_cons_zero, List.set_cons_succ])
                  (try clear hH2)
                  refine' wpAnyH_take (i := 15) (oi := ?ot31z15) (v := ?vt31z15) ?ht31z15 ?st31z15 ?ft31z15 ?zt31z15 ?qt31z15 ?yt31z15 ?at31z15 ?rt31z15
                  case ht31z15 => (simp only [List.getElem?_toArray, List.getElem?_cons_succ, List.getElem?_cons_zero]; rfl)
                  case st31z15 => kernel_rfl
                  case ft31z15 => kernel_rfl
                  case zt31z15 => kernel_rfl
                  case qt31z15 => exact fun _ _ _ h => h
                  case yt31z15 => (refine Or.inl ⟨rfl, ?_⟩; intro w hSw; obtain ⟨s1, s2, ⟨s3, s4⟩, s5, s6⟩ := hSw; go_simp; try with_reducible rfl)
                  case at31z15 => assumption
                  case rt31z15 =>
                  simp only [Act.put, List.setIfInBounds_toArray, List.set_cons_zero, List.set_cons_succ]
                  refine wpAnyH_ready (rs := [16]) (by kernel_rfl) (by simp) ?_
                  refine' AllReadyH.cons (o := ?ob32z16) ?hb32z16 ?kb32z16 AllReadyH.nil
                  case hb32z16 => (simp only [List.getElem?_toArray, List.getElem?_cons_succ, List.getElem?_cons_zero]; rfl)
                  case kb32z16 =>
                    intro K0 hK
                    have cc := (tot_cells (SB30.out.has (Has.l (has_blk _ _ _)))).2.2
                    have f2 := (SB30.out.has (Has.l (has_blk _ _ _))).free 2
                    go_simp
                    clear cc f2
                    have SC33 := Lib.hid (SB30.out.set (Sets.l (sets_blk gx _ _ 2 (.slice A4 (k + 1) c4))))
                    simp only [List.setIfInBounds_toArray, List.set_cons_zero, List.set_cons_succ] at SC33
                    clear SB30
                    generalize World.setCell wb30 _ _ = wc33 at *
                    refine hK.out _ _ ?_ (fun hHeld => ?_)
                    · exact ⟨(tot_cells (SC33.out.has (Has.r (Has.r (Has.l (has_blk _ _ _)))))).2.2, (tot_cells (SC33.out.has (Has.r (Has.r (Has.r (Has.l (has_blk _ _ _))))))).2.2, WAX.out _ SC33.out.bel, WBX.out _ SC33.out.bel⟩
                    clear hK K0
                    (try simp only [Act.put, List.setIfInBounds_toArray, List.set_cons_zero, List.set_cons_succ])
                    (try clear hH2)
                    refine wpAnyH_done (by kernel_rfl) ?_ _
                    go_wp2_with fail
                    go_roundw
                    case rel => exact ⟨k + 1, A4, c4, by omega, by omega, by go_num, Lib.hid (by
                      rw [HE.out]
                      exact (SC33.out.re (show _ = Asn.blk gq 24 #[.int .i64 (hi (x + y)), .int .u64 (lo (x + y))] * (Asn.blk gx 27 #[.int .i64 (hi (ca + cb)), .int .u64 (lo (ca + cb)), .slice A4 (k + 1) c4] * (Asn.vec 24 2 (.slice A4 (k + 1) c4) (k + 1) (cv ++ [.int .i64 (hi (x + y)), .int .u64 (lo (x + y))]) * (Asn.blk ga 27 #[.int .i64 (hi ca), .int .u64 (lo ca), .slice (some ⟨ba, oa, none⟩) la.length p] * (Asn.blk gb 27 #[.int .i64 (hi cb), .int .u64 (lo cb), .slice (some ⟨bb, ob, none⟩) lb.length q] * (Asn.blk gr 27 #[.int .i64 0, .int .u64 0, .slice none 0 0] * Asn.emp))))) by ac_rfl)).right)⟩
                    case measure => simp only [intOf]; omega
            case mb25z1 =>
            refine' AllReadyH.cons (o := ?ob34z13) ?hb34z13 ?kb34z13 AllReadyH.nil
            case hb34z13 => (simp only [List.getElem?_toArray, List.getElem?_cons_succ, List.getElem?_cons_zero]; rfl)
            case kb34z13 =>
              intro K0 hK
              go_simp
              have SA35a := Lib.hid (SK24.out.alloc #[.int .i64 (hi (x + y)), .int .u64 (lo (x + y))] 24)
              obtain ⟨gq, hgz⟩ : ∃ g, g = wk24.heap.size := ⟨_, rfl⟩
              rw [← hgz] at SA35a ⊢
              clear hgz SK24
              generalize World.alloc wk24 _ = wa35 at *
              have SA35 := Lib.hid (SA35a.out.re (show _ = Asn.blk gx 27 #[.int .i64 (hi (ca + cb)), .int .u64 (lo (ca + cb)), .slice E k ce] * (Asn.vec 24 2 (.slice E k ce) k (cv) * (Asn.blk ga 27 #[.int .i64 (hi ca), .int .u64 (lo ca), .slice (some ⟨ba, oa, none⟩) la.length p] * (Asn.blk gb 27 #[.int .i64 (hi cb), .int .u64 (lo cb), .slice (some ⟨bb, ob, none⟩) lb.length q] * (Asn.blk gq 24 #[.int .i64 (hi (x + y)), .int .u64 (lo (x + y))] * (Asn.blk gr 27 #[.int .i64 0, .int .u64 0, .slice none 0 0] * Asn.emp))))) by ac_rfl))
              clear SA35a
              refine hK.out _ _ ?_ (fun hHeld => ?_)
              · exact ⟨(tot_cells (SA35.out.has (Has.r (Has.r (Has.l (has_blk _ _ _)))))).2.2, (tot_cells (SA35.out.has (Has.r (Has.r (Has.r (Has.l (has_blk _ _ _))))))).2.2, WAX.out _ SA35.out.bel, WBX.out _ SA35.out.bel⟩
              clear hK K0
              (try simp only [Act.put, List.setIfInBounds_toArray, List.set_cons_zero, List.set_cons_succ])
              (try clear hH2)
              refine wpAnyH_ready (rs := [1]) (by kernel_rfl) (by simp) ?_
              refine' AllReadyH.cons (o := ?ob36z1) ?hb36z1 ?kb36z1 AllReadyH.nil
              case hb36z1 => (simp only [List.getElem?_toArray, List.getElem?_cons_succ, List.getElem?_cons_zero]; rfl)
              case kb36z1 =>
                intro K0 hK
                have cc := (tot_cells (SA35.out.has (Has.l (has_blk _ _ _)))).2.2
                go_simp
                clear cc
                refine hK.out _ _ ?_ (fun hHeld => ?_)
                · exact ⟨(tot_cells (SA35.out.has (Has.r (Has.r (Has.l (has_blk _ _ _)))))).2.2, (tot_cells (SA35.out.has (Has.r (Has.r (Has.r (Has.l (has_blk _ _ _))))))).2.2, WAX.out _ SA35.out.bel, WBX.out _ SA35.out.bel⟩
                clear hK K0
                (try simp only [Act.put, List.setIfInBounds_toArray, List.set_cons_zero, List.set_cons_succ])
                (try clear hH2)
                refine wpAnyH_ready (rs := [14]) (by kernel_rfl) (by simp) ?_
                refine' AllReadyH.cons (o := ?ob38z14) ?hb38z14 ?kb38z14 AllReadyH.nil
                case hb38z14 => (simp only [List.getElem?_toArray, List.getElem?_cons_succ, List.getElem?_cons_zero]; rfl)
                case kb38z14 =>
                  intro K0 hK
                  have hbk := SA35.out.has (Has.r (Has.r (Has.r (Has.r (Has.l (has_blk _ _ _))))))
                  have CX : Hid (Src Try.prog 2 25 (.slice (some ⟨gq, 0, none⟩) 1 1) 1 [.int .i64 (hi (x + y)), .int .u64 (lo (x + y))] wa35) := Lib.hid (Src.ofSlice _ Try.underlying25 ⟨gq, 0, none⟩ 1 1 [.int .i64 (hi (x + y)), .int .u64 (lo (x + y))] rfl (fun j u hj => by
                    rw [Addr.add_lit, Nat.zero_add, hbk.cell]
                    simpa using hj) (fun u hu => by
                    simp only [List.mem_cons, List.not_mem_nil, or_false] at hu
                    rcases hu with rfl | rfl <;> rfl))
                  clear hbk
                  have SQ := Lib.hid (SA35.out.re (show _ = Asn.vec 24 2 (.slice E k ce) k (cv) * (Asn.blk gx 27 #[.int .i64 (hi (ca + cb)), .int .u64 (lo (ca + cb)), .slice E k ce] * (Asn.blk ga 27 #[.int .i64 (hi ca), .int .u64 (lo ca), .slice (some ⟨ba, oa, none⟩) la.length p] * (Asn.blk gb 27 #[.int .i64 (hi cb), .int .u64 (lo cb), .slice (some ⟨bb, ob, none⟩) lb.length q] * (Asn.blk gq 24 #[.int .i64 (hi (x + y)), .int .u64 (lo (x + y))] * (Asn.blk gr 27 #[.int .i64 0, .int .u64 0, .slice none 0 0] * Asn.emp))))) by ac_rfl))
                  clear SA35
                  with_reducible refine step_append_vec rfl (.tmp 28) (.tmp 40) 25 25 rfl 24 _ 2 16 Try.underlying25 infoW rfl (by decide) (.slice E k ce) k (cv) rfl SQ.out.vec (.slice (some ⟨gq, 0, none⟩) 1 1) rfl 1 [.int .i64 (hi (x + y)), .int .u64 (lo (x + y))] CX.out (by unfold maxLen; omega) (by omega) ?_
                  intro v2 wb39 hv hc hf
                  obtain ⟨A4, c4, hv4⟩ := hv.slice
                  subst hv4
                  have S7 := Lib.hid (SQ.out.app hv hc hf)
                  clear SQ CX hv hc hf
                  have SB39 := Lib.hid (S7.out.re (show _ = Asn.blk gx 27 #[.int .i64 (hi (ca + cb)), .int .u64 (lo (ca + cb)), .slice E k ce] * (Asn.vec 24 2 (.slice A4 (k + 1) c4) (k + 1) (cv ++ [.int .i64 (hi (x + y)), .int .u64 (lo (x + y))]) * (Asn.blk ga 27 #[.int .i64 (hi ca), .int .u64 (lo ca), .slice (some ⟨ba, oa, none⟩) la.length p] * (Asn.blk gb 27 #[.int .i64 (hi cb), .int .u64 (lo cb), .slice (some ⟨bb, ob, none⟩) lb.length q] * (Asn.blk gq 24 #[.int .i64 (hi (x + y)), .int .u64 (lo (x + y))] * (Asn.blk gr 27 #[.int .i64 0, .int .u64 0, .slice none 0 0] * Asn.emp))))) by ac_rfl))
                  clear S7
                  refine hK.out _ _ ?_ (fun hHeld => ?_)
                  · exact ⟨(tot_cells (SB39.out.has (Has.r (Has.r (Has.l (has_blk _ _ _)))))).2.2, (tot_cells (SB39.out.has (Has.r (Has.r (Has.r (Has.l (has_blk _ _ _))))))).2.2, WAX.out _ SB39.out.bel, WBX.out _ SB39.out.bel⟩
                  clear hK K0
                  (try simp only [Act.put, List.setIfInBounds_toArray, List.set_cons_zero, List.set_cons_succ])
                  (try clear hH2)
                  refine' wpAnyH_take (i := 15) (oi := ?ot40z15) (v := ?vt40z15) ?ht40z15 ?st40z15 ?ft40z15 ?zt40z15 ?qt40z15 ?yt40z15 ?at40z15 ?rt40z15
                  case ht40z15 => (simp only [List.getElem?_toArray, List.getElem?_cons_succ, List.getElem?_cons_zero]; rfl)
                  case st40z15 => kernel_rfl
                  case ft40z15 => kernel_rfl
                  case zt40z15 => kernel_rfl
                  case qt40z15 => exact fun _ _ _ h => h
                  case yt40z15 => (refine Or.inl ⟨rfl, ?_⟩; intro w hSw; obtain ⟨s1, s2, ⟨s3, s4⟩, s5, s6⟩ := hSw; go_simp; try with_reducible rfl)
                  case at40z15 => assumption
                  case rt40z15 =>
                  simp only [Act.put, List.setIfInBounds_toArray, List.set_cons_zero, List.set_cons_succ]
                  refine wpAnyH_ready (rs := [16]) (by kernel_rfl) (by simp) ?_
                  refine' AllReadyH.cons (o := ?ob41z16) ?hb41z16 ?kb41z16 AllReadyH.nil
                  case hb41z16 => (simp only [List.getElem?_toArray, List.getElem?_cons_succ, List.getElem?_cons_zero]; rfl)
                  case kb41z16 =>
                    intro K0 hK
                    have cc := (tot_cells (SB39.out.has (Has.l (has_blk _ _ _)))).2.2
                    have f2 := (SB39.out.has (Has.l (has_blk _ _ _))).free 2
                    go_simp
                    clear cc f2
                    have SC42 := Lib.hid (SB39.out.set (Sets.l (sets_blk gx _ _ 2 (.slice A4 (k + 1) c4))))
                    simp only [List.setIfInBounds_toArray, List.set_cons_zero, List.set_cons_succ] at SC42
                    clear SB39
                    generalize World.setCell wb39 _ _ = wc42 at *
                    refine hK.out _ _ ?_ (fun hHeld => ?_)
                    · exact ⟨(tot_cells (SC42.out.has (Has.r (Has.r (Has.l (has_blk _ _ _)))))).2.2, (tot_cells (SC42.out.has (Has.r (Has.r (Has.r (Has.l (has_blk _ _ _))))))).2.2, WAX.out _ SC42.out.bel, WBX.out _ SC42.out.bel⟩
                    clear hK K0
                    (try simp only [Act.put, List.setIfInBounds_toArray, List.set_cons_zero, List.set_cons_succ])
                    (try clear hH2)
                    refine wpAnyH_done (by kernel_rfl) ?_ _
                    go_wp2_with fail
                    go_roundw
                    case rel => exact ⟨k + 1, A4, c4, by omega, by omega, by go_num, Lib.hid (by
                      rw [HE.out]
                      exact (SC42.out.re (show _ = Asn.blk gq 24 #[.int .i64 (hi (x + y)), .int .u64 (lo (x + y))] * (Asn.blk gx 27 #[.int .i64 (hi (ca + cb)), .int .u64 (lo (ca + cb)), .slice A4 (k + 1) c4] * (Asn.vec 24 2 (.slice A4 (k + 1) c4) (k + 1) (cv ++ [.int .i64 (hi (x + y)), .int .u64 (lo (x + y))]) * (Asn.blk ga 27 #[.int .i64 (hi ca), .int .u64 (lo ca), .slice (some ⟨ba, oa, none⟩) la.length p] * (Asn.blk gb 27 #[.int .i64 (hi cb), .int .u64 (lo cb), .slice (some ⟨bb, ob, none⟩) lb.length q] * (Asn.blk gr 27 #[.int .i64 0, .int .u64 0, .slice none 0 0] * Asn.emp))))) by ac_rfl)).right)⟩
                    case measure => simp only [intOf]; omega

      · as_aux_lemma =>
          have hlt2I : ¬ (k : Int) < (lb.length : Int) := by omega
          have hkn : (sumL la lb).take k = sumL la lb := List.take_of_length_le (by rw [sumL_len]; omega)
          have hkl : (sumL la lb).length = k := by rw [sumL_len]; omega
          rw [hkn] at S4
          obtain ⟨x0, x1, x2⟩ := tot_cells (S4.out.has (Has.l (has_blk _ _ _)))
          have S5 := Lib.hid (S4.out.re (show _ = Asn.blk gr 27 #[.int .i64 0, .int .u64 0, .slice none 0 0] * (Asn.blk gx 27 #[.int .i64 (hi (ca + cb)), .int .u64 (lo (ca + cb)), .slice E k ce] * (Asn.vec 24 2 (.slice E k ce) k (cellsW (sumL la lb)) * (Asn.blk ga 27 #[.int .i64 (hi ca), .int .u64 (lo ca), .slice A la.length p] * (Asn.blk gb 27 #[.int .i64 (hi cb), .int .u64 (lo cb), .slice B lb.length q] * Asn.emp)))) by ac_rfl))
          obtain ⟨z0, z1, z2⟩ := tot_cells (S5.out.has (Has.l (has_blk _ _ _)))
          have y0 := fr3 (S5.out.has (Has.l (has_blk _ _ _))) 0
          have y1 := fr3 (S5.out.has (Has.l (has_blk _ _ _))) 1
          have y2 := fr3 (S5.out.has (Has.l (has_blk _ _ _))) 2
          clear S4
          have HK := Lib.hid hkl
          clear hkn hkl
          go_wp2_with fail
          have S6 := Lib.hid (own_3 S5.out (.int .i64 (hi (ca + cb))) (.int .u64 (lo (ca + cb))) (.slice E k ce))
          clear x0 x1 x2 y0 y1 y2 z0 z1 z2 S5 a0 a1 a2 b0 b1 b2
          generalize World.setCell (World.setCell (World.setCell wr _ _) _ _) _ _ = w9 at *
          have hv := (S6.out.right.re (show _ = Asn.vec 24 2 (.slice E k ce) k (cellsW (sumL la lb)) * (Asn.blk gx 27 #[.int .i64 (hi (ca + cb)), .int .u64 (lo (ca + cb)), .slice E k ce] * (Asn.blk ga 27 #[.int .i64 (hi ca), .int .u64 (lo ca), .slice A la.length p] * (Asn.blk gb 27 #[.int .i64 (hi cb), .int .u64 (lo cb), .slice B lb.length q] * Asn.emp))) by ac_rfl)).vec
          obtain rfl := HK.out
          exact bodyPost_ret (resT rfl rfl (S6.out.has (Has.l (has_blk _ _ _)))) rfl ⟨_, rfl, S6.out.bel, E, ce, rfl, WReads.of_vec hv⟩

    · as_aux_lemma =>
        have hltI : ¬ (k : Int) < (la.length : Int) := by omega
        have hkn : (sumL la lb).take k = sumL la lb := List.take_of_length_le (by rw [sumL_len]; omega)
        have hkl : (sumL la lb).length = k := by rw [sumL_len]; omega
        rw [hkn] at S4
        obtain ⟨x0, x1, x2⟩ := tot_cells (S4.out.has (Has.l (has_blk _ _ _)))
        have S5 := Lib.hid (S4.out.re (show _ = Asn.blk gr 27 #[.int .i64 0, .int .u64 0, .slice none 0 0] * (Asn.blk gx 27 #[.int .i64 (hi (ca + cb)), .int .u64 (lo (ca + cb)), .slice E k ce] * (Asn.vec 24 2 (.slice E k ce) k (cellsW (sumL la lb)) * (Asn.blk ga 27 #[.int .i64 (hi ca), .int .u64 (lo ca), .slice A la.length p] * (Asn.blk gb 27 #[.int .i64 (hi cb), .int .u64 (lo cb), .slice B lb.length q] * Asn.emp)))) by ac_rfl))
        obtain ⟨z0, z1, z2⟩ := tot_cells (S5.out.has (Has.l (has_blk _ _ _)))
        have y0 := fr3 (S5.out.has (Has.l (has_blk _ _ _))) 0
        have y1 := fr3 (S5.out.has (Has.l (has_blk _ _ _))) 1
        have y2 := fr3 (S5.out.has (Has.l (has_blk _ _ _))) 2
        clear S4
        have HK := Lib.hid hkl
        clear hkn hkl
        go_wp2_with fail
        have S6 := Lib.hid (own_3 S5.out (.int .i64 (hi (ca + cb))) (.int .u64 (lo (ca + cb))) (.slice E k ce))
        clear x0 x1 x2 y0 y1 y2 z0 z1 z2 S5 a0 a1 a2 b0 b1 b2
        generalize World.setCell (World.setCell (World.setCell wr _ _) _ _) _ _ = w9 at *
        have hv := (S6.out.right.re (show _ = Asn.vec 24 2 (.slice E k ce) k (cellsW (sumL la lb)) * (Asn.blk gx 27 #[.int .i64 (hi (ca + cb)), .int .u64 (lo (ca + cb)), .slice E k ce] * (Asn.blk ga 27 #[.int .i64 (hi ca), .int .u64 (lo ca), .slice A la.length p] * (Asn.blk gb 27 #[.int .i64 (hi cb), .int .u64 (lo cb), .slice B lb.length q] * Asn.emp))) by ac_rfl)).vec
        obtain rfl := HK.out
        exact bodyPost_ret (resT rfl rfl (S6.out.has (Has.l (has_blk _ _ _)))) rfl ⟨_, rfl, S6.out.bel, E, ce, rfl, WReads.of_vec hv⟩

end Go.Proofs.Ytoofoalpffoheaa.Pn
