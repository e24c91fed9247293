/- The shelf: pages have other nodes. -/
import Derived.Test.YthoaangmekkcmaaBkK
import Derived.Test.YthoaangmekkcmaaBkI
namespace Go.Proofs.Ythoaangmekkcmaa.Bk
open Go.ChangeShapes Go.WideShapes Go.ChangeAt Go.RowKit Go.PlainAid Aid Nt Nd Tr
set_option linter.unusedVariables false
set_option linter.unusedSimpArgs false
set_option linter.unusedSectionVars false
def putS (S : Sf) (x : Int × Nod) : Sf := if 0 ≤ x.1 ∧ x.1 < 256 then up S x.1.toNat x.2 else S
def puts (S : Sf) (L : List (Int × Nod)) : Sf := L.foldl putS S
theorem puts_snoc (S : Sf) (L : List (Int × Nod)) (x : Int × Nod) : puts S (L ++ [x]) = putS (puts S L) x := by simp [puts]
/-- Changes that can be read. -/
def ChV (W : World) (v : Value) (L : List Sp) : Prop :=
  ∃ A c, v = .slice A L.length c ∧ L.length ≤ 1000 ∧ (L = [] ∨ ∃ g, A = some ⟨g, 0, none⟩ ∧ ∀ j u, (spL L)[j]? = some u → W.cell? ⟨g, j, none⟩ = some u) ∧ ∀ x, x ∈ L → Row3 W x.v x.nd.list
theorem size_node : (Try.prog.info? 52).map (·.size) = some 7 := by kernel_rfl
set_option maxRecDepth 100000 in
set_option maxHeartbeats 8000000 in
theorem ShPut_any (gs : Nat) (S : Sf) (V : Nat → Value) (L : List Sp) (v : Value) (w0 w : World) (C : Asn) (HC : ∀ W S' V', Own w0 No W (aSf gs S' V' * C) → ChV W v L) (hl : ∀ x, x ∈ L → x.nd.list.length ≤ 100000) (hS : Own w0 No w (aSf gs S V * C)) :
    Calls Try.prog 28 #[sPtr gs, v] w fun e w' => e = .returned (.tuple #[]) ∧ ∃ V', Own w0 No w' (aSf gs (puts S (plain L)) V' * C) := by
  obtain ⟨A, c, rfl, hle, -, -⟩ := HC w S V hS
  have HV := Lib.hid HC
  have S0 := Lib.hid hS
  clear HC hS
  unfold sPtr at *
  go_enter Try.func28, Try.ntmps28
  go_wp2_with fail
  go_loopw [10] (fun i wr => ∃ k : Nat, k ≤ L.length ∧ i = .int .i64 k ∧ ∃ V', Hid (Own w0 No wr (aSf gs (puts S (plain (L.take k))) V' * C))) (fun i _ => L.length - (intOf i).toNat)
  case atStart => exact ⟨0, Nat.zero_le _, rfl, V, S0⟩
  case round =>
    clear S0
    obtain ⟨k, hk, rfl, V', S1⟩ := hrel
    by_cases hlt : k < L.length
    · obtain ⟨⟨pg, n, xv⟩, hx⟩ : ∃ x, L[k]? = some x := ⟨_, List.getElem?_eq_getElem hlt⟩
      have hxm : (⟨pg, n, xv⟩ : Sp) ∈ L := List.mem_of_getElem? hx
      have hnx : Hid (puts S (plain (L.take (k + 1))) = putS (puts S (plain (L.take k))) (pg, n)) := by
        show _ = _
        rw [List.take_add_one, hx, Option.toList_some, plain, List.map_append, List.map_cons, List.map_nil, puts_snoc]; rfl
      generalize puts S (plain (L.take k)) = S' at *
      obtain ⟨A2, c2, h2, -, hA, hR⟩ := HV.out wr S' V' S1.out
      simp only [Value.slice.injEq, true_and] at h2
      obtain ⟨rfl, rfl⟩ := h2
      obtain ⟨g, rfl, hcell⟩ : ∃ g, A = some ⟨g, 0, none⟩ ∧ ∀ j u, (spL L)[j]? = some u → wr.cell? ⟨g, j, none⟩ = some u := by
        rcases hA with h | h
        · rw [h] at hlt; exact absurd hlt (by simp)
        · exact h
      have hR1 := hR _ hxm
      dsimp only at hR1
      obtain ⟨A3, c3, rfl, -⟩ := hR1
      have ha := fun j hj => spL_at L k j _ hx hj
      unfold spotC at ha
      dsimp only at ha
      have d0 : wr.cell? ⟨g, k * 8, none⟩ = _ := hcell (k * 8 + 0) _ (ha 0 (by decide))
      have d1 := hcell _ _ (ha 1 (by decide))
      have d2 := hcell _ _ (ha 2 (by decide))
      have d3 := hcell _ _ (ha 3 (by decide))
      have d4 := hcell _ _ (ha 4 (by decide))
      have d5 := hcell _ _ (ha 5 (by decide))
      have d6 := hcell _ _ (ha 6 (by decide))
      have d7 := hcell _ _ (ha 7 (by decide))
      have S2 := Lib.hid (S1.out.alloc #[.int .i64 pg, .int .i64 n.tree, .int .i64 n.level, .int .i64 n.stamp, .bool n.has, .string (ofL n.high), .int .i64 n.right, .slice A3 n.list.length c3] 73)
      have HR := Lib.hid (show ∀ W S' V', Own w0 No W (aSf gs S' V' * C) → Row3 W (.slice A3 n.list.length c3) n.list from fun W S' V' h => by obtain ⟨_, _, _, _, _, h5⟩ := HV.out W S' V' h; exact h5 _ hxm)
      have HL := Lib.hid (hl _ hxm)
      clear hx ha hA hR hcell S1 hxm
      go_upto_region 4 with fail
      clear d0 d1 d2 d3 d4 d5 d6 d7
      obtain ⟨g5, hgz⟩ : ∃ g, g = wr.heap.size := ⟨_, rfl⟩
      rw [← hgz] at S2 ⊢
      clear hgz
      generalize World.alloc _ _ = w2 at *
      obtain ⟨k0, k1, k2, k3, k4, k5, k6, k7⟩ := eight_of (S2.out.has (Has.l (has_blk _ _ _)))
      by_cases hp0 : 0 ≤ pg
      · by_cases hp1 : pg < 256
        · obtain ⟨p, rfl⟩ : ∃ p : Nat, pg = (p : Int) := ⟨pg.toNat, by omega⟩
          have hput : Hid (putS S' ((p : Int), n) = up S' p n) := by
            show putS S' ((p : Int), n) = up S' p n
            unfold putS
            rw [if_pos ⟨hp0, hp1⟩]; rfl
          go_upto_region 5 with fail
          have FC : Hid (∀ W D, Own w0 No W (Asn.blk g5 73 #[.int .i64 (p : Int), .int .i64 n.tree, .int .i64 n.level, .int .i64 n.stamp, .bool n.has, .string (ofL n.high), .int .i64 n.right, .slice A3 n.list.length c3] * D) → (W.cell? ⟨g5, 0, none⟩ = some (.int .i64 (p : Int)) ∧ W.cell? ⟨g5, 1, none⟩ = some (.int .i64 n.tree) ∧ W.cell? ⟨g5, 2, none⟩ = some (.int .i64 n.level) ∧ W.cell? ⟨g5, 3, none⟩ = some (.int .i64 n.stamp) ∧ W.cell? ⟨g5, 4, none⟩ = some (.bool n.has) ∧ W.cell? ⟨g5, 5, none⟩ = some (.string (ofL n.high)) ∧ W.cell? ⟨g5, 6, none⟩ = some (.int .i64 n.right) ∧ W.cell? ⟨g5, 7, none⟩ = some (.slice A3 n.list.length c3))) := Lib.hid fun W D h => eight_of (h.has (Has.l (has_blk _ _ _)))
          have S3 := Lib.hid S2.out.drew
          clear S2 k0 k1 k2 k3 k4 k5 k6 k7
          refine wp_region_held_drew (S := fun W : World => W.cell? ⟨g5, 0, none⟩ = some (.int .i64 (p : Int)) ∧ W.cell? ⟨g5, 1, none⟩ = some (.int .i64 n.tree) ∧ W.cell? ⟨g5, 2, none⟩ = some (.int .i64 n.level) ∧ W.cell? ⟨g5, 3, none⟩ = some (.int .i64 n.stamp) ∧ W.cell? ⟨g5, 4, none⟩ = some (.bool n.has) ∧ W.cell? ⟨g5, 5, none⟩ = some (.string (ofL n.high)) ∧ W.cell? ⟨g5, 6, none⟩ = some (.int .i64 n.right) ∧ W.cell? ⟨g5, 7, none⟩ = some (.slice A3 n.list.length c3)) (by kernel_rfl) (FC.out _ _ S3.out) (fun hHeld => ?_)
          generalize w2.drew = w3 at *
          refine' wpAnyH_take (i := 0) (oi := ?ohz0) (v := ?vhz0) ?hhz0 ?shz0 ?fhz0 ?zhz0 ?qhz0 ?yhz0 ?ahz0 ?rhz0
          case hhz0 => (simp only [List.getElem?_toArray, List.getElem?_cons_succ, List.getElem?_cons_zero]; rfl)
          case shz0 => kernel_rfl
          case fhz0 => kernel_rfl
          case zhz0 => kernel_rfl
          case qhz0 => exact fun _ _ _ h => h
          case yhz0 => (refine Or.inl ⟨rfl, ?_⟩; intro w hSw; (try dsimp only at hSw); go_simp; try with_reducible rfl)
          case ahz0 => assumption
          case rhz0 =>
          simp only [Act.put, List.setIfInBounds_toArray, List.set_cons_zero, List.set_cons_succ]
          refine' wpAnyH_take (i := 1) (oi := ?ohz1) (v := ?vhz1) ?hhz1 ?shz1 ?fhz1 ?zhz1 ?qhz1 ?yhz1 ?ahz1 ?rhz1
          case hhz1 => (simp only [List.getElem?_toArray, List.getElem?_cons_succ, List.getElem?_cons_zero]; rfl)
          case shz1 => kernel_rfl
          case fhz1 => kernel_rfl
          case zhz1 => kernel_rfl
          case qhz1 => exact fun _ _ _ h => h
          case yhz1 => (refine Or.inl ⟨rfl, ?_⟩; intro w hSw; (try dsimp only at hSw); go_simp; try with_reducible rfl)
          case ahz1 => assumption
          case rhz1 =>
          simp only [Act.put, List.setIfInBounds_toArray, List.set_cons_zero, List.set_cons_succ]
          refine' wpAnyH_take (i := 2) (oi := ?ohz2) (v := ?vhz2) ?hhz2 ?shz2 ?fhz2 ?zhz2 ?qhz2 ?yhz2 ?ahz2 ?rhz2
          case hhz2 => (simp only [List.getElem?_toArray, List.getElem?_cons_succ, List.getElem?_cons_zero]; rfl)
          case shz2 => kernel_rfl
          case fhz2 => kernel_rfl
          case zhz2 => kernel_rfl
          case qhz2 => exact fun _ _ _ h => h
          case yhz2 => (refine Or.inl ⟨rfl, ?_⟩; intro w hSw; (try dsimp only at hSw); go_simp; try with_reducible rfl)
          case ahz2 => assumption
          case rhz2 =>
          simp only [Act.put, List.setIfInBounds_toArray, List.set_cons_zero, List.set_cons_succ]
          refine' wpAnyH_take (i := 3) (oi := ?ohz3) (v := ?vhz3) ?hhz3 ?shz3 ?fhz3 ?zhz3 ?qhz3 ?yhz3 ?ahz3 ?rhz3
          case hhz3 => (simp only [List.getElem?_toArray, List.getElem?_cons_succ, List.getElem?_cons_zero]; rfl)
          case shz3 => kernel_rfl
          case fhz3 => kernel_rfl
          case zhz3 => kernel_rfl
          case qhz3 => exact fun _ _ _ h => h
          case yhz3 => (refine Or.inl ⟨rfl, ?_⟩; intro w hSw; (try dsimp only at hSw); go_simp; try with_reducible rfl)
          case ahz3 => assumption
          case rhz3 =>
          simp only [Act.put, List.setIfInBounds_toArray, List.set_cons_zero, List.set_cons_succ]
          refine' wpAnyH_take (i := 4) (oi := ?ohz4) (v := ?vhz4) ?hhz4 ?shz4 ?fhz4 ?zhz4 ?qhz4 ?yhz4 ?ahz4 ?rhz4
          case hhz4 => (simp only [List.getElem?_toArray, List.getElem?_cons_succ, List.getElem?_cons_zero]; rfl)
          case shz4 => kernel_rfl
          case fhz4 => kernel_rfl
          case zhz4 => kernel_rfl
          case qhz4 => exact fun _ _ _ h => h
          case yhz4 => (refine Or.inl ⟨rfl, ?_⟩; intro w hSw; (try dsimp only at hSw); go_simp; try with_reducible rfl)
          case ahz4 => assumption
          case rhz4 =>
          simp only [Act.put, List.setIfInBounds_toArray, List.set_cons_zero, List.set_cons_succ]
          refine' wpAnyH_take (i := 6) (oi := ?ohz6) (v := ?vhz6) ?hhz6 ?shz6 ?fhz6 ?zhz6 ?qhz6 ?yhz6 ?ahz6 ?rhz6
          case hhz6 => (simp only [List.getElem?_toArray, List.getElem?_cons_succ, List.getElem?_cons_zero]; rfl)
          case shz6 => kernel_rfl
          case fhz6 => kernel_rfl
          case zhz6 => kernel_rfl
          case qhz6 => exact fun _ _ _ h => h
          case yhz6 => (refine Or.inl ⟨rfl, ?_⟩; intro w hSw; (try dsimp only at hSw); go_simp; try with_reducible rfl)
          case ahz6 => assumption
          case rhz6 =>
          simp only [Act.put, List.setIfInBounds_toArray, List.set_cons_zero, List.set_cons_succ]
          refine' wpAnyH_take (i := 7) (oi := ?ohz7) (v := ?vhz7) ?hhz7 ?shz7 ?fhz7 ?zhz7 ?qhz7 ?yhz7 ?ahz7 ?rhz7
          case hhz7 => (simp only [List.getElem?_toArray, List.getElem?_cons_succ, List.getElem?_cons_zero]; rfl)
          case shz7 => kernel_rfl
          case fhz7 => kernel_rfl
          case zhz7 => kernel_rfl
          case qhz7 => exact fun _ _ _ h => h
          case yhz7 => (refine Or.inl ⟨rfl, ?_⟩; intro w hSw; (try dsimp only at hSw); go_simp; try with_reducible rfl)
          case ahz7 => assumption
          case rhz7 =>
          simp only [Act.put, List.setIfInBounds_toArray, List.set_cons_zero, List.set_cons_succ]
          refine wpAnyH_ready (rs := [5]) (by kernel_rfl) (by simp) ?_
          refine' AllReadyH.cons (o := ?oa5) ?ha5 ?ka5 AllReadyH.nil
          case ha5 => (simp only [List.getElem?_toArray, List.getElem?_cons_succ, List.getElem?_cons_zero]; rfl)
          case ka5 =>
            intro K0 hK
            go_simp
            go_at_call 51
            refine (alone_any n (.slice A3 n.list.length c3) _ (HR.out _ _ _ S3.out.right) HL.out).mono ?_
            rintro e w4 ⟨p', rfl, hX⟩
            have SA := Lib.hid (own_join S3.out hX)
            clear hX S3
            refine hK.out _ _ ?_ (fun hHeld => ?_)
            · exact FC.out _ _ SA.out.right
            clear hK K0
            (try simp only [Act.put, List.setIfInBounds_toArray, List.set_cons_zero, List.set_cons_succ])
            refine wpAnyH_ready (rs := [8]) (by kernel_rfl) (by simp) ?_
            refine' AllReadyH.cons (o := ?ob8) ?hb8 ?kb8 AllReadyH.nil
            case hb8 => (simp only [List.getElem?_toArray, List.getElem?_cons_succ, List.getElem?_cons_zero]; rfl)
            case kb8 =>
              intro K0 hK
              go_simp
              refine hK.out _ _ ?_ (fun hHeld => ?_)
              · exact FC.out _ _ SA.out.right
              clear hK K0
              (try simp only [Act.put, List.setIfInBounds_toArray, List.set_cons_zero, List.set_cons_succ])
              refine wpAnyH_ready (rs := [9]) (by kernel_rfl) (by simp) ?_
              refine' AllReadyH.cons (o := ?oc9) ?hc9 ?kc9 AllReadyH.nil
              case hc9 => (simp only [List.getElem?_toArray, List.getElem?_cons_succ, List.getElem?_cons_zero]; rfl)
              case kc9 =>
                intro K0 hK
                have HTH : Hid (w4.there gs (p * 7) 7) := Lib.hid (fun j hj => by
                  have hv := (SA.out.re (show _ = Asn.vec 120 7 (.slice (some ⟨gs, 0, none⟩) 256 256) 256 (nws 256 S' V') * (aRows S' V' * (Asn.vec 44 3 p' n.list.length (cells3 n.list) * (Asn.blk g5 73 #[.int .i64 (p : Int), .int .i64 n.tree, .int .i64 n.level, .int .i64 n.stamp, .bool n.has, .string (ofL n.high), .int .i64 n.right, .slice A3 n.list.length c3] * C))) by unfold aSf; ac_rfl)).vec
                  have hx : (nws 256 S' V')[p * 7 + j]? = some ((nws 256 S' V')[p * 7 + j]'(by rw [nws_len]; omega)) := List.getElem?_eq_getElem _
                  refine ⟨?_, hv.free _⟩
                  rw [hv.cell hx]; rfl)
                have SB := Lib.hid (sf_up p (by omega) n p' (SA.out.re (show _ = aEnts n p' * (aSf gs S' V' * (Asn.blk g5 73 #[.int .i64 (p : Int), .int .i64 n.tree, .int .i64 n.level, .int .i64 n.stamp, .bool n.has, .string (ofL n.high), .int .i64 n.right, .slice A3 n.list.length c3] * C)) by unfold aEnts; ac_rfl)))
                refine step_store_w rfl rfl (.tmp 30) (.tmp 27) 52 rfl (.pointer (some ⟨gs, p * 7, none⟩)) (.agg (nodCells n p')) rfl rfl _ (run_storeAt_mid _ gs (p * 7) 52 (nodCells n p') HTH.out size_node ?_) ?_
                · obtain ⟨A', c', rfl⟩ := (show Own w0 No w4 (Asn.vec 44 3 p' n.list.length (cells3 n.list) * _) from SA.out).vec.slice
                  exact all_oneCell_toArray (cs := [.int .i64 n.tree, .int .i64 n.level, .int .i64 n.stamp, .bool n.has, .string (ofL n.high), .int .i64 n.right, .slice A' n.list.length c']) (by intro u hu; simp at hu; rcases hu with rfl | rfl | rfl | rfl | rfl | rfl | rfl <;> rfl)
                clear HTH
                refine hK.out _ _ ?_ (fun hHeld => ?_)
                · exact FC.out _ _ (SB.out.re (show _ = Asn.blk g5 73 #[.int .i64 (p : Int), .int .i64 n.tree, .int .i64 n.level, .int .i64 n.stamp, .bool n.has, .string (ofL n.high), .int .i64 n.right, .slice A3 n.list.length c3] * (aSf gs (up S' p n) (up V' p p') * C) by ac_rfl))
                clear hK K0
                (try simp only [Act.put, List.setIfInBounds_toArray, List.set_cons_zero, List.set_cons_succ])
                generalize World.setCells _ _ _ _ = w5 at *
                refine wpAnyH_done (by kernel_rfl) ?_ _
                go_wp2_with fail
                go_round
                case rel => exact ⟨k + 1, by omega, by go_num, _, by rw [hnx.out, hput.out]; exact (SB.out.re (show _ = Asn.blk g5 73 #[.int .i64 (p : Int), .int .i64 n.tree, .int .i64 n.level, .int .i64 n.stamp, .bool n.has, .string (ofL n.high), .int .i64 n.right, .slice A3 n.list.length c3] * (aSf gs (up S' p n) (up V' p p') * C) by ac_rfl)).right⟩
                case measure => simp only [intOf]; omega
        · have hput : Hid (putS S' (pg, n) = S') := by
            show putS S' (pg, n) = S'
            unfold putS
            rw [if_neg (by omega)]
          go_wp2_with fail
          go_round
          case rel => exact ⟨k + 1, by omega, by go_num, V', by rw [hnx.out, hput.out]; exact S2.out.right⟩
          case measure => simp only [intOf]; omega
      · have hput : Hid (putS S' (pg, n) = S') := by
          show putS S' (pg, n) = S'
          unfold putS
          rw [if_neg (by omega)]
        go_wp2_with fail
        go_round
        case rel => exact ⟨k + 1, by omega, by go_num, V', by rw [hnx.out, hput.out]; exact S2.out.right⟩
        case measure => simp only [intOf]; omega
    · obtain rfl : k = L.length := by omega
      rw [List.take_length] at S1
      go_wp2_with fail
      go_end0
      exact ⟨rfl, V', S1.out⟩
end Go.Proofs.Ythoaangmekkcmaa.Bk
