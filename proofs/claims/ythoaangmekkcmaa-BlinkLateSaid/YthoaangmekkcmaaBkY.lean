/- What is to change: Hang. -/
import Derived.Test.YthoaangmekkcmaaBkX
import Derived.Deep.CutBlock
import Derived.Deep.DeepCutAuto
import Derived.Test.YthoaangmekkcmaaStep
namespace Go.Proofs.Ythoaangmekkcmaa.Bk
open Go.ChangeShapes Go.WideShapes Go.ChangeAt Go.RowKit Go.PlainAid Aid Nt Nd Tr
set_option linter.unusedVariables false
set_option linter.unusedSimpArgs false
set_option linter.unusedSectionVars false
/-- What Hang answers. -/
def hangR (S : Sf) (root lv : Int) (key : By) (page : Int) : Nat × List (Int × Nod) :=
  if (so S root lv key).err = 0 then
    (if (plc (so S root lv key).nd key).2 then (0, []) else
      if fitsB (wth (so S root lv key).nd ⟨key, numZ 2 page, false⟩) then (0, [((so S root lv key).pg, wth (so S root lv key).nd ⟨key, numZ 2 page, false⟩)]) else (12, []))
  else ((so S root lv key).err, [])
section
variable (gs : Nat) (S : Sf) (V : Nat → Value)
set_option maxRecDepth 100000 in
set_option maxHeartbeats 32000000 in
theorem Hang_any (hs : Sm S) (hv : LvOk S) (root t0 lv page : Int) (key : By) (w0 w : World) (C : Asn) (hS : Own w0 No w (aSf gs S V * C)) :
    Calls Try.prog 33 #[pgs gs, .int .i64 root, .agg #[.int .i64 t0, .int .i64 lv, .string (ofL key), .int .i64 page]] w fun r w' => ∃ (v : Value) (L : List Sp), r = .returned (.tuple #[v, .int .i64 (hangR S root lv key page).1]) ∧ plain L = (hangR S root lv key page).2 ∧
      Own w0 No w' (Asn.vec 73 8 v L.length (spL L) * (aLs L * (aSf gs S V * C))) := by
  have S0 := Lib.hid (hS.alloc #[.int .i64 t0, .int .i64 lv, .string (ofL key), .int .i64 page] 80)
  have HSo := Lib.hid (fun W D (h : Own w0 No W (aSf gs S V * D)) => sought_any gs S V hs.small hv root lv key w0 W D h)
  have hxl := so_P (Pr := fun n => n.list.length ≤ 99999) (by decide) hs root lv key
  obtain ⟨r, hr⟩ : ∃ r, r = hangR S root lv key page := ⟨_, rfl⟩
  rw [← hr]
  unfold hangR at hr
  generalize so S root lv key = x at *
  have HPl := Lib.hid (fun v W (h : NodAt W v x.nd) => place_any x.nd key v W h)
  obtain ⟨q, hit, hpl, hih, hil⟩ := plc_form x.nd key
  rw [hpl] at HPl hr
  have HR := Lib.hid hr
  have HWi := Lib.hid (fun p W (h : Row3 W p x.nd.list) => with_any x.nd p ⟨key, numZ 2 page, false⟩ W h hxl)
  have HFi := Lib.hid (fun v W (h : NodAt W v (wth x.nd ⟨key, numZ 2 page, false⟩)) => Fits_any (wth x.nd ⟨key, numZ 2 page, false⟩) v W h)
  have HLd := Lib.hid (fun W => Lead_any (ofL key) page W)
  generalize wth x.nd ⟨key, numZ 2 page, false⟩ = n at *
  clear hr hS hpl hih hil
  unfold spotC pgs entCells at *
  go_enter Try.func33, Try.ntmps33
  go_upto_region 1 with fail
  obtain ⟨g5, hgz⟩ : ∃ g, g = w.heap.size := ⟨_, rfl⟩
  rw [← hgz] at S0 ⊢
  clear hgz
  generalize World.alloc _ _ = w1 at *
  have y1 := (S0.out.has (Has.l (has_blk _ _ _))).cell 1
  have y2 := (S0.out.has (Has.l (has_blk _ _ _))).cell 2
  go_wp2_with fail
  refine (HSo.out _ _ (S0.out.re (show _ = aSf gs S V * (Asn.blk g5 80 #[.int .i64 t0, .int .i64 lv, .string (ofL key), .int .i64 page] * C) by ac_rfl))).mono ?_
  rintro rr w2 ⟨v, rfl, hX⟩
  obtain ⟨A, c, rfl⟩ := (show Own w0 No w2 (Asn.vec 44 3 v x.nd.list.length (cells3 x.nd.list) * _) from hX).vec.slice
  have S1 := Lib.hid (hX.alloc #[.int .i64 x.pg, .int .i64 x.nd.tree, .int .i64 x.nd.level, .int .i64 x.nd.stamp, .bool x.nd.has, .string (ofL x.nd.high), .int .i64 x.nd.right, .slice A x.nd.list.length c] 100)
  clear hX HSo S0 y1 y2
  go_upto_region 2 with fail
  obtain ⟨g8, hgz⟩ : ∃ g, g = w2.heap.size := ⟨_, rfl⟩
  rw [← hgz] at S1 ⊢
  clear hgz
  generalize World.alloc _ _ = w3 at *
  have FIN : Hid (∀ W, Own w0 No W (Asn.blk g8 100 #[.int .i64 x.pg, .int .i64 x.nd.tree, .int .i64 x.nd.level, .int .i64 x.nd.stamp, .bool x.nd.has, .string (ofL x.nd.high), .int .i64 x.nd.right, .slice A x.nd.list.length c] * (aEnts x.nd (.slice A x.nd.list.length c) * (aSf gs S V * (Asn.blk g5 80 #[.int .i64 t0, .int .i64 lv, .string (ofL key), .int .i64 page] * C)))) → Own w0 No W (Asn.vec 73 8 (.slice none 0 0) ([] : List Sp).length (spL []) * (aLs [] * (aSf gs S V * C)))) := Lib.hid fun W h => by
    have h1 := (h.re (show _ = (Asn.blk g8 100 #[.int .i64 x.pg, .int .i64 x.nd.tree, .int .i64 x.nd.level, .int .i64 x.nd.stamp, .bool x.nd.has, .string (ofL x.nd.high), .int .i64 x.nd.right, .slice A x.nd.list.length c] * (aEnts x.nd (.slice A x.nd.list.length c) * Asn.blk g5 80 #[.int .i64 t0, .int .i64 lv, .string (ofL key), .int .i64 page])) * (aSf gs S V * C) by ac_rfl)).right.nilVec 73 8
    rw [show aLs [] = Asn.emp from rfl, emp_mul]
    exact h1
  by_cases he : x.err = 0
  · have he0 : ((x.err : Nat) : Int) = 0 := by rw [he]; rfl
    rw [he0]
    have hr := HR.out
    rw [if_pos he] at hr
    have HR2 := Lib.hid hr
    clear hr HR he
    obtain ⟨k0, k1, k2, k3, k4, k5, k6, k7⟩ := eight_of (S1.out.has (Has.l (has_blk _ _ _)))
    have y2 := (S1.out.has (Has.r (Has.r (Has.r (Has.l (has_blk g5 _ _)))))).cell 2
    have HPl1 := Lib.hid (HPl.out (.agg (nodCells x.nd (.slice A x.nd.list.length c))) w3 (ents_at S1.out.right.left))
    unfold nodCells at HPl1
    clear HPl
    go_wp2_with fail
    refine HPl1.out.mono ?_
    rintro rr w4 ⟨rfl, hX⟩
    have S2 := Lib.hid (S1.out.below hX)
    clear hX S1 HPl1 k0 k1 k2 k3 k4 k5 k6 k7 y2
    cases hit with
    | true =>
      have hr := HR2.out
      rw [if_pos rfl] at hr
      subst hr
      clear HR2 HWi HFi HLd
      have S3 := Lib.hid (FIN.out _ S2.out)
      clear S2 FIN
      go_wp2_with fail
      go_returns
      exact ⟨.slice none 0 0, rfl, [], rfl, S3.out⟩
    | false =>
      have hr := HR2.out
      rw [if_neg (by decide)] at hr
      have HR3 := Lib.hid hr
      clear HR2 hr
      have S3 := Lib.hid S2.out.drew
      go_upto_region 7 with fail
      clear S2
      have FC : Hid (∀ W, Own w0 No W (Asn.blk g8 100 #[.int .i64 x.pg, .int .i64 x.nd.tree, .int .i64 x.nd.level, .int .i64 x.nd.stamp, .bool x.nd.has, .string (ofL x.nd.high), .int .i64 x.nd.right, .slice A x.nd.list.length c] * (aEnts x.nd (.slice A x.nd.list.length c) * (aSf gs S V * (Asn.blk g5 80 #[.int .i64 t0, .int .i64 lv, .string (ofL key), .int .i64 page] * C)))) → ((W.cell? ⟨g8, 0, none⟩ = some (.int .i64 x.pg) ∧ W.cell? ⟨g8, 1, none⟩ = some (.int .i64 x.nd.tree) ∧ W.cell? ⟨g8, 2, none⟩ = some (.int .i64 x.nd.level) ∧ W.cell? ⟨g8, 3, none⟩ = some (.int .i64 x.nd.stamp) ∧ W.cell? ⟨g8, 4, none⟩ = some (.bool x.nd.has) ∧ W.cell? ⟨g8, 5, none⟩ = some (.string (ofL x.nd.high)) ∧ W.cell? ⟨g8, 6, none⟩ = some (.int .i64 x.nd.right) ∧ W.cell? ⟨g8, 7, none⟩ = some (.slice A x.nd.list.length c)) ∧ W.cell? ⟨g5, 2, none⟩ = some (.string (ofL key)) ∧ W.cell? ⟨g5, 3, none⟩ = some (.int .i64 page))) := Lib.hid fun W h => by
        have hb := h.has (Has.r (Has.r (Has.r (Has.l (has_blk g5 _ _)))))
        exact ⟨eight_of (h.has (Has.l (has_blk _ _ _))), hb.cell 2, hb.cell 3⟩
      have HW2 : Hid (∀ W, Own w0 No W (Asn.blk g8 100 #[.int .i64 x.pg, .int .i64 x.nd.tree, .int .i64 x.nd.level, .int .i64 x.nd.stamp, .bool x.nd.has, .string (ofL x.nd.high), .int .i64 x.nd.right, .slice A x.nd.list.length c] * (aEnts x.nd (.slice A x.nd.list.length c) * (aSf gs S V * (Asn.blk g5 80 #[.int .i64 t0, .int .i64 lv, .string (ofL key), .int .i64 page] * C)))) → _) := Lib.hid fun W h => HWi.out (.slice A x.nd.list.length c) W (Row3.of_vec (show Own w0 No W (Asn.vec 44 3 (.slice A x.nd.list.length c) x.nd.list.length (cells3 x.nd.list) * _) from h.right).vec)
      unfold nodCells at HW2
      have tA := FC.out _ S3.out
      go_cut [12] (fun s12 wx => ∃ (g12 : Nat) (A4 : Option Addr) (c4 : Nat), s12 = .pointer (some ⟨g12, 0, none⟩) ∧ Hid (Own w0 No wx (Asn.blk g12 52 #[.int .i64 n.tree, .int .i64 n.level, .int .i64 n.stamp, .bool n.has, .string (ofL n.high), .int .i64 n.right, .slice A4 n.list.length c4] * (aEnts n (.slice A4 n.list.length c4) * (Asn.blk g8 100 #[.int .i64 x.pg, .int .i64 x.nd.tree, .int .i64 x.nd.level, .int .i64 x.nd.stamp, .bool x.nd.has, .string (ofL x.nd.high), .int .i64 x.nd.right, .slice A x.nd.list.length c] * (aEnts x.nd (.slice A x.nd.list.length c) * (aSf gs S V * (Asn.blk g5 80 #[.int .i64 t0, .int .i64 lv, .string (ofL key), .int .i64 page] * C))))))))
      case first =>
        refine wp_region_held_drew (S := fun W : World => (W.cell? ⟨g8, 0, none⟩ = some (.int .i64 x.pg) ∧ W.cell? ⟨g8, 1, none⟩ = some (.int .i64 x.nd.tree) ∧ W.cell? ⟨g8, 2, none⟩ = some (.int .i64 x.nd.level) ∧ W.cell? ⟨g8, 3, none⟩ = some (.int .i64 x.nd.stamp) ∧ W.cell? ⟨g8, 4, none⟩ = some (.bool x.nd.has) ∧ W.cell? ⟨g8, 5, none⟩ = some (.string (ofL x.nd.high)) ∧ W.cell? ⟨g8, 6, none⟩ = some (.int .i64 x.nd.right) ∧ W.cell? ⟨g8, 7, none⟩ = some (.slice A x.nd.list.length c)) ∧ W.cell? ⟨g5, 2, none⟩ = some (.string (ofL key)) ∧ W.cell? ⟨g5, 3, none⟩ = some (.int .i64 page)) (by kernel_rfl) tA (fun hHeld => ?_)
        generalize w4.drew = w4d at *
        refine' wpAnyH_take (i := 0) (oi := ?ohz0) (v := ?vhz0) ?hhz0 ?shz0 ?fhz0 ?zhz0 ?qhz0 ?yhz0 ?ahz0 ?rhz0
        case hhz0 => (simp only [List.getElem?_toArray, List.getElem?_cons_succ, List.getElem?_cons_zero]; rfl)
        case shz0 => kernel_rfl
        case fhz0 => kernel_rfl
        case zhz0 => kernel_rfl
        case qhz0 => exact fun _ _ _ h => h
        case yhz0 => (refine Or.inl ⟨rfl, ?_⟩; intro w hSw; (try dsimp only at hSw); go_simp; try with_reducible rfl)
        case ahz0 => assumption
        case rhz0 =>
        simp only [Act.put, List.setIfInBounds_toArray, List.set_cons_zero, List.set_cons_succ]
        refine' wpAnyH_take (i := 1) (oi := ?ohz1) (v := ?vhz1) ?hhz1 ?shz1 ?fhz1 ?zhz1 ?qhz1 ?yhz1 ?ahz1 ?rhz1
        case hhz1 => (simp only [List.getElem?_toArray, List.getElem?_cons_succ, List.getElem?_cons_zero]; rfl)
        case shz1 => kernel_rfl
        case fhz1 => kernel_rfl
        case zhz1 => kernel_rfl
        case qhz1 => exact fun _ _ _ h => h
        case yhz1 => (refine Or.inl ⟨rfl, ?_⟩; intro w hSw; (try dsimp only at hSw); go_simp; try with_reducible rfl)
        case ahz1 => assumption
        case rhz1 =>
        simp only [Act.put, List.setIfInBounds_toArray, List.set_cons_zero, List.set_cons_succ]
        refine' wpAnyH_take (i := 2) (oi := ?ohz2) (v := ?vhz2) ?hhz2 ?shz2 ?fhz2 ?zhz2 ?qhz2 ?yhz2 ?ahz2 ?rhz2
        case hhz2 => (simp only [List.getElem?_toArray, List.getElem?_cons_succ, List.getElem?_cons_zero]; rfl)
        case shz2 => kernel_rfl
        case fhz2 => kernel_rfl
        case zhz2 => kernel_rfl
        case qhz2 => exact fun _ _ _ h => h
        case yhz2 => (refine Or.inl ⟨rfl, ?_⟩; intro w hSw; (try dsimp only at hSw); go_simp; try with_reducible rfl)
        case ahz2 => assumption
        case rhz2 =>
        simp only [Act.put, List.setIfInBounds_toArray, List.set_cons_zero, List.set_cons_succ]
        refine' wpAnyH_take (i := 3) (oi := ?ohz3) (v := ?vhz3) ?hhz3 ?shz3 ?fhz3 ?zhz3 ?qhz3 ?yhz3 ?ahz3 ?rhz3
        case hhz3 => (simp only [List.getElem?_toArray, List.getElem?_cons_succ, List.getElem?_cons_zero]; rfl)
        case shz3 => kernel_rfl
        case fhz3 => kernel_rfl
        case zhz3 => kernel_rfl
        case qhz3 => exact fun _ _ _ h => h
        case yhz3 => (refine Or.inl ⟨rfl, ?_⟩; intro w hSw; (try dsimp only at hSw); go_simp; try with_reducible rfl)
        case ahz3 => assumption
        case rhz3 =>
        simp only [Act.put, List.setIfInBounds_toArray, List.set_cons_zero, List.set_cons_succ]
        refine' wpAnyH_take (i := 4) (oi := ?ohz4) (v := ?vhz4) ?hhz4 ?shz4 ?fhz4 ?zhz4 ?qhz4 ?yhz4 ?ahz4 ?rhz4
        case hhz4 => (simp only [List.getElem?_toArray, List.getElem?_cons_succ, List.getElem?_cons_zero]; rfl)
        case shz4 => kernel_rfl
        case fhz4 => kernel_rfl
        case zhz4 => kernel_rfl
        case qhz4 => exact fun _ _ _ h => h
        case yhz4 => (refine Or.inl ⟨rfl, ?_⟩; intro w hSw; (try dsimp only at hSw); go_simp; try with_reducible rfl)
        case ahz4 => assumption
        case rhz4 =>
        simp only [Act.put, List.setIfInBounds_toArray, List.set_cons_zero, List.set_cons_succ]
        refine' wpAnyH_take (i := 5) (oi := ?ohz5) (v := ?vhz5) ?hhz5 ?shz5 ?fhz5 ?zhz5 ?qhz5 ?yhz5 ?ahz5 ?rhz5
        case hhz5 => (simp only [List.getElem?_toArray, List.getElem?_cons_succ, List.getElem?_cons_zero]; rfl)
        case shz5 => kernel_rfl
        case fhz5 => kernel_rfl
        case zhz5 => kernel_rfl
        case qhz5 => exact fun _ _ _ h => h
        case yhz5 => (refine Or.inl ⟨rfl, ?_⟩; intro w hSw; (try dsimp only at hSw); go_simp; try with_reducible rfl)
        case ahz5 => assumption
        case rhz5 =>
        simp only [Act.put, List.setIfInBounds_toArray, List.set_cons_zero, List.set_cons_succ]
        refine wpAnyH_ready (rs := [6, 8]) (by kernel_rfl) (by simp) ?_
        refine' AllReadyH.cons (o := ?oa6) ?ha6 ?ka6 ?ma6
        case ha6 => (simp only [List.getElem?_toArray, List.getElem?_cons_succ, List.getElem?_cons_zero]; rfl)
        case ka6 =>
          intro K0 hK
          go_simp
          go_at_call 57
          refine (HLd.out _).mono ?_
          rintro e1 vSA ⟨rfl, hX⟩
          have SA := Lib.hid (S3.out.below hX)
          clear hX
          refine hK.out _ _ ?_ (fun hHeld => ?_)
          · exact FC.out _ SA.out
          clear hK K0
          (try simp only [Act.put, List.setIfInBounds_toArray, List.set_cons_zero, List.set_cons_succ])
          refine wpAnyH_ready (rs := [7, 8]) (by kernel_rfl) (by simp) ?_
          refine' AllReadyH.cons (o := ?ob7) ?hb7 ?kb7 ?mb7
          case hb7 => (simp only [List.getElem?_toArray, List.getElem?_cons_succ, List.getElem?_cons_zero]; rfl)
          case kb7 =>
            intro K0 hK
            go_simp
            go_at_call 52
            refine (HW2.out _ SA.out).mono ?_
            rintro e2 vSB ⟨p4, rfl, hX⟩
            have T := own_join SA.out hX
            obtain ⟨A4, c4, rfl⟩ := (show Own w0 No vSB (Asn.vec 44 3 p4 n.list.length (cells3 n.list) * _) from T).vec.slice
            have SB := Lib.hid (T)
            clear hX T
            refine hK.out _ _ ?_ (fun hHeld => ?_)
            · exact FC.out _ SB.out.right
            clear hK K0
            (try simp only [Act.put, List.setIfInBounds_toArray, List.set_cons_zero, List.set_cons_succ])
            refine wpAnyH_ready (rs := [8]) (by kernel_rfl) (by simp) ?_
            refine' AllReadyH.cons (o := ?oc8) ?hc8 ?kc8 AllReadyH.nil
            case hc8 => (simp only [List.getElem?_toArray, List.getElem?_cons_succ, List.getElem?_cons_zero]; rfl)
            case kc8 =>
              intro K0 hK
              go_simp
              have SC := Lib.hid (SB.out.alloc #[.int .i64 0, .int .i64 0, .int .i64 0, .bool false, .string ⟨#[]⟩, .int .i64 0, .slice none 0 0] 52)
              obtain ⟨g12, hgz⟩ : ∃ g, g = vSB.heap.size := ⟨_, rfl⟩
              rw [← hgz] at SC ⊢
              clear hgz
              generalize vSB.alloc _ = vSC at *
              refine hK.out _ _ ?_ (fun hHeld => ?_)
              · exact FC.out _ SC.out.right.right
              clear hK K0
              (try simp only [Act.put, List.setIfInBounds_toArray, List.set_cons_zero, List.set_cons_succ])
              refine wpAnyH_ready (rs := [9]) (by kernel_rfl) (by simp) ?_
              refine' AllReadyH.cons (o := ?od9) ?hd9 ?kd9 AllReadyH.nil
              case hd9 => (simp only [List.getElem?_toArray, List.getElem?_cons_succ, List.getElem?_cons_zero]; rfl)
              case kd9 =>
                intro K0 hK
                have HST := Lib.hid (store7 (SC.out.has (Has.l (has_blk _ _ _))) n.tree n.level n.stamp n.right n.has (ofL n.high) A4 n.list.length c4)
                have SD := Lib.hid (own_7 SC.out (.int .i64 n.tree) (.int .i64 n.level) (.int .i64 n.stamp) (.bool n.has) (.string (ofL n.high)) (.int .i64 n.right) (.slice A4 n.list.length c4))
                refine step_store_w rfl rfl (.tmp 12) (.tmp 42) 52 rfl (.pointer (some ⟨g12, 0, none⟩)) (.agg #[.int .i64 n.tree, .int .i64 n.level, .int .i64 n.stamp, .bool n.has, .string (ofL n.high), .int .i64 n.right, .slice A4 n.list.length c4]) rfl rfl _ HST.out ?_
                refine hK.out _ _ ?_ (fun hHeld => ?_)
                · exact FC.out _ SD.out.right.right
                clear hK K0
                (try simp only [Act.put, List.setIfInBounds_toArray, List.set_cons_zero, List.set_cons_succ])
                refine wpAnyH_done (by kernel_rfl) ?_ _
                go_wp2_with fail
                go_meet
                case rel => exact ⟨g12, A4, c4, rfl, SD⟩
          case mb7 =>
          refine' AllReadyH.cons (o := ?ob8) ?hb8 ?kb8 AllReadyH.nil
          case hb8 => (simp only [List.getElem?_toArray, List.getElem?_cons_succ, List.getElem?_cons_zero]; rfl)
          case kb8 =>
            intro K0 hK
            go_simp
            have SE := Lib.hid (SA.out.alloc #[.int .i64 0, .int .i64 0, .int .i64 0, .bool false, .string ⟨#[]⟩, .int .i64 0, .slice none 0 0] 52)
            obtain ⟨g12, hgz⟩ : ∃ g, g = vSA.heap.size := ⟨_, rfl⟩
            rw [← hgz] at SE ⊢
            clear hgz
            generalize vSA.alloc _ = vSE at *
            refine hK.out _ _ ?_ (fun hHeld => ?_)
            · exact FC.out _ SE.out.right
            clear hK K0
            (try simp only [Act.put, List.setIfInBounds_toArray, List.set_cons_zero, List.set_cons_succ])
            refine wpAnyH_ready (rs := [7]) (by kernel_rfl) (by simp) ?_
            refine' AllReadyH.cons (o := ?oe7) ?he7 ?ke7 AllReadyH.nil
            case he7 => (simp only [List.getElem?_toArray, List.getElem?_cons_succ, List.getElem?_cons_zero]; rfl)
            case ke7 =>
              intro K0 hK
              go_simp
              go_at_call 52
              refine (HW2.out _ SE.out.right).mono ?_
              rintro e2 vSF ⟨p4, rfl, hX⟩
              have T := own_join SE.out hX
              obtain ⟨A4, c4, rfl⟩ := (show Own w0 No vSF (Asn.vec 44 3 p4 n.list.length (cells3 n.list) * _) from T).vec.slice
              have SF := Lib.hid (T.re (show _ = Asn.blk g12 52 #[.int .i64 0, .int .i64 0, .int .i64 0, .bool false, .string ⟨#[]⟩, .int .i64 0, .slice none 0 0] * (aEnts n (.slice A4 n.list.length c4) * (Asn.blk g8 100 #[.int .i64 x.pg, .int .i64 x.nd.tree, .int .i64 x.nd.level, .int .i64 x.nd.stamp, .bool x.nd.has, .string (ofL x.nd.high), .int .i64 x.nd.right, .slice A x.nd.list.length c] * (aEnts x.nd (.slice A x.nd.list.length c) * (aSf gs S V * (Asn.blk g5 80 #[.int .i64 t0, .int .i64 lv, .string (ofL key), .int .i64 page] * C))))) by ac_rfl))
              clear hX T
              refine hK.out _ _ ?_ (fun hHeld => ?_)
              · exact FC.out _ SF.out.right.right
              clear hK K0
              (try simp only [Act.put, List.setIfInBounds_toArray, List.set_cons_zero, List.set_cons_succ])
              refine wpAnyH_ready (rs := [9]) (by kernel_rfl) (by simp) ?_
              refine' AllReadyH.cons (o := ?of9) ?hf9 ?kf9 AllReadyH.nil
              case hf9 => (simp only [List.getElem?_toArray, List.getElem?_cons_succ, List.getElem?_cons_zero]; rfl)
              case kf9 =>
                intro K0 hK
                have HST := Lib.hid (store7 (SF.out.has (Has.l (has_blk _ _ _))) n.tree n.level n.stamp n.right n.has (ofL n.high) A4 n.list.length c4)
                have SD := Lib.hid (own_7 SF.out (.int .i64 n.tree) (.int .i64 n.level) (.int .i64 n.stamp) (.bool n.has) (.string (ofL n.high)) (.int .i64 n.right) (.slice A4 n.list.length c4))
                refine step_store_w rfl rfl (.tmp 12) (.tmp 42) 52 rfl (.pointer (some ⟨g12, 0, none⟩)) (.agg #[.int .i64 n.tree, .int .i64 n.level, .int .i64 n.stamp, .bool n.has, .string (ofL n.high), .int .i64 n.right, .slice A4 n.list.length c4]) rfl rfl _ HST.out ?_
                refine hK.out _ _ ?_ (fun hHeld => ?_)
                · exact FC.out _ SD.out.right.right
                clear hK K0
                (try simp only [Act.put, List.setIfInBounds_toArray, List.set_cons_zero, List.set_cons_succ])
                refine wpAnyH_done (by kernel_rfl) ?_ _
                go_wp2_with fail
                go_meet
                case rel => exact ⟨g12, A4, c4, rfl, SD⟩
        case ma6 =>
        refine' AllReadyH.cons (o := ?oa8) ?ha8 ?ka8 AllReadyH.nil
        case ha8 => (simp only [List.getElem?_toArray, List.getElem?_cons_succ, List.getElem?_cons_zero]; rfl)
        case ka8 =>
          intro K0 hK
          go_simp
          have SG := Lib.hid (S3.out.alloc #[.int .i64 0, .int .i64 0, .int .i64 0, .bool false, .string ⟨#[]⟩, .int .i64 0, .slice none 0 0] 52)
          obtain ⟨g12, hgz⟩ : ∃ g, g = w4d.heap.size := ⟨_, rfl⟩
          rw [← hgz] at SG ⊢
          clear hgz
          generalize w4d.alloc _ = vSG at *
          refine hK.out _ _ ?_ (fun hHeld => ?_)
          · exact FC.out _ SG.out.right
          clear hK K0
          (try simp only [Act.put, List.setIfInBounds_toArray, List.set_cons_zero, List.set_cons_succ])
          refine wpAnyH_ready (rs := [6]) (by kernel_rfl) (by simp) ?_
          refine' AllReadyH.cons (o := ?og6) ?hg6 ?kg6 AllReadyH.nil
          case hg6 => (simp only [List.getElem?_toArray, List.getElem?_cons_succ, List.getElem?_cons_zero]; rfl)
          case kg6 =>
            intro K0 hK
            go_simp
            go_at_call 57
            refine (HLd.out _).mono ?_
            rintro e1 vSH ⟨rfl, hX⟩
            have SH := Lib.hid (SG.out.below hX)
            clear hX
            refine hK.out _ _ ?_ (fun hHeld => ?_)
            · exact FC.out _ SH.out.right
            clear hK K0
            (try simp only [Act.put, List.setIfInBounds_toArray, List.set_cons_zero, List.set_cons_succ])
            refine wpAnyH_ready (rs := [7]) (by kernel_rfl) (by simp) ?_
            refine' AllReadyH.cons (o := ?oh7) ?hh7 ?kh7 AllReadyH.nil
            case hh7 => (simp only [List.getElem?_toArray, List.getElem?_cons_succ, List.getElem?_cons_zero]; rfl)
            case kh7 =>
              intro K0 hK
              go_simp
              go_at_call 52
              refine (HW2.out _ SH.out.right).mono ?_
              rintro e2 vSI ⟨p4, rfl, hX⟩
              have T := own_join SH.out hX
              obtain ⟨A4, c4, rfl⟩ := (show Own w0 No vSI (Asn.vec 44 3 p4 n.list.length (cells3 n.list) * _) from T).vec.slice
              have SI := Lib.hid (T.re (show _ = Asn.blk g12 52 #[.int .i64 0, .int .i64 0, .int .i64 0, .bool false, .string ⟨#[]⟩, .int .i64 0, .slice none 0 0] * (aEnts n (.slice A4 n.list.length c4) * (Asn.blk g8 100 #[.int .i64 x.pg, .int .i64 x.nd.tree, .int .i64 x.nd.level, .int .i64 x.nd.stamp, .bool x.nd.has, .string (ofL x.nd.high), .int .i64 x.nd.right, .slice A x.nd.list.length c] * (aEnts x.nd (.slice A x.nd.list.length c) * (aSf gs S V * (Asn.blk g5 80 #[.int .i64 t0, .int .i64 lv, .string (ofL key), .int .i64 page] * C))))) by ac_rfl))
              clear hX T
              refine hK.out _ _ ?_ (fun hHeld => ?_)
              · exact FC.out _ SI.out.right.right
              clear hK K0
              (try simp only [Act.put, List.setIfInBounds_toArray, List.set_cons_zero, List.set_cons_succ])
              refine wpAnyH_ready (rs := [9]) (by kernel_rfl) (by simp) ?_
              refine' AllReadyH.cons (o := ?oi9) ?hi9 ?ki9 AllReadyH.nil
              case hi9 => (simp only [List.getElem?_toArray, List.getElem?_cons_succ, List.getElem?_cons_zero]; rfl)
              case ki9 =>
                intro K0 hK
                have HST := Lib.hid (store7 (SI.out.has (Has.l (has_blk _ _ _))) n.tree n.level n.stamp n.right n.has (ofL n.high) A4 n.list.length c4)
                have SD := Lib.hid (own_7 SI.out (.int .i64 n.tree) (.int .i64 n.level) (.int .i64 n.stamp) (.bool n.has) (.string (ofL n.high)) (.int .i64 n.right) (.slice A4 n.list.length c4))
                refine step_store_w rfl rfl (.tmp 12) (.tmp 42) 52 rfl (.pointer (some ⟨g12, 0, none⟩)) (.agg #[.int .i64 n.tree, .int .i64 n.level, .int .i64 n.stamp, .bool n.has, .string (ofL n.high), .int .i64 n.right, .slice A4 n.list.length c4]) rfl rfl _ HST.out ?_
                refine hK.out _ _ ?_ (fun hHeld => ?_)
                · exact FC.out _ SD.out.right.right
                clear hK K0
                (try simp only [Act.put, List.setIfInBounds_toArray, List.set_cons_zero, List.set_cons_succ])
                refine wpAnyH_done (by kernel_rfl) ?_ _
                go_wp2_with fail
                go_meet
                case rel => exact ⟨g12, A4, c4, rfl, SD⟩
      case rest =>
      clear S3 tA FC HW2
      obtain ⟨g12, A4, c4, rfl, S4⟩ := hcut
      obtain ⟨⟨c0, c1, c2, c3, c4', c5, c6⟩, -⟩ := seven7 (S4.out.has (Has.l (has_blk _ _ _)))
      have HFi1 := Lib.hid (HFi.out (.agg (nodCells n (.slice A4 n.list.length c4))) wc (ents_at S4.out.right.left))
      unfold nodCells at HFi1
      clear HFi
      cases hf : fitsB n with
      | false =>
        rw [hf] at HFi1 HR3
        have hr := HR3.out
        rw [if_neg (by decide)] at hr
        subst hr
        clear hf HR3
        go_wp2_with fail
        refine HFi1.out.mono ?_
        rintro rr w7 ⟨rfl, hX⟩
        have S5 := Lib.hid (FIN.out _ (S4.out.below hX).right.right)
        clear hX S4 FIN HFi1 c0 c1 c2 c3 c4' c5 c6
        go_wp2_with fail
        go_returns
        exact ⟨.slice none 0 0, rfl, [], rfl, S5.out⟩
      | true =>
        rw [hf] at HFi1 HR3
        have hr := HR3.out
        rw [if_pos rfl] at hr
        subst hr
        clear hf HR3 FIN
        go_wp2_with fail
        refine HFi1.out.mono ?_
        rintro rr w7 ⟨rfl, hX⟩
        have S5 := Lib.hid (S4.out.below hX)
        clear hX S4 HFi1 c0 c1 c2 c3 c4' c5 c6
        obtain ⟨⟨c0, c1, c2, c3, c4', c5, c6⟩, -⟩ := seven7 (S5.out.has (Has.l (has_blk _ _ _)))
        have k0 := (S5.out.has (Has.r (Has.r (Has.l (has_blk g8 _ _))))).cell 0
        have S6 := Lib.hid (S5.out.alloc #[.int .i64 x.pg, .int .i64 n.tree, .int .i64 n.level, .int .i64 n.stamp, .bool n.has, .string (ofL n.high), .int .i64 n.right, .slice A4 n.list.length c4] 73)
        clear S5
        go_wp2_with fail
        go_returns
        refine ⟨.slice (some ⟨w7.heap.size, 0, none⟩) 1 1, rfl, [⟨x.pg, n, .slice A4 n.list.length c4⟩], rfl, ?_⟩
        have h1 := S6.out.imp (Imp.l (blk_vec (cs := [.int .i64 x.pg, .int .i64 n.tree, .int .i64 n.level, .int .i64 n.stamp, .bool n.has, .string (ofL n.high), .int .i64 n.right, .slice A4 n.list.length c4]) 1 8 rfl (by unfold maxLen; omega)))
        exact (h1.re (show _ = (Asn.blk g12 52 #[.int .i64 n.tree, .int .i64 n.level, .int .i64 n.stamp, .bool n.has, .string (ofL n.high), .int .i64 n.right, .slice A4 n.list.length c4] * (Asn.blk g8 100 #[.int .i64 x.pg, .int .i64 x.nd.tree, .int .i64 x.nd.level, .int .i64 x.nd.stamp, .bool x.nd.has, .string (ofL x.nd.high), .int .i64 x.nd.right, .slice A x.nd.list.length c] * (aEnts x.nd (.slice A x.nd.list.length c) * Asn.blk g5 80 #[.int .i64 t0, .int .i64 lv, .string (ofL key), .int .i64 page]))) * (Asn.vec 73 8 (.slice (some ⟨w7.heap.size, 0, none⟩) 1 1) 1 (spL [⟨x.pg, n, .slice A4 n.list.length c4⟩]) * (aLs [⟨x.pg, n, .slice A4 n.list.length c4⟩] * (aSf gs S V * C))) by show _ = _ * (_ * ((aEnts n (.slice A4 n.list.length c4) * Asn.emp) * _)); rw [mul_emp, show spL [⟨x.pg, n, .slice A4 n.list.length c4⟩] = [.int .i64 x.pg, .int .i64 n.tree, .int .i64 n.level, .int .i64 n.stamp, .bool n.has, .string (ofL n.high), .int .i64 n.right, .slice A4 n.list.length c4] from rfl]; ac_rfl)).right
  · have he1 : (((x.err : Nat) : Int) == 0) = false := beq_eq_false_iff_ne.2 (by omega)
    have hr := HR.out
    rw [if_neg he] at hr
    subst hr
    clear HR HWi HFi HLd HPl he
    have S3 := Lib.hid (FIN.out _ S1.out)
    clear S1 FIN
    go_wp2_with fail
    go_returns
    exact ⟨.slice none 0 0, rfl, [], rfl, S3.out⟩
end
end Go.Proofs.Ythoaangmekkcmaa.Bk
