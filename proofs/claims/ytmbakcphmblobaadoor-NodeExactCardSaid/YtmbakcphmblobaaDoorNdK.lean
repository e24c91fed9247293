/- The law's own: awake. -/
import Derived.Test.YtmbakcphmblobaaDoorNdG
import Derived.Test.YtmbakcphmblobaaDoorNdH
import Derived.Test.YtmbakcphmblobaaDoorTab
import Derived.Deep.RegionHeld3
namespace Go.Proofs.YtmbakcphmblobaaDoor.Nd
open Go.ChangeShapes Go.WideShapes Go.ChangeAt Go.RowKit Go.PlainAid Aid Cr Nt
set_option linter.unusedVariables false
set_option linter.unusedSimpArgs false
theorem wpAnyH_weak {P : Program} {md : Region.Mode} {ops : Array Oper} {Q : Exit → Act → World → Prop} {S T : World → Prop} (hST : ∀ w, S w → T w) : ∀ (fuel : Nat) (listed : Array Bool) (a : Act) (w : World), wpAnyH P md ops Q S fuel listed a w → wpAnyH P md ops Q T fuel listed a w
  | 0, _, _, _, h => h
  | fuel + 1, listed, a, w, h => ⟨h.1, fun i hi => wpOp_mono (fun a' w' ⟨h1, h2⟩ => ⟨hST _ h1, wpAnyH_weak hST fuel _ _ _ h2⟩) (h.2 i hi)⟩
theorem none_fits : fitsB Nod.none = true := by decide +kernel
theorem none_page : page Nod.none = List.replicate 252 0 := by decide +kernel
theorem none_take : (bytes Nod.none).take 252 = List.replicate 252 0 := by
  rw [← none_page, ← page_len none_fits]; exact List.take_left
theorem read_nil : readN [] = none := unsealed_none [] rfl
theorem lead300 : numZ 2 300 = [44, 1] := by decide +kernel
theorem child300 : childL [44, 1] = 300 := by decide +kernel
theorem none_at (w : World) (A : Option Addr) (c : Nat) : NodAt w (.agg (nodCells Nod.none (.slice A 0 c))) Nod.none := ⟨_, rfl, A, c, rfl, Nat.zero_le _, Or.inl rfl⟩
theorem made_bytes (w : World) : Bytes (w.alloc (.cells (madeCells #[.int .u8 0] 252) 5)).drew w.heap.size (List.replicate 252 0) := by
  refine ⟨?_, fun i x hx => ?_, fun i _ => (Blk.new w _ _).free i⟩
  · show w.heap.size < (w.alloc _).heap.size
    simp
  · refine ((Blk.new w _ _).cell i).trans ?_
    rw [List.getElem?_replicate] at hx
    split at hx
    · rename_i hi
      cases hx
      simp [madeCells, hi, Nat.mod_one]
    · cases hx
set_option maxRecDepth 100000 in
set_option maxHeartbeats 8000000 in
theorem awake_any (w : World) (ht : Tab w) :
    Calls Tryd.prog 25 #[] w fun e w' => e = .returned (.bool true) ∧ Below w.heap.size w w' := by
  have E1 := Lib.hid (Bytes_fits Nod.none _ w (none_at w none 0) none_fits ht)
  have HT := Lib.hid ht
  have E2 := Lib.hid (fun w' ht => Read_own (bytes Nod.none) w' ht)
  rw [read_bytes Nod.none none_fits] at E2
  have E3 := Lib.hid (fun w' ht => Read_own [] w' ht)
  rw [read_nil] at E3
  have hz : (ofL (bytes Nod.none)).size = 256 := bytes_fits none_fits
  have hsl := slice_to (P := Tryd.prog) Tryd.underlying9 (ofL (bytes Nod.none)) 252 252 rfl (by omega)
  rw [ofL_take, none_take] at hsl
  have hmk : ∀ w : World, (Instr.makeSlice 82 (.int .i64 252) (.int .i64 252)).run Tryd.prog w = .ok (.slice (some ⟨w.heap.size, 0, Option.none⟩) 252 252) (w.alloc (.cells (madeCells #[.int .u8 0] 252) 5)) :=
    make_rows (P := Tryd.prog) 82 5 (.int .u8 0) 1 1 Tryd.underlying82 (by kernel_rfl) .i64 .i64 252 (by omega) (by omega)
  have HBN : Hid (∀ w : World, Hid (Bytes (w.alloc (.cells (madeCells #[.int .u8 0] 252) 5)).drew w.heap.size (List.replicate 252 0))) := Lib.hid fun w => Lib.hid (made_bytes w)
  have HZC0 : Hid (∀ (b : Nat) (W : World), Bytes W b (List.replicate 252 0) → (convert 82 9 (.slice (some ⟨b, 0, Option.none⟩) 252 252)).run Tryd.prog W = .ok (.string (ofL (List.replicate 252 0))) W) := Lib.hid fun b W h => h.conv (P := Tryd.prog) Tryd.underlying82 Tryd.underlying5 Tryd.underlying9 252 252 rfl
  have hzz : ((ofL (List.replicate 252 0)).toList == (ofL (List.replicate 252 0)).toList) = true := by rw [str_eq, decide_eq_true rfl]
  have E4 := Lib.hid (fun w A c => refSame_any Nod.none Nod.none _ _ w (none_at w A c) (none_at w none 0))
  rw [decide_eq_true rfl] at E4
  have E5 := Lib.hid (fun w => Lead_any ⟨#[0, 0, 0, 0, 0, 0, 0, 0, 0]⟩ 300 w)
  rw [lead300] at E5
  have E6 := Lib.hid (fun w => Child_any ⟨[0, 0, 0, 0, 0, 0, 0, 0, 0], [44, 1], false⟩ w)
  dsimp only at E6
  rw [child300] at E6
  have E7 := Lib.hid (fun w => Size_any Nod.none _ w (none_at w none 0) (by decide))
  rw [show sizeN Nod.none = 20 from rfl] at E7
  have hni : ofL ([] : By) = ⟨#[]⟩ := rfl
  rw [hni] at E3
  have ecells : ∀ v, nodCells Nod.none v = #[.int .i64 0, .int .i64 0, .int .i64 0, .bool false, .string ⟨#[]⟩, .int .i64 0, v] := fun _ => rfl
  generalize madeCells #[.int .u8 0] 252 = MC at *
  generalize ofL (List.replicate 252 0) = z at *
  generalize ofL (bytes Nod.none) = x at *
  simp only [ecells] at E1 E4 E7
  clear ht hni
  go_enter Tryd.func25, Tryd.ntmps25
  go_wp2_with fail
  refine E1.out.mono ?_
  rintro e w1 ⟨rfl, hb⟩
  have S1 := Lib.hid (Own.of_below hb)
  clear hb E1
  go_wp2_with fail
  refine (E2.out _ (Tab.own HT.out S1.out)).mono ?_
  rintro e w2 ⟨v, rfl, ho⟩
  obtain ⟨A1, m1, rfl⟩ := ho.addEmp.vec.slice
  have S2 := Lib.hid ((S1.out.below ho.bel).alloc (nodCells Nod.none (.slice A1 Nod.none.list.length m1)) 64).left
  clear ho S1 E2
  unfold rV rN
  dsimp only
  rw [ecells] at *
  have e7 : nodCells Nod.none (.slice A1 Nod.none.list.length m1) = #[.int .i64 0, .int .i64 0, .int .i64 0, .bool false, .string ⟨#[]⟩, .int .i64 0, .slice A1 0 m1] := rfl
  rw [e7] at *
  clear e7
  go_upto_region 3 with fail
  obtain ⟨g3, hgz⟩ : ∃ g, g = w2.heap.size := ⟨_, rfl⟩
  rw [← hgz] at S2 ⊢
  clear hgz
  generalize w2.alloc _ = w3 at *
  go_wp2_with fail
  refine (E3.out _ (Tab.own HT.out S2.out)).mono ?_
  rintro e w4 ⟨v, rfl, ho⟩
  obtain ⟨A2, m2, rfl⟩ := ho.addEmp.vec.slice
  have S3 := Lib.hid ((S2.out.below ho.bel).alloc (nodCells Nod.none (.slice A2 Nod.none.list.length m2)) 64).right
  clear ho S2 E3
  unfold rV rN
  dsimp only
  have e7 : nodCells Nod.none (.slice A2 Nod.none.list.length m2) = #[.int .i64 0, .int .i64 0, .int .i64 0, .bool false, .string ⟨#[]⟩, .int .i64 0, .slice A2 0 m2] := rfl
  rw [e7] at *
  clear e7
  have S4 : Hid (Own w No (w4.alloc (.cells #[.int .i64 0, .int .i64 0, .int .i64 0, .bool false, .string ⟨#[]⟩, .int .i64 0, .slice A2 0 m2] 64)) (Asn.blk g3 64 #[.int .i64 0, .int .i64 0, .int .i64 0, .bool false, .string ⟨#[]⟩, .int .i64 0, .slice A1 0 m1])) := S3
  clear S3
  go_upto_region 4 with fail
  generalize w4.alloc _ = w5 at *
  have HB0 := HBN.out w5
  have HZC := Lib.hid (HZC0.out w5.heap.size)
  have F : Hid (∀ W, Hid (Own w No W (Asn.blk g3 64 #[.int .i64 0, .int .i64 0, .int .i64 0, .bool false, .string ⟨#[]⟩, .int .i64 0, .slice A1 0 m1])) → W.cell? ⟨g3, 0, none⟩ = some (.int .i64 0) ∧ W.cell? ⟨g3, 1, none⟩ = some (.int .i64 0) ∧ W.cell? ⟨g3, 2, none⟩ = some (.int .i64 0) ∧ W.cell? ⟨g3, 3, none⟩ = some (.bool false) ∧ W.cell? ⟨g3, 4, none⟩ = some (.string ⟨#[]⟩) ∧ W.cell? ⟨g3, 5, none⟩ = some (.int .i64 0) ∧ W.cell? ⟨g3, 6, none⟩ = some (.slice A1 0 m1)) := Lib.hid fun W h => (seven (h.out.has (has_blk _ _ _))).1
  have G : Hid (∀ W cs T, Hid (Own w No W (Asn.blk g3 64 #[.int .i64 0, .int .i64 0, .int .i64 0, .bool false, .string ⟨#[]⟩, .int .i64 0, .slice A1 0 m1])) → Hid (Own w No (W.alloc (.cells cs T)) (Asn.blk g3 64 #[.int .i64 0, .int .i64 0, .int .i64 0, .bool false, .string ⟨#[]⟩, .int .i64 0, .slice A1 0 m1]))) := Lib.hid fun W cs T h => Lib.hid (h.out.alloc cs T).right
  have hown : ∀ W W', Below W.heap.size W W' → Hid (Own w No W (Asn.blk g3 64 #[.int .i64 0, .int .i64 0, .int .i64 0, .bool false, .string ⟨#[]⟩, .int .i64 0, .slice A1 0 m1])) → Hid (Own w No W' (Asn.blk g3 64 #[.int .i64 0, .int .i64 0, .int .i64 0, .bool false, .string ⟨#[]⟩, .int .i64 0, .slice A1 0 m1])) := fun W W' hb h => Lib.hid (h.out.below hb)
  have HO := Lib.hid hown
  clear hown
  have HKEEP : Hid (∀ W W', Below W.heap.size W W' → (fun W => Hid (Bytes W w5.heap.size (List.replicate 252 0)) ∧ ((convert 82 9 (.slice (some ⟨w5.heap.size, 0, none⟩) 252 252)).run Tryd.prog W = .ok (.string z) W) ∧ (W.cell? ⟨g3, 0, none⟩ = some (.int .i64 0) ∧ W.cell? ⟨g3, 1, none⟩ = some (.int .i64 0) ∧ W.cell? ⟨g3, 2, none⟩ = some (.int .i64 0) ∧ W.cell? ⟨g3, 3, none⟩ = some (.bool false) ∧ W.cell? ⟨g3, 4, none⟩ = some (.string ⟨#[]⟩) ∧ W.cell? ⟨g3, 5, none⟩ = some (.int .i64 0) ∧ W.cell? ⟨g3, 6, none⟩ = some (.slice A1 0 m1)) ∧ Hid (Own w No W (Asn.blk g3 64 #[.int .i64 0, .int .i64 0, .int .i64 0, .bool false, .string ⟨#[]⟩, .int .i64 0, .slice A1 0 m1]))) W → (fun W => Hid (Bytes W w5.heap.size (List.replicate 252 0)) ∧ ((convert 82 9 (.slice (some ⟨w5.heap.size, 0, none⟩) 252 252)).run Tryd.prog W = .ok (.string z) W) ∧ (W.cell? ⟨g3, 0, none⟩ = some (.int .i64 0) ∧ W.cell? ⟨g3, 1, none⟩ = some (.int .i64 0) ∧ W.cell? ⟨g3, 2, none⟩ = some (.int .i64 0) ∧ W.cell? ⟨g3, 3, none⟩ = some (.bool false) ∧ W.cell? ⟨g3, 4, none⟩ = some (.string ⟨#[]⟩) ∧ W.cell? ⟨g3, 5, none⟩ = some (.int .i64 0) ∧ W.cell? ⟨g3, 6, none⟩ = some (.slice A1 0 m1)) ∧ Hid (Own w No W (Asn.blk g3 64 #[.int .i64 0, .int .i64 0, .int .i64 0, .bool false, .string ⟨#[]⟩, .int .i64 0, .slice A1 0 m1]))) W') := Lib.hid fun W W' hb h => ⟨Lib.hid (h.1.out.keep hb), HZC.out _ (h.1.out.keep hb), F.out _ (HO.out _ _ hb h.2.2.2), HO.out _ _ hb h.2.2.2⟩
  have SM := G.out _ MC 5 (Lib.hid S4.out.drew)
  have tm := F.out _ SM
  refine wp_region_held_drew (S := fun W => Hid (Own w No W (Asn.blk g3 64 #[.int .i64 0, .int .i64 0, .int .i64 0, .bool false, .string ⟨#[]⟩, .int .i64 0, .slice A1 0 m1]))) (by kernel_rfl) (Lib.hid S4.out.drew) (fun hHeld => ?_)
  refine' wpAnyH_take (i := 0) (oi := ?o0) (v := ?v0) ?h0 ?s0 ?f0 ?z0 ?q0 ?y0 ?a0 ?r0
  case h0 => (simp only [List.getElem?_toArray, List.getElem?_cons_succ, List.getElem?_cons_zero]; rfl)
  case s0 => kernel_rfl
  case f0 => kernel_rfl
  case z0 => kernel_rfl
  case q0 => exact fun _ _ _ h => h
  case y0 => (refine Or.inl ⟨rfl, ?_⟩; intro w hSw; (try dsimp only at hSw); go_simp; try with_reducible rfl)
  case a0 => assumption
  case r0 =>
  simp only [Act.put, List.setIfInBounds_toArray, List.set_cons_zero, List.set_cons_succ]
  refine' wpAnyH_take (i := 1) (oi := ?o1) (v := ?v1) ?h1 ?s1 ?f1 ?z1 ?q1 ?y1 ?a1 ?r1
  case h1 => (simp only [List.getElem?_toArray, List.getElem?_cons_succ, List.getElem?_cons_zero]; rfl)
  case s1 => kernel_rfl
  case f1 => kernel_rfl
  case z1 => kernel_rfl
  case q1 => exact fun _ _ _ h => h
  case y1 => (refine Or.inl ⟨rfl, ?_⟩; intro w hSw; (try dsimp only at hSw); go_simp; try with_reducible rfl)
  case a1 => assumption
  case r1 =>
  simp only [Act.put, List.setIfInBounds_toArray, List.set_cons_zero, List.set_cons_succ]
  refine' wpAnyH_take (i := 2) (oi := ?o2) (v := ?v2) ?h2 ?s2 ?f2 ?z2 ?q2 ?y2 ?a2 ?r2
  case h2 => (simp only [List.getElem?_toArray, List.getElem?_cons_succ, List.getElem?_cons_zero]; rfl)
  case s2 => kernel_rfl
  case f2 => kernel_rfl
  case z2 => kernel_rfl
  case q2 => exact fun _ _ _ h => h
  case y2 => (refine Or.inl ⟨rfl, ?_⟩; intro w hSw; (try dsimp only at hSw); go_simp; try with_reducible rfl)
  case a2 => assumption
  case r2 =>
  simp only [Act.put, List.setIfInBounds_toArray, List.set_cons_zero, List.set_cons_succ]
  refine' wpAnyH_take (i := 3) (oi := ?o3) (v := ?v3) ?h3 ?s3 ?f3 ?z3 ?q3 ?y3 ?a3 ?r3
  case h3 => (simp only [List.getElem?_toArray, List.getElem?_cons_succ, List.getElem?_cons_zero]; rfl)
  case s3 => kernel_rfl
  case f3 => kernel_rfl
  case z3 => kernel_rfl
  case q3 => exact fun _ _ _ h => h
  case y3 => (refine Or.inl ⟨rfl, ?_⟩; intro w hSw; (try dsimp only at hSw); go_simp; try with_reducible rfl)
  case a3 => assumption
  case r3 =>
  simp only [Act.put, List.setIfInBounds_toArray, List.set_cons_zero, List.set_cons_succ]
  refine' wpAnyH_take (i := 4) (oi := ?o4) (v := ?v4) ?h4 ?s4 ?f4 ?z4 ?q4 ?y4 ?a4 ?r4
  case h4 => (simp only [List.getElem?_toArray, List.getElem?_cons_succ, List.getElem?_cons_zero]; rfl)
  case s4 => kernel_rfl
  case f4 => kernel_rfl
  case z4 => kernel_rfl
  case q4 => exact fun _ _ _ h => h
  case y4 => (refine Or.inl ⟨rfl, ?_⟩; intro w hSw; (try dsimp only at hSw); go_simp; try with_reducible rfl)
  case a4 => assumption
  case r4 =>
  simp only [Act.put, List.setIfInBounds_toArray, List.set_cons_zero, List.set_cons_succ]
  refine' wpAnyH_take (i := 5) (oi := ?o5) (v := ?v5) ?h5 ?s5 ?f5 ?z5 ?q5 ?y5 ?a5 ?r5
  case h5 => (simp only [List.getElem?_toArray, List.getElem?_cons_succ, List.getElem?_cons_zero]; rfl)
  case s5 => kernel_rfl
  case f5 => kernel_rfl
  case z5 => kernel_rfl
  case q5 => exact fun _ _ _ h => h
  case y5 => (refine Or.inl ⟨rfl, ?_⟩; intro w hSw; (try dsimp only at hSw); go_simp; try with_reducible rfl)
  case a5 => assumption
  case r5 =>
  simp only [Act.put, List.setIfInBounds_toArray, List.set_cons_zero, List.set_cons_succ]
  refine' wpAnyH_take (i := 6) (oi := ?o6) (v := ?v6) ?h6 ?s6 ?f6 ?z6 ?q6 ?y6 ?a6 ?r6
  case h6 => (simp only [List.getElem?_toArray, List.getElem?_cons_succ, List.getElem?_cons_zero]; rfl)
  case s6 => kernel_rfl
  case f6 => kernel_rfl
  case z6 => kernel_rfl
  case q6 => exact fun _ _ _ h => h
  case y6 => (refine Or.inl ⟨rfl, ?_⟩; intro w hSw; (try dsimp only at hSw); go_simp; try with_reducible rfl)
  case a6 => assumption
  case r6 =>
  simp only [Act.put, List.setIfInBounds_toArray, List.set_cons_zero, List.set_cons_succ]
  refine' wpAnyH_take (i := 7) (oi := ?o7) (v := ?v7) ?h7 ?s7 ?f7 ?z7 ?q7 ?y7 ?a7 ?r7
  case h7 => (simp only [List.getElem?_toArray, List.getElem?_cons_succ, List.getElem?_cons_zero]; rfl)
  case s7 => kernel_rfl
  case f7 => kernel_rfl
  case z7 => kernel_rfl
  case q7 => exact fun _ _ _ h => h
  case y7 => (refine Or.inl ⟨rfl, ?_⟩; intro w hSw; (try dsimp only at hSw); go_simp; try with_reducible rfl)
  case a7 => assumption
  case r7 =>
  simp only [Act.put, List.setIfInBounds_toArray, List.set_cons_zero, List.set_cons_succ]
  refine' wpAnyH_take (i := 8) (oi := ?o8) (v := ?v8) ?h8 ?s8 ?f8 ?z8 ?q8 ?y8 ?a8 ?r8
  case h8 => (simp only [List.getElem?_toArray, List.getElem?_cons_succ, List.getElem?_cons_zero]; rfl)
  case s8 => kernel_rfl
  case f8 => kernel_rfl
  case z8 => kernel_rfl
  case q8 => exact fun _ _ _ h => h
  case y8 => (refine Or.inl ⟨rfl, ?_⟩; intro w hSw; (try dsimp only at hSw); go_simp; try with_reducible rfl)
  case a8 => assumption
  case r8 =>
  simp only [Act.put, List.setIfInBounds_toArray, List.set_cons_zero, List.set_cons_succ]
  refine' wpAnyH_take (i := 9) (oi := ?o9) (v := ?v9) ?h9 ?s9 ?f9 ?z9 ?q9 ?y9 ?a9 ?r9
  case h9 => (simp only [List.getElem?_toArray, List.getElem?_cons_succ, List.getElem?_cons_zero]; rfl)
  case s9 => kernel_rfl
  case f9 => kernel_rfl
  case z9 => kernel_rfl
  case q9 => exact fun _ _ _ h => h
  case y9 => (refine Or.inl ⟨rfl, ?_⟩; intro w hSw; (try dsimp only at hSw); go_simp; try with_reducible rfl)
  case a9 => assumption
  case r9 =>
  simp only [Act.put, List.setIfInBounds_toArray, List.set_cons_zero, List.set_cons_succ]
  refine wpAnyH_ready (rs := [10]) (by kernel_rfl) (by simp) ?_
  refine' AllReadyH.cons (o := ?o10) ?h10 ?k10 AllReadyH.nil
  case h10 => (simp only [List.getElem?_toArray, List.getElem?_cons_succ, List.getElem?_cons_zero]; rfl)
  case k10 =>
  intro K hK
  go_simp
  refine hK.out _ _ ?_ (fun hHeld => ?_)
  · exact SM
  clear hK K
  (try simp only [Act.put, List.setIfInBounds_toArray, List.set_cons_zero, List.set_cons_succ])
  refine wpAnyH_weak (S := fun W => Hid (Bytes W w5.heap.size (List.replicate 252 0)) ∧ ((convert 82 9 (.slice (some ⟨w5.heap.size, 0, none⟩) 252 252)).run Tryd.prog W = .ok (.string z) W) ∧ (W.cell? ⟨g3, 0, none⟩ = some (.int .i64 0) ∧ W.cell? ⟨g3, 1, none⟩ = some (.int .i64 0) ∧ W.cell? ⟨g3, 2, none⟩ = some (.int .i64 0) ∧ W.cell? ⟨g3, 3, none⟩ = some (.bool false) ∧ W.cell? ⟨g3, 4, none⟩ = some (.string ⟨#[]⟩) ∧ W.cell? ⟨g3, 5, none⟩ = some (.int .i64 0) ∧ W.cell? ⟨g3, 6, none⟩ = some (.slice A1 0 m1)) ∧ Hid (Own w No W (Asn.blk g3 64 #[.int .i64 0, .int .i64 0, .int .i64 0, .bool false, .string ⟨#[]⟩, .int .i64 0, .slice A1 0 m1]))) (fun _ h => h.2.2.2) _ _ _ _ ?_
  have HX : (fun W => Hid (Bytes W w5.heap.size (List.replicate 252 0)) ∧ ((convert 82 9 (.slice (some ⟨w5.heap.size, 0, none⟩) 252 252)).run Tryd.prog W = .ok (.string z) W) ∧ (W.cell? ⟨g3, 0, none⟩ = some (.int .i64 0) ∧ W.cell? ⟨g3, 1, none⟩ = some (.int .i64 0) ∧ W.cell? ⟨g3, 2, none⟩ = some (.int .i64 0) ∧ W.cell? ⟨g3, 3, none⟩ = some (.bool false) ∧ W.cell? ⟨g3, 4, none⟩ = some (.string ⟨#[]⟩) ∧ W.cell? ⟨g3, 5, none⟩ = some (.int .i64 0) ∧ W.cell? ⟨g3, 6, none⟩ = some (.slice A1 0 m1)) ∧ Hid (Own w No W (Asn.blk g3 64 #[.int .i64 0, .int .i64 0, .int .i64 0, .bool false, .string ⟨#[]⟩, .int .i64 0, .slice A1 0 m1]))) (w5.alloc (.cells MC 5)).drew := ⟨HB0, HZC.out _ HB0.out, tm, SM⟩
  dsimp only at HX
  clear hHeld
  refine' wpAnyH_take (i := 11) (oi := ?o11) (v := ?v11) ?h11 ?s11 ?f11 ?z11 ?q11 ?y11 ?a11 ?r11
  case h11 => (simp only [List.getElem?_toArray, List.getElem?_cons_succ, List.getElem?_cons_zero]; rfl)
  case s11 => kernel_rfl
  case f11 => kernel_rfl
  case z11 => kernel_rfl
  case q11 => exact fun _ _ _ h => h
  case y11 => (refine Or.inl ⟨rfl, ?_⟩; intro w hSw; (try dsimp only at hSw); go_simp; try with_reducible rfl)
  case a11 => assumption
  case r11 =>
  simp only [Act.put, List.setIfInBounds_toArray, List.set_cons_zero, List.set_cons_succ]
  refine' wpAnyH_take (i := 12) (oi := ?o12) (v := ?v12) ?h12 ?s12 ?f12 ?z12 ?q12 ?y12 ?a12 ?r12
  case h12 => (simp only [List.getElem?_toArray, List.getElem?_cons_succ, List.getElem?_cons_zero]; rfl)
  case s12 => kernel_rfl
  case f12 => kernel_rfl
  case z12 => kernel_rfl
  case q12 => exact fun _ _ _ h => h
  case y12 => (refine Or.inl ⟨rfl, ?_⟩; intro w hSw; (try dsimp only at hSw); go_simp; try with_reducible rfl)
  case a12 => assumption
  case r12 =>
  simp only [Act.put, List.setIfInBounds_toArray, List.set_cons_zero, List.set_cons_succ]
  refine' wpAnyH_take (i := 13) (oi := ?o13) (v := ?v13) ?h13 ?s13 ?f13 ?z13 ?q13 ?y13 ?a13 ?r13
  case h13 => (simp only [List.getElem?_toArray, List.getElem?_cons_succ, List.getElem?_cons_zero]; rfl)
  case s13 => kernel_rfl
  case f13 => kernel_rfl
  case z13 => kernel_rfl
  case q13 => exact fun _ _ _ h => h
  case y13 => (refine Or.inl ⟨rfl, ?_⟩; intro w hSw; (try dsimp only at hSw); go_simp; try with_reducible rfl)
  case a13 => assumption
  case r13 =>
  simp only [Act.put, List.setIfInBounds_toArray, List.set_cons_zero, List.set_cons_succ]
  refine' wpAnyH_take (i := 14) (oi := ?o14) (v := ?v14) ?h14 ?s14 ?f14 ?z14 ?q14 ?y14 ?a14 ?r14
  case h14 => (simp only [List.getElem?_toArray, List.getElem?_cons_succ, List.getElem?_cons_zero]; rfl)
  case s14 => kernel_rfl
  case f14 => kernel_rfl
  case z14 => kernel_rfl
  case q14 => exact fun _ _ _ h => h
  case y14 => (refine Or.inl ⟨rfl, ?_⟩; intro w hSw; (try dsimp only at hSw); go_simp; try with_reducible rfl)
  case a14 => assumption
  case r14 =>
  simp only [Act.put, List.setIfInBounds_toArray, List.set_cons_zero, List.set_cons_succ]
  refine' wpAnyH_take (i := 15) (oi := ?o15) (v := ?v15) ?h15 ?s15 ?f15 ?z15 ?q15 ?y15 ?a15 ?r15
  case h15 => (simp only [List.getElem?_toArray, List.getElem?_cons_succ, List.getElem?_cons_zero]; rfl)
  case s15 => kernel_rfl
  case f15 => kernel_rfl
  case z15 => kernel_rfl
  case q15 => exact fun _ _ _ h => h
  case y15 => (refine Or.inl ⟨rfl, ?_⟩; intro w hSw; (try dsimp only at hSw); go_simp; try with_reducible rfl)
  case a15 => assumption
  case r15 =>
  simp only [Act.put, List.setIfInBounds_toArray, List.set_cons_zero, List.set_cons_succ]
  refine' wpAnyH_take (i := 16) (oi := ?o16) (v := ?v16) ?h16 ?s16 ?f16 ?z16 ?q16 ?y16 ?a16 ?r16
  case h16 => (simp only [List.getElem?_toArray, List.getElem?_cons_succ, List.getElem?_cons_zero]; rfl)
  case s16 => kernel_rfl
  case f16 => kernel_rfl
  case z16 => kernel_rfl
  case q16 => exact fun _ _ _ h => h
  case y16 => (refine Or.inl ⟨rfl, ?_⟩; intro w hSw; (try dsimp only at hSw); go_simp; try with_reducible rfl)
  case a16 => assumption
  case r16 =>
  simp only [Act.put, List.setIfInBounds_toArray, List.set_cons_zero, List.set_cons_succ]
  refine' wpAnyH_take (i := 17) (oi := ?o17) (v := ?v17) ?h17 ?s17 ?f17 ?z17 ?q17 ?y17 ?a17 ?r17
  case h17 => (simp only [List.getElem?_toArray, List.getElem?_cons_succ, List.getElem?_cons_zero]; rfl)
  case s17 => kernel_rfl
  case f17 => kernel_rfl
  case z17 => kernel_rfl
  case q17 => exact fun _ _ _ h => h
  case y17 => (refine Or.inl ⟨rfl, ?_⟩; intro w hSw; (try dsimp only at hSw); go_simp; try with_reducible rfl)
  case a17 => assumption
  case r17 =>
  simp only [Act.put, List.setIfInBounds_toArray, List.set_cons_zero, List.set_cons_succ]
  refine' wpAnyH_take (i := 18) (oi := ?o18) (v := ?v18) ?h18 ?s18 ?f18 ?z18 ?q18 ?y18 ?a18 ?r18
  case h18 => (simp only [List.getElem?_toArray, List.getElem?_cons_succ, List.getElem?_cons_zero]; rfl)
  case s18 => kernel_rfl
  case f18 => kernel_rfl
  case z18 => kernel_rfl
  case q18 => exact fun _ _ _ h => h
  case y18 => (refine Or.inl ⟨rfl, ?_⟩; intro w hSw; (try dsimp only at hSw); go_simp; try with_reducible rfl)
  case a18 => assumption
  case r18 =>
  simp only [Act.put, List.setIfInBounds_toArray, List.set_cons_zero, List.set_cons_succ]
  refine' wpAnyH_take (i := 19) (oi := ?o19) (v := ?v19) ?h19 ?s19 ?f19 ?z19 ?q19 ?y19 ?a19 ?r19
  case h19 => (simp only [List.getElem?_toArray, List.getElem?_cons_succ, List.getElem?_cons_zero]; rfl)
  case s19 => kernel_rfl
  case f19 => kernel_rfl
  case z19 => kernel_rfl
  case q19 => exact fun _ _ _ h => h
  case y19 => (refine Or.inl ⟨rfl, ?_⟩; intro w hSw; (try dsimp only at hSw); go_simp; try with_reducible rfl)
  case a19 => assumption
  case r19 =>
  simp only [Act.put, List.setIfInBounds_toArray, List.set_cons_zero, List.set_cons_succ]
  refine' wpAnyH_take (i := 20) (oi := ?o20) (v := ?v20) ?h20 ?s20 ?f20 ?z20 ?q20 ?y20 ?a20 ?r20
  case h20 => (simp only [List.getElem?_toArray, List.getElem?_cons_succ, List.getElem?_cons_zero]; rfl)
  case s20 => kernel_rfl
  case f20 => kernel_rfl
  case z20 => kernel_rfl
  case q20 => exact fun _ _ _ h => h
  case y20 => (refine Or.inl ⟨rfl, ?_⟩; intro w hSw; (try dsimp only at hSw); go_simp; try with_reducible rfl)
  case a20 => assumption
  case r20 =>
  simp only [Act.put, List.setIfInBounds_toArray, List.set_cons_zero, List.set_cons_succ]
  refine wpAnyH_ready (rs := [21]) (by kernel_rfl) (by simp) ?_
  refine' AllReadyH.cons (o := ?o21) ?h21 ?k21 AllReadyH.nil
  case h21 => (simp only [List.getElem?_toArray, List.getElem?_cons_succ, List.getElem?_cons_zero]; rfl)
  case k21 =>
  intro K hK
  go_simp
  go_at_call 36
  refine (E4.out _ A1 m1).mono ?_
  rintro e w20 ⟨rfl, hb20⟩
  refine hK.out _ _ ?_ (fun hHeld => ?_)
  · exact HKEEP.out _ _ hb20 (by assumption)
  clear hK K
  (try simp only [Act.put, List.setIfInBounds_toArray, List.set_cons_zero, List.set_cons_succ])
  refine' wpAnyH_take (i := 22) (oi := ?o22) (v := ?v22) ?h22 ?s22 ?f22 ?z22 ?q22 ?y22 ?a22 ?r22
  case h22 => (simp only [List.getElem?_toArray, List.getElem?_cons_succ, List.getElem?_cons_zero]; rfl)
  case s22 => kernel_rfl
  case f22 => kernel_rfl
  case z22 => kernel_rfl
  case q22 => exact fun _ _ _ h => h
  case y22 => (refine Or.inl ⟨rfl, ?_⟩; intro w hSw; (try dsimp only at hSw); go_simp; try with_reducible rfl)
  case a22 => assumption
  case r22 =>
  simp only [Act.put, List.setIfInBounds_toArray, List.set_cons_zero, List.set_cons_succ]
  refine' wpAnyH_take (i := 23) (oi := ?o23) (v := ?v23) ?h23 ?s23 ?f23 ?z23 ?q23 ?y23 ?a23 ?r23
  case h23 => (simp only [List.getElem?_toArray, List.getElem?_cons_succ, List.getElem?_cons_zero]; rfl)
  case s23 => kernel_rfl
  case f23 => kernel_rfl
  case z23 => kernel_rfl
  case q23 => exact fun _ _ _ h => h
  case y23 => (refine Or.inl ⟨rfl, ?_⟩; intro w hSw; (try dsimp only at hSw); go_simp; try with_reducible rfl)
  case a23 => assumption
  case r23 =>
  simp only [Act.put, List.setIfInBounds_toArray, List.set_cons_zero, List.set_cons_succ]
  refine' wpAnyH_take (i := 24) (oi := ?o24) (v := ?v24) ?h24 ?s24 ?f24 ?z24 ?q24 ?y24 ?a24 ?r24
  case h24 => (simp only [List.getElem?_toArray, List.getElem?_cons_succ, List.getElem?_cons_zero]; rfl)
  case s24 => kernel_rfl
  case f24 => kernel_rfl
  case z24 => kernel_rfl
  case q24 => exact fun _ _ _ h => h
  case y24 => (refine Or.inl ⟨rfl, ?_⟩; intro w hSw; (try dsimp only at hSw); go_simp; try with_reducible rfl)
  case a24 => assumption
  case r24 =>
  simp only [Act.put, List.setIfInBounds_toArray, List.set_cons_zero, List.set_cons_succ]
  refine' wpAnyH_take (i := 25) (oi := ?o25) (v := ?v25) ?h25 ?s25 ?f25 ?z25 ?q25 ?y25 ?a25 ?r25
  case h25 => (simp only [List.getElem?_toArray, List.getElem?_cons_succ, List.getElem?_cons_zero]; rfl)
  case s25 => kernel_rfl
  case f25 => kernel_rfl
  case z25 => kernel_rfl
  case q25 => exact fun _ _ _ h => h
  case y25 => (refine Or.inl ⟨rfl, ?_⟩; intro w hSw; (try dsimp only at hSw); go_simp; try with_reducible rfl)
  case a25 => assumption
  case r25 =>
  simp only [Act.put, List.setIfInBounds_toArray, List.set_cons_zero, List.set_cons_succ]
  refine' wpAnyH_take (i := 26) (oi := ?o26) (v := ?v26) ?h26 ?s26 ?f26 ?z26 ?q26 ?y26 ?a26 ?r26
  case h26 => (simp only [List.getElem?_toArray, List.getElem?_cons_succ, List.getElem?_cons_zero]; rfl)
  case s26 => kernel_rfl
  case f26 => kernel_rfl
  case z26 => kernel_rfl
  case q26 => exact fun _ _ _ h => h
  case y26 => (refine Or.inl ⟨rfl, ?_⟩; intro w hSw; (try dsimp only at hSw); go_simp; try with_reducible rfl)
  case a26 => assumption
  case r26 =>
  simp only [Act.put, List.setIfInBounds_toArray, List.set_cons_zero, List.set_cons_succ]
  refine' wpAnyH_take (i := 27) (oi := ?o27) (v := ?v27) ?h27 ?s27 ?f27 ?z27 ?q27 ?y27 ?a27 ?r27
  case h27 => (simp only [List.getElem?_toArray, List.getElem?_cons_succ, List.getElem?_cons_zero]; rfl)
  case s27 => kernel_rfl
  case f27 => kernel_rfl
  case z27 => kernel_rfl
  case q27 => exact fun _ _ _ h => h
  case y27 => (refine Or.inl ⟨rfl, ?_⟩; intro w hSw; (try dsimp only at hSw); go_simp; try with_reducible rfl)
  case a27 => assumption
  case r27 =>
  simp only [Act.put, List.setIfInBounds_toArray, List.set_cons_zero, List.set_cons_succ]
  refine wpAnyH_ready (rs := [28]) (by kernel_rfl) (by simp) ?_
  refine' AllReadyH.cons (o := ?o28) ?h28 ?k28 AllReadyH.nil
  case h28 => (simp only [List.getElem?_toArray, List.getElem?_cons_succ, List.getElem?_cons_zero]; rfl)
  case k28 =>
  intro K hK
  go_simp
  go_at_call 54
  refine (E5.out _).mono ?_
  rintro e w21 ⟨rfl, hb21⟩
  refine hK.out _ _ ?_ (fun hHeld => ?_)
  · exact HKEEP.out _ _ hb21 (by assumption)
  clear hK K
  (try simp only [Act.put, List.setIfInBounds_toArray, List.set_cons_zero, List.set_cons_succ])
  refine wpAnyH_ready (rs := [29]) (by kernel_rfl) (by simp) ?_
  refine' AllReadyH.cons (o := ?o29) ?h29 ?k29 AllReadyH.nil
  case h29 => (simp only [List.getElem?_toArray, List.getElem?_cons_succ, List.getElem?_cons_zero]; rfl)
  case k29 =>
  intro K hK
  go_simp
  go_at_call 53
  refine (E6.out _).mono ?_
  rintro e w22 ⟨rfl, hb22⟩
  refine hK.out _ _ ?_ (fun hHeld => ?_)
  · exact HKEEP.out _ _ hb22 (by assumption)
  clear hK K
  (try simp only [Act.put, List.setIfInBounds_toArray, List.set_cons_zero, List.set_cons_succ])
  refine' wpAnyH_take (i := 30) (oi := ?o30) (v := ?v30) ?h30 ?s30 ?f30 ?z30 ?q30 ?y30 ?a30 ?r30
  case h30 => (simp only [List.getElem?_toArray, List.getElem?_cons_succ, List.getElem?_cons_zero]; rfl)
  case s30 => kernel_rfl
  case f30 => kernel_rfl
  case z30 => kernel_rfl
  case q30 => exact fun _ _ _ h => h
  case y30 => (refine Or.inl ⟨rfl, ?_⟩; intro w hSw; (try dsimp only at hSw); go_simp; try with_reducible rfl)
  case a30 => assumption
  case r30 =>
  simp only [Act.put, List.setIfInBounds_toArray, List.set_cons_zero, List.set_cons_succ]
  refine' wpAnyH_take (i := 31) (oi := ?o31) (v := ?v31) ?h31 ?s31 ?f31 ?z31 ?q31 ?y31 ?a31 ?r31
  case h31 => (simp only [List.getElem?_toArray, List.getElem?_cons_succ, List.getElem?_cons_zero]; rfl)
  case s31 => kernel_rfl
  case f31 => kernel_rfl
  case z31 => kernel_rfl
  case q31 => exact fun _ _ _ h => h
  case y31 => (refine Or.inl ⟨rfl, ?_⟩; intro w hSw; (try dsimp only at hSw); go_simp; try with_reducible rfl)
  case a31 => assumption
  case r31 =>
  simp only [Act.put, List.setIfInBounds_toArray, List.set_cons_zero, List.set_cons_succ]
  refine' wpAnyH_take (i := 32) (oi := ?o32) (v := ?v32) ?h32 ?s32 ?f32 ?z32 ?q32 ?y32 ?a32 ?r32
  case h32 => (simp only [List.getElem?_toArray, List.getElem?_cons_succ, List.getElem?_cons_zero]; rfl)
  case s32 => kernel_rfl
  case f32 => kernel_rfl
  case z32 => kernel_rfl
  case q32 => exact fun _ _ _ h => h
  case y32 => (refine Or.inl ⟨rfl, ?_⟩; intro w hSw; (try dsimp only at hSw); go_simp; try with_reducible rfl)
  case a32 => assumption
  case r32 =>
  simp only [Act.put, List.setIfInBounds_toArray, List.set_cons_zero, List.set_cons_succ]
  refine' wpAnyH_take (i := 33) (oi := ?o33) (v := ?v33) ?h33 ?s33 ?f33 ?z33 ?q33 ?y33 ?a33 ?r33
  case h33 => (simp only [List.getElem?_toArray, List.getElem?_cons_succ, List.getElem?_cons_zero]; rfl)
  case s33 => kernel_rfl
  case f33 => kernel_rfl
  case z33 => kernel_rfl
  case q33 => exact fun _ _ _ h => h
  case y33 => (refine Or.inl ⟨rfl, ?_⟩; intro w hSw; (try dsimp only at hSw); go_simp; try with_reducible rfl)
  case a33 => assumption
  case r33 =>
  simp only [Act.put, List.setIfInBounds_toArray, List.set_cons_zero, List.set_cons_succ]
  refine wpAnyH_ready (rs := [34]) (by kernel_rfl) (by simp) ?_
  refine' AllReadyH.cons (o := ?o34) ?h34 ?k34 AllReadyH.nil
  case h34 => (simp only [List.getElem?_toArray, List.getElem?_cons_succ, List.getElem?_cons_zero]; rfl)
  case k34 =>
  intro K hK
  go_simp
  go_at_call 32
  refine (E7.out _).mono ?_
  rintro e w23 ⟨rfl, hb23⟩
  refine hK.out _ _ ?_ (fun hHeld => ?_)
  · exact HKEEP.out _ _ hb23 (by assumption)
  clear hK K
  (try simp only [Act.put, List.setIfInBounds_toArray, List.set_cons_zero, List.set_cons_succ])
  refine' wpAnyH_take (i := 35) (oi := ?o35) (v := ?v35) ?h35 ?s35 ?f35 ?z35 ?q35 ?y35 ?a35 ?r35
  case h35 => (simp only [List.getElem?_toArray, List.getElem?_cons_succ, List.getElem?_cons_zero]; rfl)
  case s35 => kernel_rfl
  case f35 => kernel_rfl
  case z35 => kernel_rfl
  case q35 => exact fun _ _ _ h => h
  case y35 => (refine Or.inl ⟨rfl, ?_⟩; intro w hSw; (try dsimp only at hSw); go_simp; try with_reducible rfl)
  case a35 => assumption
  case r35 =>
  simp only [Act.put, List.setIfInBounds_toArray, List.set_cons_zero, List.set_cons_succ]
  refine' wpAnyH_take (i := 36) (oi := ?o36) (v := ?v36) ?h36 ?s36 ?f36 ?z36 ?q36 ?y36 ?a36 ?r36
  case h36 => (simp only [List.getElem?_toArray, List.getElem?_cons_succ, List.getElem?_cons_zero]; rfl)
  case s36 => kernel_rfl
  case f36 => kernel_rfl
  case z36 => kernel_rfl
  case q36 => exact fun _ _ _ h => h
  case y36 => (refine Or.inl ⟨rfl, ?_⟩; intro w hSw; (try dsimp only at hSw); go_simp; try with_reducible rfl)
  case a36 => assumption
  case r36 =>
  simp only [Act.put, List.setIfInBounds_toArray, List.set_cons_zero, List.set_cons_succ]
  refine' wpAnyH_take (i := 37) (oi := ?o37) (v := ?v37) ?h37 ?s37 ?f37 ?z37 ?q37 ?y37 ?a37 ?r37
  case h37 => (simp only [List.getElem?_toArray, List.getElem?_cons_succ, List.getElem?_cons_zero]; rfl)
  case s37 => kernel_rfl
  case f37 => kernel_rfl
  case z37 => kernel_rfl
  case q37 => exact fun _ _ _ h => h
  case y37 => (refine Or.inl ⟨rfl, ?_⟩; intro w hSw; (try dsimp only at hSw); go_simp; try with_reducible rfl)
  case a37 => assumption
  case r37 =>
  simp only [Act.put, List.setIfInBounds_toArray, List.set_cons_zero, List.set_cons_succ]
  refine wpAnyH_done (by kernel_rfl) ?_ _
  have sf := hHeld.2.2.2
  go_wp2_with fail
  go_returns
  exact ⟨rfl, sf.out.bel⟩
end Go.Proofs.YtmbakcphmblobaaDoor.Nd
