/- Hold. -/
import Derived.Test.YtikdjgholjealaaGreatDoorLkB
import Derived.Test.YtikdjgholjealaaGreatDoorStep
namespace Go.Proofs.YtikdjgholjealaaGreatDoor.Lk
open Go.ChangeShapes Go.WideShapes Go.ChangeAt Go.RowKit Go.PlainAid Aid Md
set_option linter.unusedVariables false
set_option linter.unusedSimpArgs false
def setH (H : List Hol) (id : Int) (name : By) (mode : Int) (nb : Nat) : List Hol := match holL H name with
  | some x => (x.1, x.2.1, setL x.2.2 id mode) :: offH H name
  | none => (name, nb, [(id, mode)]) :: H
section
variable {bb h l wt : Nat} {H : List Hol} {L : List Lin} {W : List Wan}
theorem eq_map (b : Nat) (W : World) : (binOp BinOp.eql 60 (.map (some b)) (.map none)).run Tryz.prog W = .ok (.bool false) W := by kernel_rfl
theorem eq_nomap (W : World) : (binOp BinOp.eql 60 (.map none) (.map none)).run Tryz.prog W = .ok (.bool true) W := by kernel_rfl
set_option maxRecDepth 100000 in
set_option maxHeartbeats 8000000 in
theorem hold_some (x : Hol) (id mode : Int) (name : By) (w0 w : World) (C : Asn) (hS : Own w0 No w (aBk bb h l wt H L W * C)) (hi : I64w id) (hn : name.length ≤ 1000) (hx : holL H name = some x) (hl : x.2.2.length ≤ 100000) :
    Calls Tryz.prog 24 #[bPtr bb, .int .i64 id, .agg #[.string (ofL name), .int .i64 mode]] w fun e w' => e = .returned (.tuple #[]) ∧ Own w0 No w' (aBk bb h l wt ((x.1, x.2.1, setL x.2.2 id mode) :: offH H name) L W * C) := by
  have S0 := Lib.hid (hS.alloc #[.string (ofL name), .int .i64 mode] 32)
  clear hS
  unfold bPtr
  go_enter Tryz.func24, Tryz.ntmps24
  go_upto_region 1 with fail
  obtain ⟨g5, hgz⟩ : ∃ g, g = w.heap.size := ⟨_, rfl⟩
  rw [← hgz] at S0 ⊢
  clear hgz
  generalize w.alloc _ = w1 at *
  have k := bk_of S0.out.right
  have e1 : ∀ q, (Instr.lookup 48 (.map (some h)) (.string (ofL name)) false).run Tryz.prog (w1.drewN q) = .ok (hV H name) (w1.drewN q) := fun q => (k.keepB (w' := w1.drewN q) ⟨rfl, rfl, rfl, Nat.le_refl _, fun _ _ => rfl⟩).look_h name hn
  have hv : hV H name = .map (some x.2.1) := by unfold hV; rw [hx]
  rw [hv] at e1
  have c0 : w1.cell? ⟨bb, 0, none⟩ = some (.map (some h)) := k.blk.cell 0
  obtain ⟨⟨d0, d1⟩, -⟩ := two_of (S0.out.has (Has.l (has_blk g5 _ _)))
  have e2 := eq_map x.2.1
  go_wp2_with fail
  go_quiet (fail)
  have S1 := Lib.hid (S0.out.drewN nq)
  clear S0 e1 c0 d0 d1 e2
  generalize w1.drewN nq = w2 at *
  have S2 := Lib.hid (S1.out.drew)
  have k := bk_of S2.out.right
  have e1 := k.look_h name hn
  rw [hv] at e1
  have c0 : w2.drew.cell? ⟨bb, 0, none⟩ = some (.map (some h)) := k.blk.cell 0
  obtain ⟨⟨d0, d1⟩, -⟩ := two_of (S2.out.has (Has.l (has_blk g5 _ _)))
  go_wp2_with fail
  refine wp_region_still_tail 10 (by kernel_rfl) (by kernel_rfl) ?_
  simp only [List.take_succ_cons, List.take_zero, List.drop_succ_cons, List.drop_zero]
  change wpStill _ _ w2.drew _ _ _
  repeat still_step
  refine wpStill_nil ?_
  change wpList _ _ _ _ _ w2.drew
  obtain ⟨hpm, hnm⟩ := hol_perm k.apart hx
  have S3 := Lib.hid ((bk_perm hpm S2.out.right).re (show _ = aMap Tryz.prog 3 x.2.1 (iE x.2.2) * (Asn.blk bb 52 #[.map (some h), .map (some l), .map (some wt)] * (aMap Tryz.prog 9 h (hE (x :: offH H name)) * (aMap Tryz.prog 9 l (lE L) * (aMap Tryz.prog 3 wt (wE W) * (aIn (offH H name) * (aLn L * C)))))) by
    unfold aBk
    show _ * (_ * (_ * (_ * ((_ * aIn (offH H name)) * _)))) * _ = _
    ac_rfl))
  obtain ⟨w3, hst, hm3, hc3⟩ := (S3.out.kn (At.l (at_map _ _ _ _))).store kI Tryz.underlying60 (by rw [show (iE x.2.2).length = x.2.2.length from List.length_map _]; unfold maxLen; omega) (key_int id hi) (val := .int .i64 mode)
  have S4 := Lib.hid (S3.out.mapTo hc3 hm3)
  rw [off_iE] at S4
  clear S3 S2 e1 c0 d0 d1 k hm3 hc3 hpm
  go_wp2_with fail
  go_returns
  refine ⟨rfl, ?_⟩
  have e : (Lit.int .i64 id, Value.int .i64 mode) :: iE (without x.2.2 id) = iE (setL x.2.2 id mode) := rfl
  rw [e] at S4
  refine S4.out.re ?_
  unfold aBk
  show _ = _ * (aMap _ _ _ (hE (x :: offH H name)) * (_ * (_ * ((_ * aIn (offH H name)) * _)))) * _
  ac_rfl
theorem off_noneE (H : List Hol) (name : By) (nb : Nat) (h : holL H name = none) : offH ((name, nb, []) :: H) name = H := by
  unfold offH
  rw [List.filter_cons, decide_eq_true rfl]
  simp only [Bool.not_true, Bool.false_eq_true, if_false]
  exact off_none h
set_option maxRecDepth 100000 in
set_option maxHeartbeats 16000000 in
theorem hold_none (id mode : Int) (name : By) (w0 w : World) (C : Asn) (hS : Own w0 No w (aBk bb h l wt H L W * C)) (hi : I64w id) (hn : name.length ≤ 1000) (hx : holL H name = none) (hl : H.length ≤ 100000) :
    Calls Tryz.prog 24 #[bPtr bb, .int .i64 id, .agg #[.string (ofL name), .int .i64 mode]] w fun e w' => e = .returned (.tuple #[]) ∧ ∃ nb, Own w0 No w' (aBk bb h l wt ((name, nb, [(id, mode)]) :: H) L W * C) := by
  have hmm := @run_makeMap Tryz.prog
  have S0 := Lib.hid (hS.alloc #[.string (ofL name), .int .i64 mode] 32)
  clear hS
  unfold bPtr
  go_enter Tryz.func24, Tryz.ntmps24
  go_upto_region 1 with fail
  obtain ⟨g5, hgz⟩ : ∃ g, g = w.heap.size := ⟨_, rfl⟩
  rw [← hgz] at S0 ⊢
  clear hgz
  generalize w.alloc _ = w1 at *
  have k := bk_of S0.out.right
  have e1 : ∀ q, (Instr.lookup 48 (.map (some h)) (.string (ofL name)) false).run Tryz.prog (w1.drewN q) = .ok (hV H name) (w1.drewN q) := fun q => (k.keepB (w' := w1.drewN q) ⟨rfl, rfl, rfl, Nat.le_refl _, fun _ _ => rfl⟩).look_h name hn
  have hv : hV H name = .map none := by unfold hV; rw [hx]
  rw [hv] at e1
  have c0 : w1.cell? ⟨bb, 0, none⟩ = some (.map (some h)) := k.blk.cell 0
  obtain ⟨⟨d0, d1⟩, -⟩ := two_of (S0.out.has (Has.l (has_blk g5 _ _)))
  have e2 := eq_nomap
  have F : Hid (∀ W' {H' : List Hol}, Own w0 No W' (Asn.blk g5 32 #[.string (ofL name), .int .i64 mode] * (aBk bb h l wt H' L W * C)) → W'.cell? ⟨bb, 0, none⟩ = some (.map (some h)) ∧ W'.cell? ⟨g5, 0, none⟩ = some (.string (ofL name))) :=
    Lib.hid (fun W' H' q => ⟨(bk_of q.right).blk.cell 0, (q.has (Has.l (has_blk g5 _ _))).cell 0⟩)
  have F2 : Hid (∀ W' nb, Own w0 No W' (Asn.blk g5 32 #[.string (ofL name), .int .i64 mode] * (aMap Tryz.prog 3 nb [] * (aBk bb h l wt H L W * C))) → W'.cell? ⟨bb, 0, none⟩ = some (.map (some h)) ∧ W'.cell? ⟨g5, 0, none⟩ = some (.string (ofL name))) :=
    Lib.hid (fun W' nb q => ⟨(bk_of q.right.right).blk.cell 0, (q.has (Has.l (has_blk g5 _ _))).cell 0⟩)
  go_wp2_with fail
  go_quiet (fail)
  have S1 := Lib.hid (S0.out.drewN nq)
  clear S0 e1 c0 d0 d1 e2
  generalize w1.drewN nq = w2 at *
  go_wp2_with fail
  refine wp_region_held_drew (S := fun W : World => W.cell? ⟨bb, 0, none⟩ = some (.map (some h)) ∧ W.cell? ⟨g5, 0, none⟩ = some (.string (ofL name))) (by kernel_rfl) (F.out _ S1.out.drew) (fun hHeld => ?_)
  have S2 := Lib.hid S1.out.drew
  clear S1
  generalize w2.drew = w3 at *
  refine' wpAnyH_take (i := 0) (oi := ?oq0) (v := ?vq0) ?hq0 ?sq0 ?fq0 ?zq0 ?qq0 ?yq0 ?aq0 ?rq0
  case hq0 => (simp only [List.getElem?_toArray, List.getElem?_cons_succ, List.getElem?_cons_zero]; rfl)
  case sq0 => kernel_rfl
  case fq0 => kernel_rfl
  case zq0 => kernel_rfl
  case qq0 => exact fun _ _ _ h => h
  case yq0 => (refine Or.inl ⟨rfl, ?_⟩; intro w hSw; obtain ⟨hS1, hS2⟩ := hSw; go_simp; try with_reducible rfl)
  case aq0 => assumption
  case rq0 =>
  simp only [Act.put, List.setIfInBounds_toArray, List.set_cons_zero, List.set_cons_succ]
  refine' wpAnyH_take (i := 1) (oi := ?oq1) (v := ?vq1) ?hq1 ?sq1 ?fq1 ?zq1 ?qq1 ?yq1 ?aq1 ?rq1
  case hq1 => (simp only [List.getElem?_toArray, List.getElem?_cons_succ, List.getElem?_cons_zero]; rfl)
  case sq1 => kernel_rfl
  case fq1 => kernel_rfl
  case zq1 => kernel_rfl
  case qq1 => exact fun _ _ _ h => h
  case yq1 => (refine Or.inl ⟨rfl, ?_⟩; intro w hSw; obtain ⟨hS1, hS2⟩ := hSw; go_simp; try with_reducible rfl)
  case aq1 => assumption
  case rq1 =>
  simp only [Act.put, List.setIfInBounds_toArray, List.set_cons_zero, List.set_cons_succ]
  refine' wpAnyH_take (i := 2) (oi := ?oq2) (v := ?vq2) ?hq2 ?sq2 ?fq2 ?zq2 ?qq2 ?yq2 ?aq2 ?rq2
  case hq2 => (simp only [List.getElem?_toArray, List.getElem?_cons_succ, List.getElem?_cons_zero]; rfl)
  case sq2 => kernel_rfl
  case fq2 => kernel_rfl
  case zq2 => kernel_rfl
  case qq2 => exact fun _ _ _ h => h
  case yq2 => (refine Or.inl ⟨rfl, ?_⟩; intro w hSw; obtain ⟨hS1, hS2⟩ := hSw; go_simp; try with_reducible rfl)
  case aq2 => assumption
  case rq2 =>
  simp only [Act.put, List.setIfInBounds_toArray, List.set_cons_zero, List.set_cons_succ]
  refine' wpAnyH_take (i := 3) (oi := ?oq3) (v := ?vq3) ?hq3 ?sq3 ?fq3 ?zq3 ?qq3 ?yq3 ?aq3 ?rq3
  case hq3 => (simp only [List.getElem?_toArray, List.getElem?_cons_succ, List.getElem?_cons_zero]; rfl)
  case sq3 => kernel_rfl
  case fq3 => kernel_rfl
  case zq3 => kernel_rfl
  case qq3 => exact fun _ _ _ h => h
  case yq3 => (refine Or.inl ⟨rfl, ?_⟩; intro w hSw; obtain ⟨hS1, hS2⟩ := hSw; go_simp; try with_reducible rfl)
  case aq3 => assumption
  case rq3 =>
  simp only [Act.put, List.setIfInBounds_toArray, List.set_cons_zero, List.set_cons_succ]
  refine' wpAnyH_take (i := 4) (oi := ?oq4) (v := ?vq4) ?hq4 ?sq4 ?fq4 ?zq4 ?qq4 ?yq4 ?aq4 ?rq4
  case hq4 => (simp only [List.getElem?_toArray, List.getElem?_cons_succ, List.getElem?_cons_zero]; rfl)
  case sq4 => kernel_rfl
  case fq4 => kernel_rfl
  case zq4 => kernel_rfl
  case qq4 => exact fun _ _ _ h => h
  case yq4 => (refine Or.inl ⟨rfl, ?_⟩; intro w hSw; obtain ⟨hS1, hS2⟩ := hSw; go_simp; try with_reducible rfl)
  case aq4 => assumption
  case rq4 =>
  simp only [Act.put, List.setIfInBounds_toArray, List.set_cons_zero, List.set_cons_succ]
  refine' wpAnyH_take (i := 5) (oi := ?oq5) (v := ?vq5) ?hq5 ?sq5 ?fq5 ?zq5 ?qq5 ?yq5 ?aq5 ?rq5
  case hq5 => (simp only [List.getElem?_toArray, List.getElem?_cons_succ, List.getElem?_cons_zero]; rfl)
  case sq5 => kernel_rfl
  case fq5 => kernel_rfl
  case zq5 => kernel_rfl
  case qq5 => exact fun _ _ _ h => h
  case yq5 => (refine Or.inl ⟨rfl, ?_⟩; intro w hSw; obtain ⟨hS1, hS2⟩ := hSw; go_simp; try with_reducible rfl)
  case aq5 => assumption
  case rq5 =>
  simp only [Act.put, List.setIfInBounds_toArray, List.set_cons_zero, List.set_cons_succ]
  refine wpAnyH_ready (rs := [6]) (by kernel_rfl) (by simp) ?_
  refine' AllReadyH.cons (o := ?or6) ?hr6 ?kr6 AllReadyH.nil
  case hr6 => (simp only [List.getElem?_toArray, List.getElem?_cons_succ, List.getElem?_cons_zero]; rfl)
  case kr6 =>
  intro K0 hK
  go_simp
  have S3 := Lib.hid ((S2.out.mapNew Tryz.prog 3).re (show _ = Asn.blk g5 32 #[.string (ofL name), .int .i64 mode] * (aMap Tryz.prog 3 w3.heap.size [] * (aBk bb h l wt H L W * C)) by ac_rfl))
  obtain ⟨nb, hgz⟩ : ∃ g, g = w3.heap.size := ⟨_, rfl⟩
  rw [← hgz] at S3 ⊢
  clear hgz S2
  generalize w3.alloc _ = w4 at *
  refine hK.out _ _ ?_ (fun hHeld => ?_)
  · exact F2.out _ _ S3.out
  clear hK K0
  (try simp only [Act.put, List.setIfInBounds_toArray, List.set_cons_zero, List.set_cons_succ])
  have S4 := Lib.hid (S3.out.re (show _ = aMap Tryz.prog 9 h (hE H) * (Asn.blk g5 32 #[.string (ofL name), .int .i64 mode] * (aMap Tryz.prog 3 nb [] * (Asn.blk bb 52 #[.map (some h), .map (some l), .map (some wt)] * (aMap Tryz.prog 9 l (lE L) * (aMap Tryz.prog 3 wt (wE W) * (aIn H * (aLn L * C))))))) by unfold aBk; ac_rfl))
  obtain ⟨w5, hst, hm5, hc5⟩ := (S4.out.kn (At.l (at_map _ _ _ _))).store kS Tryz.underlying48 (by rw [show (hE H).length = H.length from List.length_map _]; unfold maxLen; omega) (key_str name hn) (val := .map (some nb))
  have S5 := Lib.hid (S4.out.mapTo hc5 hm5)
  rw [off_hE, off_none hx] at S5
  clear S3 S4 hm5 hc5
  refine wpAnyH_ready (rs := [7]) (by kernel_rfl) (by simp) ?_
  refine' AllReadyH.cons (o := ?or7) ?hr7 ?kr7 AllReadyH.nil
  case hr7 => (simp only [List.getElem?_toArray, List.getElem?_cons_succ, List.getElem?_cons_zero]; rfl)
  case kr7 =>
  intro K0 hK
  go_simp
  have S1 := Lib.hid (S5.out.re (show _ = Asn.blk g5 32 #[.string (ofL name), .int .i64 mode] * (aBk bb h l wt ((name, nb, []) :: H) L W * C) by
    unfold aBk
    show aMap _ _ _ (hE ((name, nb, []) :: H)) * _ = _ * (_ * (_ * (_ * (_ * ((aMap _ _ nb (iE []) * aIn H) * _)))) * _)
    ac_rfl))
  refine hK.out _ _ ?_ (fun hHeld => ?_)
  · exact F.out _ S1.out
  clear hK K0 hHeld S5 hst
  (try simp only [Act.put, List.setIfInBounds_toArray, List.set_cons_zero, List.set_cons_succ])
  refine wpAnyH_done (by kernel_rfl) ?_ _
  generalize w5 = w6 at *
  have hx2 : holL ((name, nb, []) :: H) name = some (name, nb, []) := by
    unfold holL
    rw [List.find?_cons, decide_eq_true rfl]
  have hv : hV ((name, nb, []) :: H) name = .map (some nb) := by unfold hV; rw [hx2]
  have S2 := Lib.hid (S1.out.drew)
  have k := bk_of S2.out.right
  have e1 := k.look_h name hn
  rw [hv] at e1
  have c0 : w6.drew.cell? ⟨bb, 0, none⟩ = some (.map (some h)) := k.blk.cell 0
  obtain ⟨⟨d0, d1⟩, -⟩ := two_of (S2.out.has (Has.l (has_blk g5 _ _)))
  go_wp2_with fail
  refine wp_region_still_tail 10 (by kernel_rfl) (by kernel_rfl) ?_
  simp only [List.take_succ_cons, List.take_zero, List.drop_succ_cons, List.drop_zero]
  change wpStill _ _ w6.drew _ _ _
  repeat still_step
  refine wpStill_nil ?_
  change wpList _ _ _ _ _ w6.drew
  have S3 := Lib.hid (S2.out.right.re (show _ = aMap Tryz.prog 3 nb (iE ([] : List (Int × Int))) * (Asn.blk bb 52 #[.map (some h), .map (some l), .map (some wt)] * (aMap Tryz.prog 9 h (hE ((name, nb, []) :: H)) * (aMap Tryz.prog 9 l (lE L) * (aMap Tryz.prog 3 wt (wE W) * (aIn (H) * (aLn L * C)))))) by
    unfold aBk
    show _ * (_ * (_ * (_ * ((_ * aIn (H)) * _)))) * _ = _
    ac_rfl))
  obtain ⟨w3, hst, hm3, hc3⟩ := (S3.out.kn (At.l (at_map _ _ _ _))).store kI Tryz.underlying60 (by show 0 < maxLen; unfold maxLen; omega) (key_int id hi) (val := .int .i64 mode)
  have S4 := Lib.hid (S3.out.mapTo hc3 hm3)
  rw [off_iE] at S4
  clear S3 S2 e1 c0 d0 d1 k hm3 hc3
  go_wp2_with fail
  go_returns
  refine ⟨rfl, nb, ?_⟩
  have e : (Lit.int .i64 id, Value.int .i64 mode) :: iE (without ([] : List (Int × Int)) id) = iE [(id, mode)] := rfl
  rw [e] at S4
  refine S4.out.re ?_
  unfold aBk
  show _ = _ * (aMap _ _ _ (hE ((name, nb, []) :: H)) * (_ * (_ * ((_ * aIn (H)) * _)))) * _
  ac_rfl
end
end Go.Proofs.YtikdjgholjealaaGreatDoor.Lk
