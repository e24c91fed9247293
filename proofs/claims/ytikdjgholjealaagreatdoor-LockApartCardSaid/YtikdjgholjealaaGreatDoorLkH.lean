/- Entering a line. -/
import Derived.Test.YtikdjgholjealaaGreatDoorLkG
namespace Go.Proofs.YtikdjgholjealaaGreatDoor.Lk
open Go.ChangeShapes Go.WideShapes Go.ChangeAt Go.RowKit Go.PlainAid Aid Md
set_option linter.unusedVariables false
set_option linter.unusedSimpArgs false
/-- Where one comes into a line. -/
def plH (H : List Hol) (l : List Int) (id : Int) (name : By) : Nat := if md H id name = 0 then l.length else fx (fun z => decide (md H z name = 0)) l
def entH (H : List Hol) (l : List Int) (id : Int) (name : By) : List Int := l.take (plH H l id name) ++ [id] ++ l.drop (plH H l id name)
section
variable {bb h l wt : Nat} {H : List Hol} {L : List Lin} {W : List Wan}
theorem bk_line {w0 w : World} {O0 : Nat → Prop} {C : Asn} (name : By) (hS : Aid.Own w0 O0 w (aBk bb h l wt H L W * C)) :
    Aid.Own w0 O0 w (Asn.vec 3 1 (lV L name) (ids L name).length (nums (ids L name)) * (Asn.blk bb 52 #[.map (some h), .map (some l), .map (some wt)] * (aMap Tryz.prog 9 h (hE H) * (aMap Tryz.prog 9 l (lE L) * (aMap Tryz.prog 3 wt (wE W) * (aIn H * (aLn (offL L name) * C))))))) := by
  cases hx : linL L name with
  | none =>
    have h1 : lV L name = .slice none 0 0 := by unfold lV; rw [hx]
    have h2 : ids L name = [] := by unfold ids; rw [hx]
    rw [h1, h2, off_noneL hx]
    refine (hS.nilVec 3 1).re ?_
    show Asn.vec _ _ _ _ (nums []) * _ = _
    unfold aBk
    ac_rfl
  | some x =>
    have h1 : lV L name = x.2.1 := by unfold lV; rw [hx]
    have h2 : ids L name = x.2.2 := by unfold ids; rw [hx]
    obtain ⟨hpm, -⟩ := lin_perm (bk_of hS).apartL hx
    rw [h1, h2]
    refine hS.re ?_
    unfold aBk
    rw [aLn_perm hpm]
    show (_ * (_ * (_ * (_ * (_ * (Asn.vec _ _ _ _ _ * aLn (offL L name))))))) * _ = _
    ac_rfl
theorem ins_int {w0 w : World} {O0 : Nat → Prop} {n vb : Nat} {xs : List Value} {T : TypeId} {a v : Value} {C : Asn} (i : Nat) (hi : i ≤ n) (hn : n ≤ 100000) (h1 : a.oneCell' = true) (hx1 : ∀ v, v ∈ xs → v.oneCell' = true)
    (hS : Aid.Own w0 O0 w (Asn.blk vb T #[a] * (Asn.vec 3 1 v n xs * C))) :
    Calls Tryz.prog 39 #[v, .int .i64 i, .slice (some ⟨vb, 0, none⟩) 1 1] w fun e w' => ∃ v', e = .returned v' ∧ Aid.Own w0 O0 w' (Asn.vec 3 1 v' (n + 1) (xs.take i ++ [a] ++ xs.drop i) * C) := by
  have hb := hS.has (Has.l (has_blk _ _ _))
  have hne : ¬ VB v vb := fun e => hS.ne (mem_blk _ _ _) (Mem.l (fun _ _ h => (h.2 vb).2 e)) rfl
  refine (insert_int n i vb xs [a] T w v hi (by omega) hS.right.vec hb rfl (fun v hv => by rw [List.mem_singleton.1 hv]; exact h1) hx1 hne).mono ?_
  rintro e w' ⟨v', rfl, k1, k2, k3⟩
  exact ⟨v', rfl, hS.right.app k1 k2 k3⟩
set_option maxRecDepth 100000 in
set_option maxHeartbeats 8000000 in
theorem enter_a (id mode : Int) (name : By) (w0 w : World) (C : Asn) (hS : Aid.Own w0 No w (aBk bb h l wt H L W * C)) (hi : I64w id) (hn : name.length ≤ 1000) (hl : (ids L name).length ≤ 100000) (hL : L.length ≤ 100000) (hW : W.length ≤ 100000) (hid : ∀ o, o ∈ ids L name → I64w o) (hf : fx (fun y => decide (md H y name = 0)) (ids L name) = (ids L name).length) :
    Calls Tryz.prog 23 #[bPtr bb, .int .i64 id, .agg #[.string (ofL name), .int .i64 mode]] w fun e w' => e = .returned (.tuple #[]) ∧ ∃ v, Aid.Own w0 No w' (aBk bb h l wt H ((name, v, entH H (ids L name) id name) :: offL L name) ((id, name, mode) :: offW W id) * C) := by
  replace hf := Lib.hid hf
  have S0 := Lib.hid (hS.alloc #[.string (ofL name), .int .i64 mode] 32)
  clear hS
  have hmf : ∀ (fn : Fn) (first cap : Array Value) (w : World), (Instr.makeFunc fn first cap).run Tryz.prog w = .ok (.func fn first cap) w := fun _ _ _ _ => rfl
  obtain ⟨ho, hho⟩ : ∃ o, hV H name = .map o := by unfold hV; split <;> exact ⟨_, rfl⟩
  unfold bPtr
  go_enter Tryz.func23, Tryz.ntmps23
  go_upto_region 1 with fail
  obtain ⟨g5, hgz⟩ : ∃ g, g = w.heap.size := ⟨_, rfl⟩
  rw [← hgz] at S0 ⊢
  clear hgz
  generalize w.alloc _ = w1 at *
  have FC : Hid (∀ (W' : World) (D : Asn), Aid.Own w0 No W' (Asn.blk g5 32 #[.string (ofL name), .int .i64 mode] * (aBk bb h l wt H L W * D)) → W'.cell? ⟨bb, 0, none⟩ = some (.map (some h)) ∧ W'.cell? ⟨bb, 1, none⟩ = some (.map (some l)) ∧ W'.cell? ⟨g5, 0, none⟩ = some (.string (ofL name)) ∧ (Instr.lookup 48 (.map (some h)) (.string (ofL name)) false).run Tryz.prog W' = .ok (.map ho) W' ∧ (Instr.lookup 49 (.map (some l)) (.string (ofL name)) false).run Tryz.prog W' = .ok (lV L name) W') :=
    Lib.hid fun W' D q => ⟨(bk_of q.right).blk.cell 0, (bk_of q.right).blk.cell 1, (q.has (Has.l (has_blk g5 _ _))).cell 0, hho ▸ (bk_of q.right).look_h name hn, (bk_of q.right).look_l name hn⟩
  have S1 := Lib.hid S0.out.drew
  clear S0
  refine wp_region_held_drew (S := fun W' : World => W'.cell? ⟨bb, 0, none⟩ = some (.map (some h)) ∧ W'.cell? ⟨bb, 1, none⟩ = some (.map (some l)) ∧ W'.cell? ⟨g5, 0, none⟩ = some (.string (ofL name)) ∧ (Instr.lookup 48 (.map (some h)) (.string (ofL name)) false).run Tryz.prog W' = .ok (.map ho) W' ∧ (Instr.lookup 49 (.map (some l)) (.string (ofL name)) false).run Tryz.prog W' = .ok (lV L name) W') (by kernel_rfl) (FC.out _ _ S1.out) (fun hHeld => ?_)
  generalize w1.drew = w2 at *
  refine' wpAnyH_take (i := 0) (oi := ?oq0) (v := ?vq0) ?hq0 ?sq0 ?fq0 ?zq0 ?qq0 ?yq0 ?aq0 ?rq0
  case hq0 => (simp only [List.getElem?_toArray, List.getElem?_cons_succ, List.getElem?_cons_zero]; rfl)
  case sq0 => kernel_rfl
  case fq0 => kernel_rfl
  case zq0 => kernel_rfl
  case qq0 => exact fun _ _ _ h => h
  case yq0 => (refine Or.inl ⟨rfl, ?_⟩; intro w hSw; obtain ⟨hS1, hS2, hS3, hS4, hS5⟩ := hSw; go_simp; try with_reducible rfl)
  case aq0 => assumption
  case rq0 =>
  simp only [Act.put, List.setIfInBounds_toArray, List.set_cons_zero, List.set_cons_succ]
  refine' wpAnyH_take (i := 1) (oi := ?oq1) (v := ?vq1) ?hq1 ?sq1 ?fq1 ?zq1 ?qq1 ?yq1 ?aq1 ?rq1
  case hq1 => (simp only [List.getElem?_toArray, List.getElem?_cons_succ, List.getElem?_cons_zero]; rfl)
  case sq1 => kernel_rfl
  case fq1 => kernel_rfl
  case zq1 => kernel_rfl
  case qq1 => exact fun _ _ _ h => h
  case yq1 => (refine Or.inl ⟨rfl, ?_⟩; intro w hSw; obtain ⟨hS1, hS2, hS3, hS4, hS5⟩ := hSw; go_simp; try with_reducible rfl)
  case aq1 => assumption
  case rq1 =>
  simp only [Act.put, List.setIfInBounds_toArray, List.set_cons_zero, List.set_cons_succ]
  refine' wpAnyH_take (i := 2) (oi := ?oq2) (v := ?vq2) ?hq2 ?sq2 ?fq2 ?zq2 ?qq2 ?yq2 ?aq2 ?rq2
  case hq2 => (simp only [List.getElem?_toArray, List.getElem?_cons_succ, List.getElem?_cons_zero]; rfl)
  case sq2 => kernel_rfl
  case fq2 => kernel_rfl
  case zq2 => kernel_rfl
  case qq2 => exact fun _ _ _ h => h
  case yq2 => (refine Or.inl ⟨rfl, ?_⟩; intro w hSw; obtain ⟨hS1, hS2, hS3, hS4, hS5⟩ := hSw; go_simp; try with_reducible rfl)
  case aq2 => assumption
  case rq2 =>
  simp only [Act.put, List.setIfInBounds_toArray, List.set_cons_zero, List.set_cons_succ]
  refine' wpAnyH_take (i := 3) (oi := ?oq3) (v := ?vq3) ?hq3 ?sq3 ?fq3 ?zq3 ?qq3 ?yq3 ?aq3 ?rq3
  case hq3 => (simp only [List.getElem?_toArray, List.getElem?_cons_succ, List.getElem?_cons_zero]; rfl)
  case sq3 => kernel_rfl
  case fq3 => kernel_rfl
  case zq3 => kernel_rfl
  case qq3 => exact fun _ _ _ h => h
  case yq3 => (refine Or.inl ⟨rfl, ?_⟩; intro w hSw; obtain ⟨hS1, hS2, hS3, hS4, hS5⟩ := hSw; go_simp; try with_reducible rfl)
  case aq3 => assumption
  case rq3 =>
  simp only [Act.put, List.setIfInBounds_toArray, List.set_cons_zero, List.set_cons_succ]
  refine' wpAnyH_take (i := 4) (oi := ?oq4) (v := ?vq4) ?hq4 ?sq4 ?fq4 ?zq4 ?qq4 ?yq4 ?aq4 ?rq4
  case hq4 => (simp only [List.getElem?_toArray, List.getElem?_cons_succ, List.getElem?_cons_zero]; rfl)
  case sq4 => kernel_rfl
  case fq4 => kernel_rfl
  case zq4 => kernel_rfl
  case qq4 => exact fun _ _ _ h => h
  case yq4 => (refine Or.inl ⟨rfl, ?_⟩; intro w hSw; obtain ⟨hS1, hS2, hS3, hS4, hS5⟩ := hSw; go_simp; try with_reducible rfl)
  case aq4 => assumption
  case rq4 =>
  simp only [Act.put, List.setIfInBounds_toArray, List.set_cons_zero, List.set_cons_succ]
  refine' wpAnyH_take (i := 5) (oi := ?oq5) (v := ?vq5) ?hq5 ?sq5 ?fq5 ?zq5 ?qq5 ?yq5 ?aq5 ?rq5
  case hq5 => (simp only [List.getElem?_toArray, List.getElem?_cons_succ, List.getElem?_cons_zero]; rfl)
  case sq5 => kernel_rfl
  case fq5 => kernel_rfl
  case zq5 => kernel_rfl
  case qq5 => exact fun _ _ _ h => h
  case yq5 => (refine Or.inl ⟨rfl, ?_⟩; intro w hSw; obtain ⟨hS1, hS2, hS3, hS4, hS5⟩ := hSw; go_simp; try with_reducible rfl)
  case aq5 => assumption
  case rq5 =>
  simp only [Act.put, List.setIfInBounds_toArray, List.set_cons_zero, List.set_cons_succ]
  refine' wpAnyH_take (i := 6) (oi := ?oq6) (v := ?vq6) ?hq6 ?sq6 ?fq6 ?zq6 ?qq6 ?yq6 ?aq6 ?rq6
  case hq6 => (simp only [List.getElem?_toArray, List.getElem?_cons_succ, List.getElem?_cons_zero]; rfl)
  case sq6 => kernel_rfl
  case fq6 => kernel_rfl
  case zq6 => kernel_rfl
  case qq6 => exact fun _ _ _ h => h
  case yq6 => (refine Or.inl ⟨rfl, ?_⟩; intro w hSw; obtain ⟨hS1, hS2, hS3, hS4, hS5⟩ := hSw; go_simp; try with_reducible rfl)
  case aq6 => assumption
  case rq6 =>
  simp only [Act.put, List.setIfInBounds_toArray, List.set_cons_zero, List.set_cons_succ]
  refine' wpAnyH_take (i := 7) (oi := ?oq7) (v := ?vq7) ?hq7 ?sq7 ?fq7 ?zq7 ?qq7 ?yq7 ?aq7 ?rq7
  case hq7 => (simp only [List.getElem?_toArray, List.getElem?_cons_succ, List.getElem?_cons_zero]; rfl)
  case sq7 => kernel_rfl
  case fq7 => kernel_rfl
  case zq7 => kernel_rfl
  case qq7 => exact fun _ _ _ h => h
  case yq7 => (refine Or.inl ⟨rfl, ?_⟩; intro w hSw; obtain ⟨hS1, hS2, hS3, hS4, hS5⟩ := hSw; go_simp; try with_reducible rfl)
  case aq7 => assumption
  case rq7 =>
  simp only [Act.put, List.setIfInBounds_toArray, List.set_cons_zero, List.set_cons_succ]
  refine' wpAnyH_take (i := 8) (oi := ?oq8) (v := ?vq8) ?hq8 ?sq8 ?fq8 ?zq8 ?qq8 ?yq8 ?aq8 ?rq8
  case hq8 => (simp only [List.getElem?_toArray, List.getElem?_cons_succ, List.getElem?_cons_zero]; rfl)
  case sq8 => kernel_rfl
  case fq8 => kernel_rfl
  case zq8 => kernel_rfl
  case qq8 => exact fun _ _ _ h => h
  case yq8 => (refine Or.inl ⟨rfl, ?_⟩; intro w hSw; obtain ⟨hS1, hS2, hS3, hS4, hS5⟩ := hSw; go_simp; try with_reducible rfl)
  case aq8 => assumption
  case rq8 =>
  simp only [Act.put, List.setIfInBounds_toArray, List.set_cons_zero, List.set_cons_succ]
  refine' wpAnyH_take (i := 9) (oi := ?oq9) (v := ?vq9) ?hq9 ?sq9 ?fq9 ?zq9 ?qq9 ?yq9 ?aq9 ?rq9
  case hq9 => (simp only [List.getElem?_toArray, List.getElem?_cons_succ, List.getElem?_cons_zero]; rfl)
  case sq9 => kernel_rfl
  case fq9 => kernel_rfl
  case zq9 => kernel_rfl
  case qq9 => exact fun _ _ _ h => h
  case yq9 => (refine Or.inl ⟨rfl, ?_⟩; intro w hSw; obtain ⟨hS1, hS2, hS3, hS4, hS5⟩ := hSw; go_simp; try with_reducible rfl)
  case aq9 => assumption
  case rq9 =>
  simp only [Act.put, List.setIfInBounds_toArray, List.set_cons_zero, List.set_cons_succ]
  refine' wpAnyH_take (i := 10) (oi := ?oq10) (v := ?vq10) ?hq10 ?sq10 ?fq10 ?zq10 ?qq10 ?yq10 ?aq10 ?rq10
  case hq10 => (simp only [List.getElem?_toArray, List.getElem?_cons_succ, List.getElem?_cons_zero]; rfl)
  case sq10 => kernel_rfl
  case fq10 => kernel_rfl
  case zq10 => kernel_rfl
  case qq10 => exact fun _ _ _ h => h
  case yq10 => (refine Or.inl ⟨rfl, ?_⟩; intro w hSw; obtain ⟨hS1, hS2, hS3, hS4, hS5⟩ := hSw; go_simp; try with_reducible rfl)
  case aq10 => assumption
  case rq10 =>
  simp only [Act.put, List.setIfInBounds_toArray, List.set_cons_zero, List.set_cons_succ]
  refine' wpAnyH_take (i := 11) (oi := ?oq11) (v := ?vq11) ?hq11 ?sq11 ?fq11 ?zq11 ?qq11 ?yq11 ?aq11 ?rq11
  case hq11 => (simp only [List.getElem?_toArray, List.getElem?_cons_succ, List.getElem?_cons_zero]; rfl)
  case sq11 => kernel_rfl
  case fq11 => kernel_rfl
  case zq11 => kernel_rfl
  case qq11 => exact fun _ _ _ h => h
  case yq11 => (refine Or.inl ⟨rfl, ?_⟩; intro w hSw; obtain ⟨hS1, hS2, hS3, hS4, hS5⟩ := hSw; go_simp; try with_reducible rfl)
  case aq11 => assumption
  case rq11 =>
  simp only [Act.put, List.setIfInBounds_toArray, List.set_cons_zero, List.set_cons_succ]
  refine' wpAnyH_take (i := 12) (oi := ?oq12) (v := ?vq12) ?hq12 ?sq12 ?fq12 ?zq12 ?qq12 ?yq12 ?aq12 ?rq12
  case hq12 => (simp only [List.getElem?_toArray, List.getElem?_cons_succ, List.getElem?_cons_zero]; rfl)
  case sq12 => kernel_rfl
  case fq12 => kernel_rfl
  case zq12 => kernel_rfl
  case qq12 => exact fun _ _ _ h => h
  case yq12 => (refine Or.inl ⟨rfl, ?_⟩; intro w hSw; obtain ⟨hS1, hS2, hS3, hS4, hS5⟩ := hSw; go_simp; try with_reducible rfl)
  case aq12 => assumption
  case rq12 =>
  simp only [Act.put, List.setIfInBounds_toArray, List.set_cons_zero, List.set_cons_succ]
  refine' wpAnyH_take (i := 13) (oi := ?oq13) (v := ?vq13) ?hq13 ?sq13 ?fq13 ?zq13 ?qq13 ?yq13 ?aq13 ?rq13
  case hq13 => (simp only [List.getElem?_toArray, List.getElem?_cons_succ, List.getElem?_cons_zero]; rfl)
  case sq13 => kernel_rfl
  case fq13 => kernel_rfl
  case zq13 => kernel_rfl
  case qq13 => exact fun _ _ _ h => h
  case yq13 => (refine Or.inl ⟨rfl, ?_⟩; intro w hSw; obtain ⟨hS1, hS2, hS3, hS4, hS5⟩ := hSw; go_simp; try with_reducible rfl)
  case aq13 => assumption
  case rq13 =>
  simp only [Act.put, List.setIfInBounds_toArray, List.set_cons_zero, List.set_cons_succ]
  refine wpAnyH_ready (rs := [14]) (by kernel_rfl) (by simp) ?_
  refine' AllReadyH.cons (o := ?oa) ?ha ?ka AllReadyH.nil
  case ha => (simp only [List.getElem?_toArray, List.getElem?_cons_succ, List.getElem?_cons_zero]; rfl)
  case ka =>
  intro K0 hK
  go_simp
  have S2 := Lib.hid (S1.out.alloc #[.map none] 60)
  obtain ⟨g6, hgz⟩ : ∃ g, g = w2.heap.size := ⟨_, rfl⟩
  rw [← hgz] at S2 ⊢
  clear hgz S1
  generalize w2.alloc _ = w3 at *
  refine hK.out _ _ ?_ (fun hHeld => ?_)
  · exact FC.out _ _ (S2.out.re (show _ = Asn.blk g5 32 #[.string (ofL name), .int .i64 mode] * (aBk bb h l wt H L W * (Asn.blk g6 60 #[.map none] * C)) by ac_rfl))
  clear hK K0
  (try simp only [Act.put, List.setIfInBounds_toArray, List.set_cons_zero, List.set_cons_succ])
  refine wpAnyH_ready (rs := [15]) (by kernel_rfl) (by simp) ?_
  refine' AllReadyH.cons (o := ?ob) ?hb ?kb AllReadyH.nil
  case hb => (simp only [List.getElem?_toArray, List.getElem?_cons_succ, List.getElem?_cons_zero]; rfl)
  case kb =>
  intro K0 hK
  have c6 := (S2.out.has (Has.l (has_blk g6 _ _))).cell 0
  have f6 := (S2.out.has (Has.l (has_blk g6 _ _))).free 0
  have S3 := Lib.hid (S2.out.set (Sets.l (sets_blk g6 _ _ 0 (.map ho))))
  go_simp
  clear c6 f6 S2
  simp only [List.setIfInBounds_toArray, List.set_cons_zero] at S3
  generalize World.setCell _ _ _ = w4 at *
  refine hK.out _ _ ?_ (fun hHeld => ?_)
  · exact FC.out _ _ (S3.out.re (show _ = Asn.blk g5 32 #[.string (ofL name), .int .i64 mode] * (aBk bb h l wt H L W * (Asn.blk g6 60 #[.map ho] * C)) by ac_rfl))
  clear hK K0
  (try simp only [Act.put, List.setIfInBounds_toArray, List.set_cons_zero, List.set_cons_succ])
  refine' wpAnyH_take (i := 16) (oi := ?or16) (v := ?vr16) ?hr16 ?sr16 ?fr16 ?zr16 ?qr16 ?yr16 ?ar16 ?rr16
  case hr16 => (simp only [List.getElem?_toArray, List.getElem?_cons_succ, List.getElem?_cons_zero]; rfl)
  case sr16 => kernel_rfl
  case fr16 => kernel_rfl
  case zr16 => kernel_rfl
  case qr16 => exact fun _ _ _ h => h
  case yr16 => (refine Or.inl ⟨rfl, ?_⟩; intro w hSw; obtain ⟨hS1, hS2, hS3, hS4, hS5⟩ := hSw; go_simp; try with_reducible rfl)
  case ar16 => assumption
  case rr16 =>
  simp only [Act.put, List.setIfInBounds_toArray, List.set_cons_zero, List.set_cons_succ]
  refine wpAnyH_done (by kernel_rfl) ?_ _
  clear hHeld
  have S4 := Lib.hid (S3.out.re (show _ = Asn.blk g5 32 #[.string (ofL name), .int .i64 mode] * (aBk bb h l wt H L W * (Asn.blk g6 60 #[.map ho] * C)) by ac_rfl))
  clear S3 FC
  have k := bk_of S4.out.right
  have hvec := (bk_line name S4.out.right).vec
  have c6 : w4.cell? ⟨g6, 0, none⟩ = some (hV H name) := by rw [hho]; exact (S4.out.has (Has.r (Has.r (Has.l (has_blk g6 _ _))))).cell 0
  have hg6 := (S4.out.has (Has.r (Has.r (Has.l (has_blk g6 _ _))))).lt
  obtain ⟨A, c, hvs⟩ := hvec.slice
  rw [hvs] at hvec ⊢
  go_wp2_with fail
  refine (IndexF_any (name := name) _ (ids L name) g6 _ k c6 hg6 hid hvec (by omega)).mono ?_
  rintro e w5 ⟨rfl, hX⟩
  have S5 := Lib.hid (S4.out.below hX)
  clear S4 k c6 hg6 hvec hX
  go_upto_region 4 with fail
  have FD : Hid (∀ (W' : World) (D : Asn), Aid.Own w0 No W' (Asn.blk g5 32 #[.string (ofL name), .int .i64 mode] * (Asn.blk bb 52 #[.map (some h), .map (some l), .map (some wt)] * D)) → W'.cell? ⟨bb, 1, none⟩ = some (.map (some l)) ∧ W'.cell? ⟨g5, 0, none⟩ = some (.string (ofL name))) :=
    Lib.hid fun W' D q => ⟨(q.right.has (Has.l (has_blk bb _ _))).cell 1, (q.has (Has.l (has_blk g5 _ _))).cell 0⟩
  have kb := bk_of S5.out.right
  have c6 : w5.cell? ⟨g6, 0, none⟩ = some (hV H name) := by rw [hho]; exact (S5.out.has (Has.r (Has.r (Has.l (has_blk g6 _ _))))).cell 0
  have hst := Lib.hid (strg_any (name := name) id g6 w5 kb c6 hi)
  clear kb c6
  have SX := Lib.hid ((bk_line name (S5.out.re (show _ = aBk bb h l wt H L W * (Asn.blk g5 32 #[.string (ofL name), .int .i64 mode] * (Asn.blk g6 60 #[.map ho] * C)) by ac_rfl))).re (show _ = Asn.blk g5 32 #[.string (ofL name), .int .i64 mode] * (Asn.blk bb 52 #[.map (some h), .map (some l), .map (some wt)] * (Asn.vec 3 1 (.slice A (ids L name).length c) (ids L name).length (nums (ids L name)) * (aMap Tryz.prog 9 l (lE L) * (aMap Tryz.prog 9 h (hE H) * (aMap Tryz.prog 3 wt (wE W) * (aIn H * (aLn (offL L name) * (Asn.blk g6 60 #[.map ho] * C)))))))) by rw [hvs]; ac_rfl))
  clear S5
  have S5 := SX
  clear SX
  have hle := fx_le (fun y => decide (md H y name = 0)) (ids L name)
  replace hf := hf.out
  have hF : fxI (fun y => decide (md H y name = 0)) (ids L name) = -1 := by unfold fxI; rw [if_pos hf]
  rw [hF]
  have hpl : plH H (ids L name) id name = (ids L name).length := by unfold plH; (split; rfl; exact hf)
  have hP : (ids L name).length ≤ (ids L name).length := Nat.le_refl _
  clear hF hst
  go_upto_region 6 with fail
  have S6 := Lib.hid (S5.out.drew)
  clear S5
  refine wp_region_held_drew (S := fun W' : World => W'.cell? ⟨bb, 1, none⟩ = some (.map (some l)) ∧ W'.cell? ⟨g5, 0, none⟩ = some (.string (ofL name))) (by kernel_rfl) (FD.out _ _ S6.out) (fun hHeld => ?_)
  generalize w5.drew = w6 at *
  refine' wpAnyH_take (i := 0) (oi := ?os0) (v := ?vs0) ?hs0 ?ss0 ?fs0 ?zs0 ?qs0 ?ys0 ?as0 ?rs0
  case hs0 => (simp only [List.getElem?_toArray, List.getElem?_cons_succ, List.getElem?_cons_zero]; rfl)
  case ss0 => kernel_rfl
  case fs0 => kernel_rfl
  case zs0 => kernel_rfl
  case qs0 => exact fun _ _ _ h => h
  case ys0 => (refine Or.inl ⟨rfl, ?_⟩; intro w hSw; obtain ⟨hS1, hS2⟩ := hSw; go_simp; try with_reducible rfl)
  case as0 => assumption
  case rs0 =>
  simp only [Act.put, List.setIfInBounds_toArray, List.set_cons_zero, List.set_cons_succ]
  refine' wpAnyH_take (i := 1) (oi := ?os1) (v := ?vs1) ?hs1 ?ss1 ?fs1 ?zs1 ?qs1 ?ys1 ?as1 ?rs1
  case hs1 => (simp only [List.getElem?_toArray, List.getElem?_cons_succ, List.getElem?_cons_zero]; rfl)
  case ss1 => kernel_rfl
  case fs1 => kernel_rfl
  case zs1 => kernel_rfl
  case qs1 => exact fun _ _ _ h => h
  case ys1 => (refine Or.inl ⟨rfl, ?_⟩; intro w hSw; obtain ⟨hS1, hS2⟩ := hSw; go_simp; try with_reducible rfl)
  case as1 => assumption
  case rs1 =>
  simp only [Act.put, List.setIfInBounds_toArray, List.set_cons_zero, List.set_cons_succ]
  refine' wpAnyH_take (i := 2) (oi := ?os2) (v := ?vs2) ?hs2 ?ss2 ?fs2 ?zs2 ?qs2 ?ys2 ?as2 ?rs2
  case hs2 => (simp only [List.getElem?_toArray, List.getElem?_cons_succ, List.getElem?_cons_zero]; rfl)
  case ss2 => kernel_rfl
  case fs2 => kernel_rfl
  case zs2 => kernel_rfl
  case qs2 => exact fun _ _ _ h => h
  case ys2 => (refine Or.inl ⟨rfl, ?_⟩; intro w hSw; obtain ⟨hS1, hS2⟩ := hSw; go_simp; try with_reducible rfl)
  case as2 => assumption
  case rs2 =>
  simp only [Act.put, List.setIfInBounds_toArray, List.set_cons_zero, List.set_cons_succ]
  refine' wpAnyH_take (i := 3) (oi := ?os3) (v := ?vs3) ?hs3 ?ss3 ?fs3 ?zs3 ?qs3 ?ys3 ?as3 ?rs3
  case hs3 => (simp only [List.getElem?_toArray, List.getElem?_cons_succ, List.getElem?_cons_zero]; rfl)
  case ss3 => kernel_rfl
  case fs3 => kernel_rfl
  case zs3 => kernel_rfl
  case qs3 => exact fun _ _ _ h => h
  case ys3 => (refine Or.inl ⟨rfl, ?_⟩; intro w hSw; obtain ⟨hS1, hS2⟩ := hSw; go_simp; try with_reducible rfl)
  case as3 => assumption
  case rs3 =>
  simp only [Act.put, List.setIfInBounds_toArray, List.set_cons_zero, List.set_cons_succ]
  refine' wpAnyH_take (i := 4) (oi := ?os4) (v := ?vs4) ?hs4 ?ss4 ?fs4 ?zs4 ?qs4 ?ys4 ?as4 ?rs4
  case hs4 => (simp only [List.getElem?_toArray, List.getElem?_cons_succ, List.getElem?_cons_zero]; rfl)
  case ss4 => kernel_rfl
  case fs4 => kernel_rfl
  case zs4 => kernel_rfl
  case qs4 => exact fun _ _ _ h => h
  case ys4 => (refine Or.inl ⟨rfl, ?_⟩; intro w hSw; obtain ⟨hS1, hS2⟩ := hSw; go_simp; try with_reducible rfl)
  case as4 => assumption
  case rs4 =>
  simp only [Act.put, List.setIfInBounds_toArray, List.set_cons_zero, List.set_cons_succ]
  refine' wpAnyH_take (i := 5) (oi := ?os5) (v := ?vs5) ?hs5 ?ss5 ?fs5 ?zs5 ?qs5 ?ys5 ?as5 ?rs5
  case hs5 => (simp only [List.getElem?_toArray, List.getElem?_cons_succ, List.getElem?_cons_zero]; rfl)
  case ss5 => kernel_rfl
  case fs5 => kernel_rfl
  case zs5 => kernel_rfl
  case qs5 => exact fun _ _ _ h => h
  case ys5 => (refine Or.inl ⟨rfl, ?_⟩; intro w hSw; obtain ⟨hS1, hS2⟩ := hSw; go_simp; try with_reducible rfl)
  case as5 => assumption
  case rs5 =>
  simp only [Act.put, List.setIfInBounds_toArray, List.set_cons_zero, List.set_cons_succ]
  refine' wpAnyH_take (i := 6) (oi := ?os6) (v := ?vs6) ?hs6 ?ss6 ?fs6 ?zs6 ?qs6 ?ys6 ?as6 ?rs6
  case hs6 => (simp only [List.getElem?_toArray, List.getElem?_cons_succ, List.getElem?_cons_zero]; rfl)
  case ss6 => kernel_rfl
  case fs6 => kernel_rfl
  case zs6 => kernel_rfl
  case qs6 => exact fun _ _ _ h => h
  case ys6 => (refine Or.inl ⟨rfl, ?_⟩; intro w hSw; obtain ⟨hS1, hS2⟩ := hSw; go_simp; try with_reducible rfl)
  case as6 => assumption
  case rs6 =>
  simp only [Act.put, List.setIfInBounds_toArray, List.set_cons_zero, List.set_cons_succ]
  refine' wpAnyH_take (i := 7) (oi := ?os7) (v := ?vs7) ?hs7 ?ss7 ?fs7 ?zs7 ?qs7 ?ys7 ?as7 ?rs7
  case hs7 => (simp only [List.getElem?_toArray, List.getElem?_cons_succ, List.getElem?_cons_zero]; rfl)
  case ss7 => kernel_rfl
  case fs7 => kernel_rfl
  case zs7 => kernel_rfl
  case qs7 => exact fun _ _ _ h => h
  case ys7 => (refine Or.inl ⟨rfl, ?_⟩; intro w hSw; obtain ⟨hS1, hS2⟩ := hSw; go_simp; try with_reducible rfl)
  case as7 => assumption
  case rs7 =>
  simp only [Act.put, List.setIfInBounds_toArray, List.set_cons_zero, List.set_cons_succ]
  refine' wpAnyH_take (i := 8) (oi := ?os8) (v := ?vs8) ?hs8 ?ss8 ?fs8 ?zs8 ?qs8 ?ys8 ?as8 ?rs8
  case hs8 => (simp only [List.getElem?_toArray, List.getElem?_cons_succ, List.getElem?_cons_zero]; rfl)
  case ss8 => kernel_rfl
  case fs8 => kernel_rfl
  case zs8 => kernel_rfl
  case qs8 => exact fun _ _ _ h => h
  case ys8 => (refine Or.inl ⟨rfl, ?_⟩; intro w hSw; obtain ⟨hS1, hS2⟩ := hSw; go_simp; try with_reducible rfl)
  case as8 => assumption
  case rs8 =>
  simp only [Act.put, List.setIfInBounds_toArray, List.set_cons_zero, List.set_cons_succ]
  refine wpAnyH_ready (rs := [9]) (by kernel_rfl) (by simp) ?_
  refine' AllReadyH.cons (o := ?oc) ?hc ?kc AllReadyH.nil
  case hc => (simp only [List.getElem?_toArray, List.getElem?_cons_succ, List.getElem?_cons_zero]; rfl)
  case kc =>
  intro K0 hK
  go_simp
  have S7 := Lib.hid (S6.out.alloc #[.int .i64 id] 3)
  obtain ⟨g7, hgz⟩ : ∃ g, g = w6.heap.size := ⟨_, rfl⟩
  rw [← hgz] at S7 ⊢
  clear hgz S6
  generalize w6.alloc _ = w7 at *
  refine hK.out _ _ ?_ (fun hHeld => ?_)
  · exact FD.out _ _ (S7.out.re (show _ = Asn.blk g5 32 #[.string (ofL name), .int .i64 mode] * (Asn.blk bb 52 #[.map (some h), .map (some l), .map (some wt)] * (Asn.blk g7 3 #[.int .i64 id] * (Asn.vec 3 1 (.slice A (ids L name).length c) (ids L name).length (nums (ids L name)) * (aMap Tryz.prog 9 l (lE L) * (aMap Tryz.prog 9 h (hE H) * (aMap Tryz.prog 3 wt (wE W) * (aIn H * (aLn (offL L name) * (Asn.blk g6 60 #[.map ho] * C))))))))) by ac_rfl))
  clear hK K0
  (try simp only [Act.put, List.setIfInBounds_toArray, List.set_cons_zero, List.set_cons_succ])
  refine wpAnyH_ready (rs := [10]) (by kernel_rfl) (by simp) ?_
  refine' AllReadyH.cons (o := ?od) ?hd ?kd AllReadyH.nil
  case hd => (simp only [List.getElem?_toArray, List.getElem?_cons_succ, List.getElem?_cons_zero]; rfl)
  case kd =>
  intro K0 hK
  go_simp
  go_at_call 39
  refine (ins_int (ids L name).length hP hl rfl (nums_one _) (S7.out.re (show _ = Asn.blk g7 3 #[.int .i64 id] * (Asn.vec 3 1 (.slice A (ids L name).length c) (ids L name).length (nums (ids L name)) * (Asn.blk g5 32 #[.string (ofL name), .int .i64 mode] * (Asn.blk bb 52 #[.map (some h), .map (some l), .map (some wt)] * (aMap Tryz.prog 9 l (lE L) * (aMap Tryz.prog 9 h (hE H) * (aMap Tryz.prog 3 wt (wE W) * (aIn H * (aLn (offL L name) * (Asn.blk g6 60 #[.map ho] * C))))))))) by ac_rfl))).mono ?_
  rintro e w8 ⟨v, rfl, hX⟩
  have S8 := Lib.hid (hX.re (show _ = Asn.blk g5 32 #[.string (ofL name), .int .i64 mode] * (Asn.blk bb 52 #[.map (some h), .map (some l), .map (some wt)] * (Asn.vec 3 1 v ((ids L name).length + 1) ((nums (ids L name)).take (ids L name).length ++ [.int .i64 id] ++ (nums (ids L name)).drop (ids L name).length) * (aMap Tryz.prog 9 l (lE L) * (aMap Tryz.prog 9 h (hE H) * (aMap Tryz.prog 3 wt (wE W) * (aIn H * (aLn (offL L name) * (Asn.blk g6 60 #[.map ho] * C)))))))) by ac_rfl))
  clear S7 hX
  refine hK.out _ _ ?_ (fun hHeld => ?_)
  · exact FD.out _ _ S8.out
  clear hK K0
  (try simp only [Act.put, List.setIfInBounds_toArray, List.set_cons_zero, List.set_cons_succ])
  refine wpAnyH_ready (rs := [11]) (by kernel_rfl) (by simp) ?_
  refine' AllReadyH.cons (o := ?oe) ?he ?ke AllReadyH.nil
  case he => (simp only [List.getElem?_toArray, List.getElem?_cons_succ, List.getElem?_cons_zero]; rfl)
  case ke =>
  intro K0 hK
  have S9 := Lib.hid (S8.out.re (show _ = aMap Tryz.prog 9 l (lE L) * (Asn.vec 3 1 v ((ids L name).length + 1) ((nums (ids L name)).take (ids L name).length ++ [.int .i64 id] ++ (nums (ids L name)).drop (ids L name).length) * (Asn.blk g5 32 #[.string (ofL name), .int .i64 mode] * (Asn.blk bb 52 #[.map (some h), .map (some l), .map (some wt)] * (aMap Tryz.prog 9 h (hE H) * (aMap Tryz.prog 3 wt (wE W) * (aIn H * (aLn (offL L name) * (Asn.blk g6 60 #[.map ho] * C)))))))) by ac_rfl))
  obtain ⟨w9, hst, hm9, hc9⟩ := (S9.out.kn (At.l (at_map _ _ _ _))).store kS Tryz.underlying49 (by rw [show (lE L).length = L.length from List.length_map _]; unfold maxLen; omega) (key_str name hn) (val := v)
  have S10 := Lib.hid (S9.out.mapTo hc9 hm9)
  rw [off_lE] at S10
  have S11 := Lib.hid (S10.out.re (show _ = Asn.blk g5 32 #[.string (ofL name), .int .i64 mode] * (Asn.blk bb 52 #[.map (some h), .map (some l), .map (some wt)] * (aMap Tryz.prog 9 l ((.string name, v) :: lE (offL L name)) * (Asn.vec 3 1 v ((ids L name).length + 1) ((nums (ids L name)).take (ids L name).length ++ [.int .i64 id] ++ (nums (ids L name)).drop (ids L name).length) * (aMap Tryz.prog 9 h (hE H) * (aMap Tryz.prog 3 wt (wE W) * (aIn H * (aLn (offL L name) * (Asn.blk g6 60 #[.map ho] * C)))))))) by ac_rfl))
  clear S8 S9 S10 hm9 hc9
  go_simp
  refine hK.out _ _ ?_ (fun hHeld => ?_)
  · exact FD.out _ _ S11.out
  clear hK K0 hHeld hst
  (try simp only [Act.put, List.setIfInBounds_toArray, List.set_cons_zero, List.set_cons_succ])
  refine wpAnyH_done (by kernel_rfl) ?_ _
  have S12 := Lib.hid S11.out.drew
  clear S11
  have d2 : w9.drew.cell? ⟨bb, 2, none⟩ = some (.map (some wt)) := (S12.out.right.has (Has.l (has_blk bb _ _))).cell 2
  have k0 : w9.drew.cell? ⟨g5, 0, none⟩ = some (.string (ofL name)) := (S12.out.has (Has.l (has_blk g5 _ _))).cell 0
  have k1 : w9.drew.cell? ⟨g5, 1, none⟩ = some (.int .i64 mode) := (S12.out.has (Has.l (has_blk g5 _ _))).cell 1
  have hln : (ids L name).length + 1 = (entH H (ids L name) id name).length := by unfold entH; rw [hpl, List.length_append, List.length_append, List.length_take, List.length_drop, List.length_singleton]; omega
  have hnm : (nums (ids L name)).take (ids L name).length ++ [.int .i64 id] ++ (nums (ids L name)).drop (ids L name).length = nums (entH H (ids L name) id name) := by unfold entH nums; rw [hpl, List.map_append, List.map_append, List.map_take, List.map_drop]; rfl
  rw [hnm, hln] at S12
  have S13 := Lib.hid (S12.out.re (show _ = aMap Tryz.prog 3 wt (wE W) * (Asn.blk g5 32 #[.string (ofL name), .int .i64 mode] * (Asn.blk bb 52 #[.map (some h), .map (some l), .map (some wt)] * (aMap Tryz.prog 9 l ((.string name, v) :: lE (offL L name)) * (Asn.vec 3 1 v (entH H (ids L name) id name).length (nums (entH H (ids L name) id name)) * (aMap Tryz.prog 9 h (hE H) * (aIn H * (aLn (offL L name) * (Asn.blk g6 60 #[.map ho] * C)))))))) by ac_rfl))
  clear S12 hnm hln
  obtain ⟨w10, hst, hm10, hc10⟩ := (S13.out.kn (At.l (at_map _ _ _ _))).store kI Tryz.underlying50 (by rw [show (wE W).length = W.length from List.length_map _]; unfold maxLen; omega) (key_int id hi) (val := .agg #[.string (ofL name), .int .i64 mode])
  have S14 := Lib.hid (S13.out.mapTo hc10 hm10)
  rw [off_wE] at S14
  clear S13 hm10 hc10
  go_wp2_with fail
  refine wp_region_still_tail 6 (by kernel_rfl) (by kernel_rfl) ?_
  simp only [List.take_succ_cons, List.take_zero, List.drop_succ_cons, List.drop_zero]
  change wpStill _ _ w9.drew _ _ _
  repeat still_step
  refine wpStill_nil ?_
  change wpList _ _ _ _ _ w9.drew
  go_wp2_with fail
  go_returns
  refine ⟨rfl, v, ?_⟩
  have S15 := S14.out.re (show _ = (Asn.blk g5 32 #[.string (ofL name), .int .i64 mode] * Asn.blk g6 60 #[.map ho]) * (aBk bb h l wt H ((name, v, entH H (ids L name) id name) :: offL L name) ((id, name, mode) :: offW W id) * C) by
    unfold aBk
    show _ = _ * ((_ * (_ * (aMap _ _ _ ((.string name, v) :: lE (offL L name)) * (aMap _ _ _ ((.int .i64 id, .agg #[.string (ofL name), .int .i64 mode]) :: wE (offW W id)) * (_ * (Asn.vec _ _ _ _ _ * aLn (offL L name))))))) * C)
    ac_rfl)
  exact S15.right
set_option maxRecDepth 100000 in
set_option maxHeartbeats 8000000 in
theorem enter_b (id mode : Int) (name : By) (w0 w : World) (C : Asn) (hS : Aid.Own w0 No w (aBk bb h l wt H L W * C)) (hi : I64w id) (hn : name.length ≤ 1000) (hl : (ids L name).length ≤ 100000) (hL : L.length ≤ 100000) (hW : W.length ≤ 100000) (hid : ∀ o, o ∈ ids L name → I64w o) (hf : fx (fun y => decide (md H y name = 0)) (ids L name) ≠ (ids L name).length) (hm : md H id name = 0) :
    Calls Tryz.prog 23 #[bPtr bb, .int .i64 id, .agg #[.string (ofL name), .int .i64 mode]] w fun e w' => e = .returned (.tuple #[]) ∧ ∃ v, Aid.Own w0 No w' (aBk bb h l wt H ((name, v, entH H (ids L name) id name) :: offL L name) ((id, name, mode) :: offW W id) * C) := by
  replace hf := Lib.hid hf
  replace hm := Lib.hid hm
  have S0 := Lib.hid (hS.alloc #[.string (ofL name), .int .i64 mode] 32)
  clear hS
  have hmf : ∀ (fn : Fn) (first cap : Array Value) (w : World), (Instr.makeFunc fn first cap).run Tryz.prog w = .ok (.func fn first cap) w := fun _ _ _ _ => rfl
  obtain ⟨ho, hho⟩ : ∃ o, hV H name = .map o := by unfold hV; split <;> exact ⟨_, rfl⟩
  unfold bPtr
  go_enter Tryz.func23, Tryz.ntmps23
  go_upto_region 1 with fail
  obtain ⟨g5, hgz⟩ : ∃ g, g = w.heap.size := ⟨_, rfl⟩
  rw [← hgz] at S0 ⊢
  clear hgz
  generalize w.alloc _ = w1 at *
  have FC : Hid (∀ (W' : World) (D : Asn), Aid.Own w0 No W' (Asn.blk g5 32 #[.string (ofL name), .int .i64 mode] * (aBk bb h l wt H L W * D)) → W'.cell? ⟨bb, 0, none⟩ = some (.map (some h)) ∧ W'.cell? ⟨bb, 1, none⟩ = some (.map (some l)) ∧ W'.cell? ⟨g5, 0, none⟩ = some (.string (ofL name)) ∧ (Instr.lookup 48 (.map (some h)) (.string (ofL name)) false).run Tryz.prog W' = .ok (.map ho) W' ∧ (Instr.lookup 49 (.map (some l)) (.string (ofL name)) false).run Tryz.prog W' = .ok (lV L name) W') :=
    Lib.hid fun W' D q => ⟨(bk_of q.right).blk.cell 0, (bk_of q.right).blk.cell 1, (q.has (Has.l (has_blk g5 _ _))).cell 0, hho ▸ (bk_of q.right).look_h name hn, (bk_of q.right).look_l name hn⟩
  have S1 := Lib.hid S0.out.drew
  clear S0
  refine wp_region_held_drew (S := fun W' : World => W'.cell? ⟨bb, 0, none⟩ = some (.map (some h)) ∧ W'.cell? ⟨bb, 1, none⟩ = some (.map (some l)) ∧ W'.cell? ⟨g5, 0, none⟩ = some (.string (ofL name)) ∧ (Instr.lookup 48 (.map (some h)) (.string (ofL name)) false).run Tryz.prog W' = .ok (.map ho) W' ∧ (Instr.lookup 49 (.map (some l)) (.string (ofL name)) false).run Tryz.prog W' = .ok (lV L name) W') (by kernel_rfl) (FC.out _ _ S1.out) (fun hHeld => ?_)
  generalize w1.drew = w2 at *
  refine' wpAnyH_take (i := 0) (oi := ?oq0) (v := ?vq0) ?hq0 ?sq0 ?fq0 ?zq0 ?qq0 ?yq0 ?aq0 ?rq0
  case hq0 => (simp only [List.getElem?_toArray, List.getElem?_cons_succ, List.getElem?_cons_zero]; rfl)
  case sq0 => kernel_rfl
  case fq0 => kernel_rfl
  case zq0 => kernel_rfl
  case qq0 => exact fun _ _ _ h => h
  case yq0 => (refine Or.inl ⟨rfl, ?_⟩; intro w hSw; obtain ⟨hS1, hS2, hS3, hS4, hS5⟩ := hSw; go_simp; try with_reducible rfl)
  case aq0 => assumption
  case rq0 =>
  simp only [Act.put, List.setIfInBounds_toArray, List.set_cons_zero, List.set_cons_succ]
  refine' wpAnyH_take (i := 1) (oi := ?oq1) (v := ?vq1) ?hq1 ?sq1 ?fq1 ?zq1 ?qq1 ?yq1 ?aq1 ?rq1
  case hq1 => (simp only [List.getElem?_toArray, List.getElem?_cons_succ, List.getElem?_cons_zero]; rfl)
  case sq1 => kernel_rfl
  case fq1 => kernel_rfl
  case zq1 => kernel_rfl
  case qq1 => exact fun _ _ _ h => h
  case yq1 => (refine Or.inl ⟨rfl, ?_⟩; intro w hSw; obtain ⟨hS1, hS2, hS3, hS4, hS5⟩ := hSw; go_simp; try with_reducible rfl)
  case aq1 => assumption
  case rq1 =>
  simp only [Act.put, List.setIfInBounds_toArray, List.set_cons_zero, List.set_cons_succ]
  refine' wpAnyH_take (i := 2) (oi := ?oq2) (v := ?vq2) ?hq2 ?sq2 ?fq2 ?zq2 ?qq2 ?yq2 ?aq2 ?rq2
  case hq2 => (simp only [List.getElem?_toArray, List.getElem?_cons_succ, List.getElem?_cons_zero]; rfl)
  case sq2 => kernel_rfl
  case fq2 => kernel_rfl
  case zq2 => kernel_rfl
  case qq2 => exact fun _ _ _ h => h
  case yq2 => (refine Or.inl ⟨rfl, ?_⟩; intro w hSw; obtain ⟨hS1, hS2, hS3, hS4, hS5⟩ := hSw; go_simp; try with_reducible rfl)
  case aq2 => assumption
  case rq2 =>
  simp only [Act.put, List.setIfInBounds_toArray, List.set_cons_zero, List.set_cons_succ]
  refine' wpAnyH_take (i := 3) (oi := ?oq3) (v := ?vq3) ?hq3 ?sq3 ?fq3 ?zq3 ?qq3 ?yq3 ?aq3 ?rq3
  case hq3 => (simp only [List.getElem?_toArray, List.getElem?_cons_succ, List.getElem?_cons_zero]; rfl)
  case sq3 => kernel_rfl
  case fq3 => kernel_rfl
  case zq3 => kernel_rfl
  case qq3 => exact fun _ _ _ h => h
  case yq3 => (refine Or.inl ⟨rfl, ?_⟩; intro w hSw; obtain ⟨hS1, hS2, hS3, hS4, hS5⟩ := hSw; go_simp; try with_reducible rfl)
  case aq3 => assumption
  case rq3 =>
  simp only [Act.put, List.setIfInBounds_toArray, List.set_cons_zero, List.set_cons_succ]
  refine' wpAnyH_take (i := 4) (oi := ?oq4) (v := ?vq4) ?hq4 ?sq4 ?fq4 ?zq4 ?qq4 ?yq4 ?aq4 ?rq4
  case hq4 => (simp only [List.getElem?_toArray, List.getElem?_cons_succ, List.getElem?_cons_zero]; rfl)
  case sq4 => kernel_rfl
  case fq4 => kernel_rfl
  case zq4 => kernel_rfl
  case qq4 => exact fun _ _ _ h => h
  case yq4 => (refine Or.inl ⟨rfl, ?_⟩; intro w hSw; obtain ⟨hS1, hS2, hS3, hS4, hS5⟩ := hSw; go_simp; try with_reducible rfl)
  case aq4 => assumption
  case rq4 =>
  simp only [Act.put, List.setIfInBounds_toArray, List.set_cons_zero, List.set_cons_succ]
  refine' wpAnyH_take (i := 5) (oi := ?oq5) (v := ?vq5) ?hq5 ?sq5 ?fq5 ?zq5 ?qq5 ?yq5 ?aq5 ?rq5
  case hq5 => (simp only [List.getElem?_toArray, List.getElem?_cons_succ, List.getElem?_cons_zero]; rfl)
  case sq5 => kernel_rfl
  case fq5 => kernel_rfl
  case zq5 => kernel_rfl
  case qq5 => exact fun _ _ _ h => h
  case yq5 => (refine Or.inl ⟨rfl, ?_⟩; intro w hSw; obtain ⟨hS1, hS2, hS3, hS4, hS5⟩ := hSw; go_simp; try with_reducible rfl)
  case aq5 => assumption
  case rq5 =>
  simp only [Act.put, List.setIfInBounds_toArray, List.set_cons_zero, List.set_cons_succ]
  refine' wpAnyH_take (i := 6) (oi := ?oq6) (v := ?vq6) ?hq6 ?sq6 ?fq6 ?zq6 ?qq6 ?yq6 ?aq6 ?rq6
  case hq6 => (simp only [List.getElem?_toArray, List.getElem?_cons_succ, List.getElem?_cons_zero]; rfl)
  case sq6 => kernel_rfl
  case fq6 => kernel_rfl
  case zq6 => kernel_rfl
  case qq6 => exact fun _ _ _ h => h
  case yq6 => (refine Or.inl ⟨rfl, ?_⟩; intro w hSw; obtain ⟨hS1, hS2, hS3, hS4, hS5⟩ := hSw; go_simp; try with_reducible rfl)
  case aq6 => assumption
  case rq6 =>
  simp only [Act.put, List.setIfInBounds_toArray, List.set_cons_zero, List.set_cons_succ]
  refine' wpAnyH_take (i := 7) (oi := ?oq7) (v := ?vq7) ?hq7 ?sq7 ?fq7 ?zq7 ?qq7 ?yq7 ?aq7 ?rq7
  case hq7 => (simp only [List.getElem?_toArray, List.getElem?_cons_succ, List.getElem?_cons_zero]; rfl)
  case sq7 => kernel_rfl
  case fq7 => kernel_rfl
  case zq7 => kernel_rfl
  case qq7 => exact fun _ _ _ h => h
  case yq7 => (refine Or.inl ⟨rfl, ?_⟩; intro w hSw; obtain ⟨hS1, hS2, hS3, hS4, hS5⟩ := hSw; go_simp; try with_reducible rfl)
  case aq7 => assumption
  case rq7 =>
  simp only [Act.put, List.setIfInBounds_toArray, List.set_cons_zero, List.set_cons_succ]
  refine' wpAnyH_take (i := 8) (oi := ?oq8) (v := ?vq8) ?hq8 ?sq8 ?fq8 ?zq8 ?qq8 ?yq8 ?aq8 ?rq8
  case hq8 => (simp only [List.getElem?_toArray, List.getElem?_cons_succ, List.getElem?_cons_zero]; rfl)
  case sq8 => kernel_rfl
  case fq8 => kernel_rfl
  case zq8 => kernel_rfl
  case qq8 => exact fun _ _ _ h => h
  case yq8 => (refine Or.inl ⟨rfl, ?_⟩; intro w hSw; obtain ⟨hS1, hS2, hS3, hS4, hS5⟩ := hSw; go_simp; try with_reducible rfl)
  case aq8 => assumption
  case rq8 =>
  simp only [Act.put, List.setIfInBounds_toArray, List.set_cons_zero, List.set_cons_succ]
  refine' wpAnyH_take (i := 9) (oi := ?oq9) (v := ?vq9) ?hq9 ?sq9 ?fq9 ?zq9 ?qq9 ?yq9 ?aq9 ?rq9
  case hq9 => (simp only [List.getElem?_toArray, List.getElem?_cons_succ, List.getElem?_cons_zero]; rfl)
  case sq9 => kernel_rfl
  case fq9 => kernel_rfl
  case zq9 => kernel_rfl
  case qq9 => exact fun _ _ _ h => h
  case yq9 => (refine Or.inl ⟨rfl, ?_⟩; intro w hSw; obtain ⟨hS1, hS2, hS3, hS4, hS5⟩ := hSw; go_simp; try with_reducible rfl)
  case aq9 => assumption
  case rq9 =>
  simp only [Act.put, List.setIfInBounds_toArray, List.set_cons_zero, List.set_cons_succ]
  refine' wpAnyH_take (i := 10) (oi := ?oq10) (v := ?vq10) ?hq10 ?sq10 ?fq10 ?zq10 ?qq10 ?yq10 ?aq10 ?rq10
  case hq10 => (simp only [List.getElem?_toArray, List.getElem?_cons_succ, List.getElem?_cons_zero]; rfl)
  case sq10 => kernel_rfl
  case fq10 => kernel_rfl
  case zq10 => kernel_rfl
  case qq10 => exact fun _ _ _ h => h
  case yq10 => (refine Or.inl ⟨rfl, ?_⟩; intro w hSw; obtain ⟨hS1, hS2, hS3, hS4, hS5⟩ := hSw; go_simp; try with_reducible rfl)
  case aq10 => assumption
  case rq10 =>
  simp only [Act.put, List.setIfInBounds_toArray, List.set_cons_zero, List.set_cons_succ]
  refine' wpAnyH_take (i := 11) (oi := ?oq11) (v := ?vq11) ?hq11 ?sq11 ?fq11 ?zq11 ?qq11 ?yq11 ?aq11 ?rq11
  case hq11 => (simp only [List.getElem?_toArray, List.getElem?_cons_succ, List.getElem?_cons_zero]; rfl)
  case sq11 => kernel_rfl
  case fq11 => kernel_rfl
  case zq11 => kernel_rfl
  case qq11 => exact fun _ _ _ h => h
  case yq11 => (refine Or.inl ⟨rfl, ?_⟩; intro w hSw; obtain ⟨hS1, hS2, hS3, hS4, hS5⟩ := hSw; go_simp; try with_reducible rfl)
  case aq11 => assumption
  case rq11 =>
  simp only [Act.put, List.setIfInBounds_toArray, List.set_cons_zero, List.set_cons_succ]
  refine' wpAnyH_take (i := 12) (oi := ?oq12) (v := ?vq12) ?hq12 ?sq12 ?fq12 ?zq12 ?qq12 ?yq12 ?aq12 ?rq12
  case hq12 => (simp only [List.getElem?_toArray, List.getElem?_cons_succ, List.getElem?_cons_zero]; rfl)
  case sq12 => kernel_rfl
  case fq12 => kernel_rfl
  case zq12 => kernel_rfl
  case qq12 => exact fun _ _ _ h => h
  case yq12 => (refine Or.inl ⟨rfl, ?_⟩; intro w hSw; obtain ⟨hS1, hS2, hS3, hS4, hS5⟩ := hSw; go_simp; try with_reducible rfl)
  case aq12 => assumption
  case rq12 =>
  simp only [Act.put, List.setIfInBounds_toArray, List.set_cons_zero, List.set_cons_succ]
  refine' wpAnyH_take (i := 13) (oi := ?oq13) (v := ?vq13) ?hq13 ?sq13 ?fq13 ?zq13 ?qq13 ?yq13 ?aq13 ?rq13
  case hq13 => (simp only [List.getElem?_toArray, List.getElem?_cons_succ, List.getElem?_cons_zero]; rfl)
  case sq13 => kernel_rfl
  case fq13 => kernel_rfl
  case zq13 => kernel_rfl
  case qq13 => exact fun _ _ _ h => h
  case yq13 => (refine Or.inl ⟨rfl, ?_⟩; intro w hSw; obtain ⟨hS1, hS2, hS3, hS4, hS5⟩ := hSw; go_simp; try with_reducible rfl)
  case aq13 => assumption
  case rq13 =>
  simp only [Act.put, List.setIfInBounds_toArray, List.set_cons_zero, List.set_cons_succ]
  refine wpAnyH_ready (rs := [14]) (by kernel_rfl) (by simp) ?_
  refine' AllReadyH.cons (o := ?oa) ?ha ?ka AllReadyH.nil
  case ha => (simp only [List.getElem?_toArray, List.getElem?_cons_succ, List.getElem?_cons_zero]; rfl)
  case ka =>
  intro K0 hK
  go_simp
  have S2 := Lib.hid (S1.out.alloc #[.map none] 60)
  obtain ⟨g6, hgz⟩ : ∃ g, g = w2.heap.size := ⟨_, rfl⟩
  rw [← hgz] at S2 ⊢
  clear hgz S1
  generalize w2.alloc _ = w3 at *
  refine hK.out _ _ ?_ (fun hHeld => ?_)
  · exact FC.out _ _ (S2.out.re (show _ = Asn.blk g5 32 #[.string (ofL name), .int .i64 mode] * (aBk bb h l wt H L W * (Asn.blk g6 60 #[.map none] * C)) by ac_rfl))
  clear hK K0
  (try simp only [Act.put, List.setIfInBounds_toArray, List.set_cons_zero, List.set_cons_succ])
  refine wpAnyH_ready (rs := [15]) (by kernel_rfl) (by simp) ?_
  refine' AllReadyH.cons (o := ?ob) ?hb ?kb AllReadyH.nil
  case hb => (simp only [List.getElem?_toArray, List.getElem?_cons_succ, List.getElem?_cons_zero]; rfl)
  case kb =>
  intro K0 hK
  have c6 := (S2.out.has (Has.l (has_blk g6 _ _))).cell 0
  have f6 := (S2.out.has (Has.l (has_blk g6 _ _))).free 0
  have S3 := Lib.hid (S2.out.set (Sets.l (sets_blk g6 _ _ 0 (.map ho))))
  go_simp
  clear c6 f6 S2
  simp only [List.setIfInBounds_toArray, List.set_cons_zero] at S3
  generalize World.setCell _ _ _ = w4 at *
  refine hK.out _ _ ?_ (fun hHeld => ?_)
  · exact FC.out _ _ (S3.out.re (show _ = Asn.blk g5 32 #[.string (ofL name), .int .i64 mode] * (aBk bb h l wt H L W * (Asn.blk g6 60 #[.map ho] * C)) by ac_rfl))
  clear hK K0
  (try simp only [Act.put, List.setIfInBounds_toArray, List.set_cons_zero, List.set_cons_succ])
  refine' wpAnyH_take (i := 16) (oi := ?or16) (v := ?vr16) ?hr16 ?sr16 ?fr16 ?zr16 ?qr16 ?yr16 ?ar16 ?rr16
  case hr16 => (simp only [List.getElem?_toArray, List.getElem?_cons_succ, List.getElem?_cons_zero]; rfl)
  case sr16 => kernel_rfl
  case fr16 => kernel_rfl
  case zr16 => kernel_rfl
  case qr16 => exact fun _ _ _ h => h
  case yr16 => (refine Or.inl ⟨rfl, ?_⟩; intro w hSw; obtain ⟨hS1, hS2, hS3, hS4, hS5⟩ := hSw; go_simp; try with_reducible rfl)
  case ar16 => assumption
  case rr16 =>
  simp only [Act.put, List.setIfInBounds_toArray, List.set_cons_zero, List.set_cons_succ]
  refine wpAnyH_done (by kernel_rfl) ?_ _
  clear hHeld
  have S4 := Lib.hid (S3.out.re (show _ = Asn.blk g5 32 #[.string (ofL name), .int .i64 mode] * (aBk bb h l wt H L W * (Asn.blk g6 60 #[.map ho] * C)) by ac_rfl))
  clear S3 FC
  have k := bk_of S4.out.right
  have hvec := (bk_line name S4.out.right).vec
  have c6 : w4.cell? ⟨g6, 0, none⟩ = some (hV H name) := by rw [hho]; exact (S4.out.has (Has.r (Has.r (Has.l (has_blk g6 _ _))))).cell 0
  have hg6 := (S4.out.has (Has.r (Has.r (Has.l (has_blk g6 _ _))))).lt
  obtain ⟨A, c, hvs⟩ := hvec.slice
  rw [hvs] at hvec ⊢
  go_wp2_with fail
  refine (IndexF_any (name := name) _ (ids L name) g6 _ k c6 hg6 hid hvec (by omega)).mono ?_
  rintro e w5 ⟨rfl, hX⟩
  have S5 := Lib.hid (S4.out.below hX)
  clear S4 k c6 hg6 hvec hX
  go_upto_region 4 with fail
  have FD : Hid (∀ (W' : World) (D : Asn), Aid.Own w0 No W' (Asn.blk g5 32 #[.string (ofL name), .int .i64 mode] * (Asn.blk bb 52 #[.map (some h), .map (some l), .map (some wt)] * D)) → W'.cell? ⟨bb, 1, none⟩ = some (.map (some l)) ∧ W'.cell? ⟨g5, 0, none⟩ = some (.string (ofL name))) :=
    Lib.hid fun W' D q => ⟨(q.right.has (Has.l (has_blk bb _ _))).cell 1, (q.has (Has.l (has_blk g5 _ _))).cell 0⟩
  have kb := bk_of S5.out.right
  have c6 : w5.cell? ⟨g6, 0, none⟩ = some (hV H name) := by rw [hho]; exact (S5.out.has (Has.r (Has.r (Has.l (has_blk g6 _ _))))).cell 0
  have hst := Lib.hid (strg_any (name := name) id g6 w5 kb c6 hi)
  clear kb c6
  have SX := Lib.hid ((bk_line name (S5.out.re (show _ = aBk bb h l wt H L W * (Asn.blk g5 32 #[.string (ofL name), .int .i64 mode] * (Asn.blk g6 60 #[.map ho] * C)) by ac_rfl))).re (show _ = Asn.blk g5 32 #[.string (ofL name), .int .i64 mode] * (Asn.blk bb 52 #[.map (some h), .map (some l), .map (some wt)] * (Asn.vec 3 1 (.slice A (ids L name).length c) (ids L name).length (nums (ids L name)) * (aMap Tryz.prog 9 l (lE L) * (aMap Tryz.prog 9 h (hE H) * (aMap Tryz.prog 3 wt (wE W) * (aIn H * (aLn (offL L name) * (Asn.blk g6 60 #[.map ho] * C)))))))) by rw [hvs]; ac_rfl))
  clear S5
  have S5 := SX
  clear SX
  have hle := fx_le (fun y => decide (md H y name = 0)) (ids L name)
  replace hf := hf.out
  have hF : fxI (fun y => decide (md H y name = 0)) (ids L name) = ((fx (fun y => decide (md H y name = 0)) (ids L name) : Nat) : Int) := by unfold fxI; rw [if_neg hf]
  rw [hF]
  clear hF
  have hpl : plH H (ids L name) id name = (ids L name).length := by unfold plH; rw [if_pos hm.out]
  have hP : (ids L name).length ≤ (ids L name).length := Nat.le_refl _
  have hdm : decide (md H id name = 0) = true := decide_eq_true hm.out
  rw [hdm] at hst
  go_wp2_with fail
  refine hst.out.mono ?_
  rintro e w55 ⟨rfl, hX⟩
  have SX := Lib.hid (S5.out.below hX)
  clear S5 hX hst
  have S5 := SX
  clear SX
  go_upto_region 6 with fail
  have S6 := Lib.hid (S5.out.drew)
  clear S5
  refine wp_region_held_drew (S := fun W' : World => W'.cell? ⟨bb, 1, none⟩ = some (.map (some l)) ∧ W'.cell? ⟨g5, 0, none⟩ = some (.string (ofL name))) (by kernel_rfl) (FD.out _ _ S6.out) (fun hHeld => ?_)
  generalize w55.drew = w6 at *
  refine' wpAnyH_take (i := 0) (oi := ?os0) (v := ?vs0) ?hs0 ?ss0 ?fs0 ?zs0 ?qs0 ?ys0 ?as0 ?rs0
  case hs0 => (simp only [List.getElem?_toArray, List.getElem?_cons_succ, List.getElem?_cons_zero]; rfl)
  case ss0 => kernel_rfl
  case fs0 => kernel_rfl
  case zs0 => kernel_rfl
  case qs0 => exact fun _ _ _ h => h
  case ys0 => (refine Or.inl ⟨rfl, ?_⟩; intro w hSw; obtain ⟨hS1, hS2⟩ := hSw; go_simp; try with_reducible rfl)
  case as0 => assumption
  case rs0 =>
  simp only [Act.put, List.setIfInBounds_toArray, List.set_cons_zero, List.set_cons_succ]
  refine' wpAnyH_take (i := 1) (oi := ?os1) (v := ?vs1) ?hs1 ?ss1 ?fs1 ?zs1 ?qs1 ?ys1 ?as1 ?rs1
  case hs1 => (simp only [List.getElem?_toArray, List.getElem?_cons_succ, List.getElem?_cons_zero]; rfl)
  case ss1 => kernel_rfl
  case fs1 => kernel_rfl
  case zs1 => kernel_rfl
  case qs1 => exact fun _ _ _ h => h
  case ys1 => (refine Or.inl ⟨rfl, ?_⟩; intro w hSw; obtain ⟨hS1, hS2⟩ := hSw; go_simp; try with_reducible rfl)
  case as1 => assumption
  case rs1 =>
  simp only [Act.put, List.setIfInBounds_toArray, List.set_cons_zero, List.set_cons_succ]
  refine' wpAnyH_take (i := 2) (oi := ?os2) (v := ?vs2) ?hs2 ?ss2 ?fs2 ?zs2 ?qs2 ?ys2 ?as2 ?rs2
  case hs2 => (simp only [List.getElem?_toArray, List.getElem?_cons_succ, List.getElem?_cons_zero]; rfl)
  case ss2 => kernel_rfl
  case fs2 => kernel_rfl
  case zs2 => kernel_rfl
  case qs2 => exact fun _ _ _ h => h
  case ys2 => (refine Or.inl ⟨rfl, ?_⟩; intro w hSw; obtain ⟨hS1, hS2⟩ := hSw; go_simp; try with_reducible rfl)
  case as2 => assumption
  case rs2 =>
  simp only [Act.put, List.setIfInBounds_toArray, List.set_cons_zero, List.set_cons_succ]
  refine' wpAnyH_take (i := 3) (oi := ?os3) (v := ?vs3) ?hs3 ?ss3 ?fs3 ?zs3 ?qs3 ?ys3 ?as3 ?rs3
  case hs3 => (simp only [List.getElem?_toArray, List.getElem?_cons_succ, List.getElem?_cons_zero]; rfl)
  case ss3 => kernel_rfl
  case fs3 => kernel_rfl
  case zs3 => kernel_rfl
  case qs3 => exact fun _ _ _ h => h
  case ys3 => (refine Or.inl ⟨rfl, ?_⟩; intro w hSw; obtain ⟨hS1, hS2⟩ := hSw; go_simp; try with_reducible rfl)
  case as3 => assumption
  case rs3 =>
  simp only [Act.put, List.setIfInBounds_toArray, List.set_cons_zero, List.set_cons_succ]
  refine' wpAnyH_take (i := 4) (oi := ?os4) (v := ?vs4) ?hs4 ?ss4 ?fs4 ?zs4 ?qs4 ?ys4 ?as4 ?rs4
  case hs4 => (simp only [List.getElem?_toArray, List.getElem?_cons_succ, List.getElem?_cons_zero]; rfl)
  case ss4 => kernel_rfl
  case fs4 => kernel_rfl
  case zs4 => kernel_rfl
  case qs4 => exact fun _ _ _ h => h
  case ys4 => (refine Or.inl ⟨rfl, ?_⟩; intro w hSw; obtain ⟨hS1, hS2⟩ := hSw; go_simp; try with_reducible rfl)
  case as4 => assumption
  case rs4 =>
  simp only [Act.put, List.setIfInBounds_toArray, List.set_cons_zero, List.set_cons_succ]
  refine' wpAnyH_take (i := 5) (oi := ?os5) (v := ?vs5) ?hs5 ?ss5 ?fs5 ?zs5 ?qs5 ?ys5 ?as5 ?rs5
  case hs5 => (simp only [List.getElem?_toArray, List.getElem?_cons_succ, List.getElem?_cons_zero]; rfl)
  case ss5 => kernel_rfl
  case fs5 => kernel_rfl
  case zs5 => kernel_rfl
  case qs5 => exact fun _ _ _ h => h
  case ys5 => (refine Or.inl ⟨rfl, ?_⟩; intro w hSw; obtain ⟨hS1, hS2⟩ := hSw; go_simp; try with_reducible rfl)
  case as5 => assumption
  case rs5 =>
  simp only [Act.put, List.setIfInBounds_toArray, List.set_cons_zero, List.set_cons_succ]
  refine' wpAnyH_take (i := 6) (oi := ?os6) (v := ?vs6) ?hs6 ?ss6 ?fs6 ?zs6 ?qs6 ?ys6 ?as6 ?rs6
  case hs6 => (simp only [List.getElem?_toArray, List.getElem?_cons_succ, List.getElem?_cons_zero]; rfl)
  case ss6 => kernel_rfl
  case fs6 => kernel_rfl
  case zs6 => kernel_rfl
  case qs6 => exact fun _ _ _ h => h
  case ys6 => (refine Or.inl ⟨rfl, ?_⟩; intro w hSw; obtain ⟨hS1, hS2⟩ := hSw; go_simp; try with_reducible rfl)
  case as6 => assumption
  case rs6 =>
  simp only [Act.put, List.setIfInBounds_toArray, List.set_cons_zero, List.set_cons_succ]
  refine' wpAnyH_take (i := 7) (oi := ?os7) (v := ?vs7) ?hs7 ?ss7 ?fs7 ?zs7 ?qs7 ?ys7 ?as7 ?rs7
  case hs7 => (simp only [List.getElem?_toArray, List.getElem?_cons_succ, List.getElem?_cons_zero]; rfl)
  case ss7 => kernel_rfl
  case fs7 => kernel_rfl
  case zs7 => kernel_rfl
  case qs7 => exact fun _ _ _ h => h
  case ys7 => (refine Or.inl ⟨rfl, ?_⟩; intro w hSw; obtain ⟨hS1, hS2⟩ := hSw; go_simp; try with_reducible rfl)
  case as7 => assumption
  case rs7 =>
  simp only [Act.put, List.setIfInBounds_toArray, List.set_cons_zero, List.set_cons_succ]
  refine' wpAnyH_take (i := 8) (oi := ?os8) (v := ?vs8) ?hs8 ?ss8 ?fs8 ?zs8 ?qs8 ?ys8 ?as8 ?rs8
  case hs8 => (simp only [List.getElem?_toArray, List.getElem?_cons_succ, List.getElem?_cons_zero]; rfl)
  case ss8 => kernel_rfl
  case fs8 => kernel_rfl
  case zs8 => kernel_rfl
  case qs8 => exact fun _ _ _ h => h
  case ys8 => (refine Or.inl ⟨rfl, ?_⟩; intro w hSw; obtain ⟨hS1, hS2⟩ := hSw; go_simp; try with_reducible rfl)
  case as8 => assumption
  case rs8 =>
  simp only [Act.put, List.setIfInBounds_toArray, List.set_cons_zero, List.set_cons_succ]
  refine wpAnyH_ready (rs := [9]) (by kernel_rfl) (by simp) ?_
  refine' AllReadyH.cons (o := ?oc) ?hc ?kc AllReadyH.nil
  case hc => (simp only [List.getElem?_toArray, List.getElem?_cons_succ, List.getElem?_cons_zero]; rfl)
  case kc =>
  intro K0 hK
  go_simp
  have S7 := Lib.hid (S6.out.alloc #[.int .i64 id] 3)
  obtain ⟨g7, hgz⟩ : ∃ g, g = w6.heap.size := ⟨_, rfl⟩
  rw [← hgz] at S7 ⊢
  clear hgz S6
  generalize w6.alloc _ = w7 at *
  refine hK.out _ _ ?_ (fun hHeld => ?_)
  · exact FD.out _ _ (S7.out.re (show _ = Asn.blk g5 32 #[.string (ofL name), .int .i64 mode] * (Asn.blk bb 52 #[.map (some h), .map (some l), .map (some wt)] * (Asn.blk g7 3 #[.int .i64 id] * (Asn.vec 3 1 (.slice A (ids L name).length c) (ids L name).length (nums (ids L name)) * (aMap Tryz.prog 9 l (lE L) * (aMap Tryz.prog 9 h (hE H) * (aMap Tryz.prog 3 wt (wE W) * (aIn H * (aLn (offL L name) * (Asn.blk g6 60 #[.map ho] * C))))))))) by ac_rfl))
  clear hK K0
  (try simp only [Act.put, List.setIfInBounds_toArray, List.set_cons_zero, List.set_cons_succ])
  refine wpAnyH_ready (rs := [10]) (by kernel_rfl) (by simp) ?_
  refine' AllReadyH.cons (o := ?od) ?hd ?kd AllReadyH.nil
  case hd => (simp only [List.getElem?_toArray, List.getElem?_cons_succ, List.getElem?_cons_zero]; rfl)
  case kd =>
  intro K0 hK
  go_simp
  go_at_call 39
  refine (ins_int (ids L name).length hP hl rfl (nums_one _) (S7.out.re (show _ = Asn.blk g7 3 #[.int .i64 id] * (Asn.vec 3 1 (.slice A (ids L name).length c) (ids L name).length (nums (ids L name)) * (Asn.blk g5 32 #[.string (ofL name), .int .i64 mode] * (Asn.blk bb 52 #[.map (some h), .map (some l), .map (some wt)] * (aMap Tryz.prog 9 l (lE L) * (aMap Tryz.prog 9 h (hE H) * (aMap Tryz.prog 3 wt (wE W) * (aIn H * (aLn (offL L name) * (Asn.blk g6 60 #[.map ho] * C))))))))) by ac_rfl))).mono ?_
  rintro e w8 ⟨v, rfl, hX⟩
  have S8 := Lib.hid (hX.re (show _ = Asn.blk g5 32 #[.string (ofL name), .int .i64 mode] * (Asn.blk bb 52 #[.map (some h), .map (some l), .map (some wt)] * (Asn.vec 3 1 v ((ids L name).length + 1) ((nums (ids L name)).take (ids L name).length ++ [.int .i64 id] ++ (nums (ids L name)).drop (ids L name).length) * (aMap Tryz.prog 9 l (lE L) * (aMap Tryz.prog 9 h (hE H) * (aMap Tryz.prog 3 wt (wE W) * (aIn H * (aLn (offL L name) * (Asn.blk g6 60 #[.map ho] * C)))))))) by ac_rfl))
  clear S7 hX
  refine hK.out _ _ ?_ (fun hHeld => ?_)
  · exact FD.out _ _ S8.out
  clear hK K0
  (try simp only [Act.put, List.setIfInBounds_toArray, List.set_cons_zero, List.set_cons_succ])
  refine wpAnyH_ready (rs := [11]) (by kernel_rfl) (by simp) ?_
  refine' AllReadyH.cons (o := ?oe) ?he ?ke AllReadyH.nil
  case he => (simp only [List.getElem?_toArray, List.getElem?_cons_succ, List.getElem?_cons_zero]; rfl)
  case ke =>
  intro K0 hK
  have S9 := Lib.hid (S8.out.re (show _ = aMap Tryz.prog 9 l (lE L) * (Asn.vec 3 1 v ((ids L name).length + 1) ((nums (ids L name)).take (ids L name).length ++ [.int .i64 id] ++ (nums (ids L name)).drop (ids L name).length) * (Asn.blk g5 32 #[.string (ofL name), .int .i64 mode] * (Asn.blk bb 52 #[.map (some h), .map (some l), .map (some wt)] * (aMap Tryz.prog 9 h (hE H) * (aMap Tryz.prog 3 wt (wE W) * (aIn H * (aLn (offL L name) * (Asn.blk g6 60 #[.map ho] * C)))))))) by ac_rfl))
  obtain ⟨w9, hst, hm9, hc9⟩ := (S9.out.kn (At.l (at_map _ _ _ _))).store kS Tryz.underlying49 (by rw [show (lE L).length = L.length from List.length_map _]; unfold maxLen; omega) (key_str name hn) (val := v)
  have S10 := Lib.hid (S9.out.mapTo hc9 hm9)
  rw [off_lE] at S10
  have S11 := Lib.hid (S10.out.re (show _ = Asn.blk g5 32 #[.string (ofL name), .int .i64 mode] * (Asn.blk bb 52 #[.map (some h), .map (some l), .map (some wt)] * (aMap Tryz.prog 9 l ((.string name, v) :: lE (offL L name)) * (Asn.vec 3 1 v ((ids L name).length + 1) ((nums (ids L name)).take (ids L name).length ++ [.int .i64 id] ++ (nums (ids L name)).drop (ids L name).length) * (aMap Tryz.prog 9 h (hE H) * (aMap Tryz.prog 3 wt (wE W) * (aIn H * (aLn (offL L name) * (Asn.blk g6 60 #[.map ho] * C)))))))) by ac_rfl))
  clear S8 S9 S10 hm9 hc9
  go_simp
  refine hK.out _ _ ?_ (fun hHeld => ?_)
  · exact FD.out _ _ S11.out
  clear hK K0 hHeld hst
  (try simp only [Act.put, List.setIfInBounds_toArray, List.set_cons_zero, List.set_cons_succ])
  refine wpAnyH_done (by kernel_rfl) ?_ _
  have S12 := Lib.hid S11.out.drew
  clear S11
  have d2 : w9.drew.cell? ⟨bb, 2, none⟩ = some (.map (some wt)) := (S12.out.right.has (Has.l (has_blk bb _ _))).cell 2
  have k0 : w9.drew.cell? ⟨g5, 0, none⟩ = some (.string (ofL name)) := (S12.out.has (Has.l (has_blk g5 _ _))).cell 0
  have k1 : w9.drew.cell? ⟨g5, 1, none⟩ = some (.int .i64 mode) := (S12.out.has (Has.l (has_blk g5 _ _))).cell 1
  have hln : (ids L name).length + 1 = (entH H (ids L name) id name).length := by unfold entH; rw [hpl, List.length_append, List.length_append, List.length_take, List.length_drop, List.length_singleton]; omega
  have hnm : (nums (ids L name)).take (ids L name).length ++ [.int .i64 id] ++ (nums (ids L name)).drop (ids L name).length = nums (entH H (ids L name) id name) := by unfold entH nums; rw [hpl, List.map_append, List.map_append, List.map_take, List.map_drop]; rfl
  rw [hnm, hln] at S12
  have S13 := Lib.hid (S12.out.re (show _ = aMap Tryz.prog 3 wt (wE W) * (Asn.blk g5 32 #[.string (ofL name), .int .i64 mode] * (Asn.blk bb 52 #[.map (some h), .map (some l), .map (some wt)] * (aMap Tryz.prog 9 l ((.string name, v) :: lE (offL L name)) * (Asn.vec 3 1 v (entH H (ids L name) id name).length (nums (entH H (ids L name) id name)) * (aMap Tryz.prog 9 h (hE H) * (aIn H * (aLn (offL L name) * (Asn.blk g6 60 #[.map ho] * C)))))))) by ac_rfl))
  clear S12 hnm hln
  obtain ⟨w10, hst, hm10, hc10⟩ := (S13.out.kn (At.l (at_map _ _ _ _))).store kI Tryz.underlying50 (by rw [show (wE W).length = W.length from List.length_map _]; unfold maxLen; omega) (key_int id hi) (val := .agg #[.string (ofL name), .int .i64 mode])
  have S14 := Lib.hid (S13.out.mapTo hc10 hm10)
  rw [off_wE] at S14
  clear S13 hm10 hc10
  go_wp2_with fail
  refine wp_region_still_tail 6 (by kernel_rfl) (by kernel_rfl) ?_
  simp only [List.take_succ_cons, List.take_zero, List.drop_succ_cons, List.drop_zero]
  change wpStill _ _ w9.drew _ _ _
  repeat still_step
  refine wpStill_nil ?_
  change wpList _ _ _ _ _ w9.drew
  go_wp2_with fail
  go_returns
  refine ⟨rfl, v, ?_⟩
  have S15 := S14.out.re (show _ = (Asn.blk g5 32 #[.string (ofL name), .int .i64 mode] * Asn.blk g6 60 #[.map ho]) * (aBk bb h l wt H ((name, v, entH H (ids L name) id name) :: offL L name) ((id, name, mode) :: offW W id) * C) by
    unfold aBk
    show _ = _ * ((_ * (_ * (aMap _ _ _ ((.string name, v) :: lE (offL L name)) * (aMap _ _ _ ((.int .i64 id, .agg #[.string (ofL name), .int .i64 mode]) :: wE (offW W id)) * (_ * (Asn.vec _ _ _ _ _ * aLn (offL L name))))))) * C)
    ac_rfl)
  exact S15.right
set_option maxRecDepth 100000 in
set_option maxHeartbeats 8000000 in
theorem enter_c (id mode : Int) (name : By) (w0 w : World) (C : Asn) (hS : Aid.Own w0 No w (aBk bb h l wt H L W * C)) (hi : I64w id) (hn : name.length ≤ 1000) (hl : (ids L name).length ≤ 100000) (hL : L.length ≤ 100000) (hW : W.length ≤ 100000) (hid : ∀ o, o ∈ ids L name → I64w o) (hf : fx (fun y => decide (md H y name = 0)) (ids L name) ≠ (ids L name).length) (hm : md H id name ≠ 0) :
    Calls Tryz.prog 23 #[bPtr bb, .int .i64 id, .agg #[.string (ofL name), .int .i64 mode]] w fun e w' => e = .returned (.tuple #[]) ∧ ∃ v, Aid.Own w0 No w' (aBk bb h l wt H ((name, v, entH H (ids L name) id name) :: offL L name) ((id, name, mode) :: offW W id) * C) := by
  replace hf := Lib.hid hf
  replace hm := Lib.hid hm
  have S0 := Lib.hid (hS.alloc #[.string (ofL name), .int .i64 mode] 32)
  clear hS
  have hmf : ∀ (fn : Fn) (first cap : Array Value) (w : World), (Instr.makeFunc fn first cap).run Tryz.prog w = .ok (.func fn first cap) w := fun _ _ _ _ => rfl
  obtain ⟨ho, hho⟩ : ∃ o, hV H name = .map o := by unfold hV; split <;> exact ⟨_, rfl⟩
  unfold bPtr
  go_enter Tryz.func23, Tryz.ntmps23
  go_upto_region 1 with fail
  obtain ⟨g5, hgz⟩ : ∃ g, g = w.heap.size := ⟨_, rfl⟩
  rw [← hgz] at S0 ⊢
  clear hgz
  generalize w.alloc _ = w1 at *
  have FC : Hid (∀ (W' : World) (D : Asn), Aid.Own w0 No W' (Asn.blk g5 32 #[.string (ofL name), .int .i64 mode] * (aBk bb h l wt H L W * D)) → W'.cell? ⟨bb, 0, none⟩ = some (.map (some h)) ∧ W'.cell? ⟨bb, 1, none⟩ = some (.map (some l)) ∧ W'.cell? ⟨g5, 0, none⟩ = some (.string (ofL name)) ∧ (Instr.lookup 48 (.map (some h)) (.string (ofL name)) false).run Tryz.prog W' = .ok (.map ho) W' ∧ (Instr.lookup 49 (.map (some l)) (.string (ofL name)) false).run Tryz.prog W' = .ok (lV L name) W') :=
    Lib.hid fun W' D q => ⟨(bk_of q.right).blk.cell 0, (bk_of q.right).blk.cell 1, (q.has (Has.l (has_blk g5 _ _))).cell 0, hho ▸ (bk_of q.right).look_h name hn, (bk_of q.right).look_l name hn⟩
  have S1 := Lib.hid S0.out.drew
  clear S0
  refine wp_region_held_drew (S := fun W' : World => W'.cell? ⟨bb, 0, none⟩ = some (.map (some h)) ∧ W'.cell? ⟨bb, 1, none⟩ = some (.map (some l)) ∧ W'.cell? ⟨g5, 0, none⟩ = some (.string (ofL name)) ∧ (Instr.lookup 48 (.map (some h)) (.string (ofL name)) false).run Tryz.prog W' = .ok (.map ho) W' ∧ (Instr.lookup 49 (.map (some l)) (.string (ofL name)) false).run Tryz.prog W' = .ok (lV L name) W') (by kernel_rfl) (FC.out _ _ S1.out) (fun hHeld => ?_)
  generalize w1.drew = w2 at *
  refine' wpAnyH_take (i := 0) (oi := ?oq0) (v := ?vq0) ?hq0 ?sq0 ?fq0 ?zq0 ?qq0 ?yq0 ?aq0 ?rq0
  case hq0 => (simp only [List.getElem?_toArray, List.getElem?_cons_succ, List.getElem?_cons_zero]; rfl)
  case sq0 => kernel_rfl
  case fq0 => kernel_rfl
  case zq0 => kernel_rfl
  case qq0 => exact fun _ _ _ h => h
  case yq0 => (refine Or.inl ⟨rfl, ?_⟩; intro w hSw; obtain ⟨hS1, hS2, hS3, hS4, hS5⟩ := hSw; go_simp; try with_reducible rfl)
  case aq0 => assumption
  case rq0 =>
  simp only [Act.put, List.setIfInBounds_toArray, List.set_cons_zero, List.set_cons_succ]
  refine' wpAnyH_take (i := 1) (oi := ?oq1) (v := ?vq1) ?hq1 ?sq1 ?fq1 ?zq1 ?qq1 ?yq1 ?aq1 ?rq1
  case hq1 => (simp only [List.getElem?_toArray, List.getElem?_cons_succ, List.getElem?_cons_zero]; rfl)
  case sq1 => kernel_rfl
  case fq1 => kernel_rfl
  case zq1 => kernel_rfl
  case qq1 => exact fun _ _ _ h => h
  case yq1 => (refine Or.inl ⟨rfl, ?_⟩; intro w hSw; obtain ⟨hS1, hS2, hS3, hS4, hS5⟩ := hSw; go_simp; try with_reducible rfl)
  case aq1 => assumption
  case rq1 =>
  simp only [Act.put, List.setIfInBounds_toArray, List.set_cons_zero, List.set_cons_succ]
  refine' wpAnyH_take (i := 2) (oi := ?oq2) (v := ?vq2) ?hq2 ?sq2 ?fq2 ?zq2 ?qq2 ?yq2 ?aq2 ?rq2
  case hq2 => (simp only [List.getElem?_toArray, List.getElem?_cons_succ, List.getElem?_cons_zero]; rfl)
  case sq2 => kernel_rfl
  case fq2 => kernel_rfl
  case zq2 => kernel_rfl
  case qq2 => exact fun _ _ _ h => h
  case yq2 => (refine Or.inl ⟨rfl, ?_⟩; intro w hSw; obtain ⟨hS1, hS2, hS3, hS4, hS5⟩ := hSw; go_simp; try with_reducible rfl)
  case aq2 => assumption
  case rq2 =>
  simp only [Act.put, List.setIfInBounds_toArray, List.set_cons_zero, List.set_cons_succ]
  refine' wpAnyH_take (i := 3) (oi := ?oq3) (v := ?vq3) ?hq3 ?sq3 ?fq3 ?zq3 ?qq3 ?yq3 ?aq3 ?rq3
  case hq3 => (simp only [List.getElem?_toArray, List.getElem?_cons_succ, List.getElem?_cons_zero]; rfl)
  case sq3 => kernel_rfl
  case fq3 => kernel_rfl
  case zq3 => kernel_rfl
  case qq3 => exact fun _ _ _ h => h
  case yq3 => (refine Or.inl ⟨rfl, ?_⟩; intro w hSw; obtain ⟨hS1, hS2, hS3, hS4, hS5⟩ := hSw; go_simp; try with_reducible rfl)
  case aq3 => assumption
  case rq3 =>
  simp only [Act.put, List.setIfInBounds_toArray, List.set_cons_zero, List.set_cons_succ]
  refine' wpAnyH_take (i := 4) (oi := ?oq4) (v := ?vq4) ?hq4 ?sq4 ?fq4 ?zq4 ?qq4 ?yq4 ?aq4 ?rq4
  case hq4 => (simp only [List.getElem?_toArray, List.getElem?_cons_succ, List.getElem?_cons_zero]; rfl)
  case sq4 => kernel_rfl
  case fq4 => kernel_rfl
  case zq4 => kernel_rfl
  case qq4 => exact fun _ _ _ h => h
  case yq4 => (refine Or.inl ⟨rfl, ?_⟩; intro w hSw; obtain ⟨hS1, hS2, hS3, hS4, hS5⟩ := hSw; go_simp; try with_reducible rfl)
  case aq4 => assumption
  case rq4 =>
  simp only [Act.put, List.setIfInBounds_toArray, List.set_cons_zero, List.set_cons_succ]
  refine' wpAnyH_take (i := 5) (oi := ?oq5) (v := ?vq5) ?hq5 ?sq5 ?fq5 ?zq5 ?qq5 ?yq5 ?aq5 ?rq5
  case hq5 => (simp only [List.getElem?_toArray, List.getElem?_cons_succ, List.getElem?_cons_zero]; rfl)
  case sq5 => kernel_rfl
  case fq5 => kernel_rfl
  case zq5 => kernel_rfl
  case qq5 => exact fun _ _ _ h => h
  case yq5 => (refine Or.inl ⟨rfl, ?_⟩; intro w hSw; obtain ⟨hS1, hS2, hS3, hS4, hS5⟩ := hSw; go_simp; try with_reducible rfl)
  case aq5 => assumption
  case rq5 =>
  simp only [Act.put, List.setIfInBounds_toArray, List.set_cons_zero, List.set_cons_succ]
  refine' wpAnyH_take (i := 6) (oi := ?oq6) (v := ?vq6) ?hq6 ?sq6 ?fq6 ?zq6 ?qq6 ?yq6 ?aq6 ?rq6
  case hq6 => (simp only [List.getElem?_toArray, List.getElem?_cons_succ, List.getElem?_cons_zero]; rfl)
  case sq6 => kernel_rfl
  case fq6 => kernel_rfl
  case zq6 => kernel_rfl
  case qq6 => exact fun _ _ _ h => h
  case yq6 => (refine Or.inl ⟨rfl, ?_⟩; intro w hSw; obtain ⟨hS1, hS2, hS3, hS4, hS5⟩ := hSw; go_simp; try with_reducible rfl)
  case aq6 => assumption
  case rq6 =>
  simp only [Act.put, List.setIfInBounds_toArray, List.set_cons_zero, List.set_cons_succ]
  refine' wpAnyH_take (i := 7) (oi := ?oq7) (v := ?vq7) ?hq7 ?sq7 ?fq7 ?zq7 ?qq7 ?yq7 ?aq7 ?rq7
  case hq7 => (simp only [List.getElem?_toArray, List.getElem?_cons_succ, List.getElem?_cons_zero]; rfl)
  case sq7 => kernel_rfl
  case fq7 => kernel_rfl
  case zq7 => kernel_rfl
  case qq7 => exact fun _ _ _ h => h
  case yq7 => (refine Or.inl ⟨rfl, ?_⟩; intro w hSw; obtain ⟨hS1, hS2, hS3, hS4, hS5⟩ := hSw; go_simp; try with_reducible rfl)
  case aq7 => assumption
  case rq7 =>
  simp only [Act.put, List.setIfInBounds_toArray, List.set_cons_zero, List.set_cons_succ]
  refine' wpAnyH_take (i := 8) (oi := ?oq8) (v := ?vq8) ?hq8 ?sq8 ?fq8 ?zq8 ?qq8 ?yq8 ?aq8 ?rq8
  case hq8 => (simp only [List.getElem?_toArray, List.getElem?_cons_succ, List.getElem?_cons_zero]; rfl)
  case sq8 => kernel_rfl
  case fq8 => kernel_rfl
  case zq8 => kernel_rfl
  case qq8 => exact fun _ _ _ h => h
  case yq8 => (refine Or.inl ⟨rfl, ?_⟩; intro w hSw; obtain ⟨hS1, hS2, hS3, hS4, hS5⟩ := hSw; go_simp; try with_reducible rfl)
  case aq8 => assumption
  case rq8 =>
  simp only [Act.put, List.setIfInBounds_toArray, List.set_cons_zero, List.set_cons_succ]
  refine' wpAnyH_take (i := 9) (oi := ?oq9) (v := ?vq9) ?hq9 ?sq9 ?fq9 ?zq9 ?qq9 ?yq9 ?aq9 ?rq9
  case hq9 => (simp only [List.getElem?_toArray, List.getElem?_cons_succ, List.getElem?_cons_zero]; rfl)
  case sq9 => kernel_rfl
  case fq9 => kernel_rfl
  case zq9 => kernel_rfl
  case qq9 => exact fun _ _ _ h => h
  case yq9 => (refine Or.inl ⟨rfl, ?_⟩; intro w hSw; obtain ⟨hS1, hS2, hS3, hS4, hS5⟩ := hSw; go_simp; try with_reducible rfl)
  case aq9 => assumption
  case rq9 =>
  simp only [Act.put, List.setIfInBounds_toArray, List.set_cons_zero, List.set_cons_succ]
  refine' wpAnyH_take (i := 10) (oi := ?oq10) (v := ?vq10) ?hq10 ?sq10 ?fq10 ?zq10 ?qq10 ?yq10 ?aq10 ?rq10
  case hq10 => (simp only [List.getElem?_toArray, List.getElem?_cons_succ, List.getElem?_cons_zero]; rfl)
  case sq10 => kernel_rfl
  case fq10 => kernel_rfl
  case zq10 => kernel_rfl
  case qq10 => exact fun _ _ _ h => h
  case yq10 => (refine Or.inl ⟨rfl, ?_⟩; intro w hSw; obtain ⟨hS1, hS2, hS3, hS4, hS5⟩ := hSw; go_simp; try with_reducible rfl)
  case aq10 => assumption
  case rq10 =>
  simp only [Act.put, List.setIfInBounds_toArray, List.set_cons_zero, List.set_cons_succ]
  refine' wpAnyH_take (i := 11) (oi := ?oq11) (v := ?vq11) ?hq11 ?sq11 ?fq11 ?zq11 ?qq11 ?yq11 ?aq11 ?rq11
  case hq11 => (simp only [List.getElem?_toArray, List.getElem?_cons_succ, List.getElem?_cons_zero]; rfl)
  case sq11 => kernel_rfl
  case fq11 => kernel_rfl
  case zq11 => kernel_rfl
  case qq11 => exact fun _ _ _ h => h
  case yq11 => (refine Or.inl ⟨rfl, ?_⟩; intro w hSw; obtain ⟨hS1, hS2, hS3, hS4, hS5⟩ := hSw; go_simp; try with_reducible rfl)
  case aq11 => assumption
  case rq11 =>
  simp only [Act.put, List.setIfInBounds_toArray, List.set_cons_zero, List.set_cons_succ]
  refine' wpAnyH_take (i := 12) (oi := ?oq12) (v := ?vq12) ?hq12 ?sq12 ?fq12 ?zq12 ?qq12 ?yq12 ?aq12 ?rq12
  case hq12 => (simp only [List.getElem?_toArray, List.getElem?_cons_succ, List.getElem?_cons_zero]; rfl)
  case sq12 => kernel_rfl
  case fq12 => kernel_rfl
  case zq12 => kernel_rfl
  case qq12 => exact fun _ _ _ h => h
  case yq12 => (refine Or.inl ⟨rfl, ?_⟩; intro w hSw; obtain ⟨hS1, hS2, hS3, hS4, hS5⟩ := hSw; go_simp; try with_reducible rfl)
  case aq12 => assumption
  case rq12 =>
  simp only [Act.put, List.setIfInBounds_toArray, List.set_cons_zero, List.set_cons_succ]
  refine' wpAnyH_take (i := 13) (oi := ?oq13) (v := ?vq13) ?hq13 ?sq13 ?fq13 ?zq13 ?qq13 ?yq13 ?aq13 ?rq13
  case hq13 => (simp only [List.getElem?_toArray, List.getElem?_cons_succ, List.getElem?_cons_zero]; rfl)
  case sq13 => kernel_rfl
  case fq13 => kernel_rfl
  case zq13 => kernel_rfl
  case qq13 => exact fun _ _ _ h => h
  case yq13 => (refine Or.inl ⟨rfl, ?_⟩; intro w hSw; obtain ⟨hS1, hS2, hS3, hS4, hS5⟩ := hSw; go_simp; try with_reducible rfl)
  case aq13 => assumption
  case rq13 =>
  simp only [Act.put, List.setIfInBounds_toArray, List.set_cons_zero, List.set_cons_succ]
  refine wpAnyH_ready (rs := [14]) (by kernel_rfl) (by simp) ?_
  refine' AllReadyH.cons (o := ?oa) ?ha ?ka AllReadyH.nil
  case ha => (simp only [List.getElem?_toArray, List.getElem?_cons_succ, List.getElem?_cons_zero]; rfl)
  case ka =>
  intro K0 hK
  go_simp
  have S2 := Lib.hid (S1.out.alloc #[.map none] 60)
  obtain ⟨g6, hgz⟩ : ∃ g, g = w2.heap.size := ⟨_, rfl⟩
  rw [← hgz] at S2 ⊢
  clear hgz S1
  generalize w2.alloc _ = w3 at *
  refine hK.out _ _ ?_ (fun hHeld => ?_)
  · exact FC.out _ _ (S2.out.re (show _ = Asn.blk g5 32 #[.string (ofL name), .int .i64 mode] * (aBk bb h l wt H L W * (Asn.blk g6 60 #[.map none] * C)) by ac_rfl))
  clear hK K0
  (try simp only [Act.put, List.setIfInBounds_toArray, List.set_cons_zero, List.set_cons_succ])
  refine wpAnyH_ready (rs := [15]) (by kernel_rfl) (by simp) ?_
  refine' AllReadyH.cons (o := ?ob) ?hb ?kb AllReadyH.nil
  case hb => (simp only [List.getElem?_toArray, List.getElem?_cons_succ, List.getElem?_cons_zero]; rfl)
  case kb =>
  intro K0 hK
  have c6 := (S2.out.has (Has.l (has_blk g6 _ _))).cell 0
  have f6 := (S2.out.has (Has.l (has_blk g6 _ _))).free 0
  have S3 := Lib.hid (S2.out.set (Sets.l (sets_blk g6 _ _ 0 (.map ho))))
  go_simp
  clear c6 f6 S2
  simp only [List.setIfInBounds_toArray, List.set_cons_zero] at S3
  generalize World.setCell _ _ _ = w4 at *
  refine hK.out _ _ ?_ (fun hHeld => ?_)
  · exact FC.out _ _ (S3.out.re (show _ = Asn.blk g5 32 #[.string (ofL name), .int .i64 mode] * (aBk bb h l wt H L W * (Asn.blk g6 60 #[.map ho] * C)) by ac_rfl))
  clear hK K0
  (try simp only [Act.put, List.setIfInBounds_toArray, List.set_cons_zero, List.set_cons_succ])
  refine' wpAnyH_take (i := 16) (oi := ?or16) (v := ?vr16) ?hr16 ?sr16 ?fr16 ?zr16 ?qr16 ?yr16 ?ar16 ?rr16
  case hr16 => (simp only [List.getElem?_toArray, List.getElem?_cons_succ, List.getElem?_cons_zero]; rfl)
  case sr16 => kernel_rfl
  case fr16 => kernel_rfl
  case zr16 => kernel_rfl
  case qr16 => exact fun _ _ _ h => h
  case yr16 => (refine Or.inl ⟨rfl, ?_⟩; intro w hSw; obtain ⟨hS1, hS2, hS3, hS4, hS5⟩ := hSw; go_simp; try with_reducible rfl)
  case ar16 => assumption
  case rr16 =>
  simp only [Act.put, List.setIfInBounds_toArray, List.set_cons_zero, List.set_cons_succ]
  refine wpAnyH_done (by kernel_rfl) ?_ _
  clear hHeld
  have S4 := Lib.hid (S3.out.re (show _ = Asn.blk g5 32 #[.string (ofL name), .int .i64 mode] * (aBk bb h l wt H L W * (Asn.blk g6 60 #[.map ho] * C)) by ac_rfl))
  clear S3 FC
  have k := bk_of S4.out.right
  have hvec := (bk_line name S4.out.right).vec
  have c6 : w4.cell? ⟨g6, 0, none⟩ = some (hV H name) := by rw [hho]; exact (S4.out.has (Has.r (Has.r (Has.l (has_blk g6 _ _))))).cell 0
  have hg6 := (S4.out.has (Has.r (Has.r (Has.l (has_blk g6 _ _))))).lt
  obtain ⟨A, c, hvs⟩ := hvec.slice
  rw [hvs] at hvec ⊢
  go_wp2_with fail
  refine (IndexF_any (name := name) _ (ids L name) g6 _ k c6 hg6 hid hvec (by omega)).mono ?_
  rintro e w5 ⟨rfl, hX⟩
  have S5 := Lib.hid (S4.out.below hX)
  clear S4 k c6 hg6 hvec hX
  go_upto_region 4 with fail
  have FD : Hid (∀ (W' : World) (D : Asn), Aid.Own w0 No W' (Asn.blk g5 32 #[.string (ofL name), .int .i64 mode] * (Asn.blk bb 52 #[.map (some h), .map (some l), .map (some wt)] * D)) → W'.cell? ⟨bb, 1, none⟩ = some (.map (some l)) ∧ W'.cell? ⟨g5, 0, none⟩ = some (.string (ofL name))) :=
    Lib.hid fun W' D q => ⟨(q.right.has (Has.l (has_blk bb _ _))).cell 1, (q.has (Has.l (has_blk g5 _ _))).cell 0⟩
  have kb := bk_of S5.out.right
  have c6 : w5.cell? ⟨g6, 0, none⟩ = some (hV H name) := by rw [hho]; exact (S5.out.has (Has.r (Has.r (Has.l (has_blk g6 _ _))))).cell 0
  have hst := Lib.hid (strg_any (name := name) id g6 w5 kb c6 hi)
  clear kb c6
  have SX := Lib.hid ((bk_line name (S5.out.re (show _ = aBk bb h l wt H L W * (Asn.blk g5 32 #[.string (ofL name), .int .i64 mode] * (Asn.blk g6 60 #[.map ho] * C)) by ac_rfl))).re (show _ = Asn.blk g5 32 #[.string (ofL name), .int .i64 mode] * (Asn.blk bb 52 #[.map (some h), .map (some l), .map (some wt)] * (Asn.vec 3 1 (.slice A (ids L name).length c) (ids L name).length (nums (ids L name)) * (aMap Tryz.prog 9 l (lE L) * (aMap Tryz.prog 9 h (hE H) * (aMap Tryz.prog 3 wt (wE W) * (aIn H * (aLn (offL L name) * (Asn.blk g6 60 #[.map ho] * C)))))))) by rw [hvs]; ac_rfl))
  clear S5
  have S5 := SX
  clear SX
  have hle := fx_le (fun y => decide (md H y name = 0)) (ids L name)
  replace hf := hf.out
  have hF : fxI (fun y => decide (md H y name = 0)) (ids L name) = ((fx (fun y => decide (md H y name = 0)) (ids L name) : Nat) : Int) := by unfold fxI; rw [if_neg hf]
  rw [hF]
  clear hF
  have hpl : plH H (ids L name) id name = (fx (fun y => decide (md H y name = 0)) (ids L name)) := by unfold plH; rw [if_neg hm.out]
  have hP : (fx (fun y => decide (md H y name = 0)) (ids L name)) ≤ (ids L name).length := hle
  have hdm : decide (md H id name = 0) = false := decide_eq_false hm.out
  rw [hdm] at hst
  generalize (fx (fun y => decide (md H y name = 0)) (ids L name)) = px at *
  go_wp2_with fail
  refine hst.out.mono ?_
  rintro e w55 ⟨rfl, hX⟩
  have SX := Lib.hid (S5.out.below hX)
  clear S5 hX hst
  have S5 := SX
  clear SX
  go_upto_region 6 with fail
  have S6 := Lib.hid (S5.out.drew)
  clear S5
  refine wp_region_held_drew (S := fun W' : World => W'.cell? ⟨bb, 1, none⟩ = some (.map (some l)) ∧ W'.cell? ⟨g5, 0, none⟩ = some (.string (ofL name))) (by kernel_rfl) (FD.out _ _ S6.out) (fun hHeld => ?_)
  generalize w55.drew = w6 at *
  refine' wpAnyH_take (i := 0) (oi := ?os0) (v := ?vs0) ?hs0 ?ss0 ?fs0 ?zs0 ?qs0 ?ys0 ?as0 ?rs0
  case hs0 => (simp only [List.getElem?_toArray, List.getElem?_cons_succ, List.getElem?_cons_zero]; rfl)
  case ss0 => kernel_rfl
  case fs0 => kernel_rfl
  case zs0 => kernel_rfl
  case qs0 => exact fun _ _ _ h => h
  case ys0 => (refine Or.inl ⟨rfl, ?_⟩; intro w hSw; obtain ⟨hS1, hS2⟩ := hSw; go_simp; try with_reducible rfl)
  case as0 => assumption
  case rs0 =>
  simp only [Act.put, List.setIfInBounds_toArray, List.set_cons_zero, List.set_cons_succ]
  refine' wpAnyH_take (i := 1) (oi := ?os1) (v := ?vs1) ?hs1 ?ss1 ?fs1 ?zs1 ?qs1 ?ys1 ?as1 ?rs1
  case hs1 => (simp only [List.getElem?_toArray, List.getElem?_cons_succ, List.getElem?_cons_zero]; rfl)
  case ss1 => kernel_rfl
  case fs1 => kernel_rfl
  case zs1 => kernel_rfl
  case qs1 => exact fun _ _ _ h => h
  case ys1 => (refine Or.inl ⟨rfl, ?_⟩; intro w hSw; obtain ⟨hS1, hS2⟩ := hSw; go_simp; try with_reducible rfl)
  case as1 => assumption
  case rs1 =>
  simp only [Act.put, List.setIfInBounds_toArray, List.set_cons_zero, List.set_cons_succ]
  refine' wpAnyH_take (i := 2) (oi := ?os2) (v := ?vs2) ?hs2 ?ss2 ?fs2 ?zs2 ?qs2 ?ys2 ?as2 ?rs2
  case hs2 => (simp only [List.getElem?_toArray, List.getElem?_cons_succ, List.getElem?_cons_zero]; rfl)
  case ss2 => kernel_rfl
  case fs2 => kernel_rfl
  case zs2 => kernel_rfl
  case qs2 => exact fun _ _ _ h => h
  case ys2 => (refine Or.inl ⟨rfl, ?_⟩; intro w hSw; obtain ⟨hS1, hS2⟩ := hSw; go_simp; try with_reducible rfl)
  case as2 => assumption
  case rs2 =>
  simp only [Act.put, List.setIfInBounds_toArray, List.set_cons_zero, List.set_cons_succ]
  refine' wpAnyH_take (i := 3) (oi := ?os3) (v := ?vs3) ?hs3 ?ss3 ?fs3 ?zs3 ?qs3 ?ys3 ?as3 ?rs3
  case hs3 => (simp only [List.getElem?_toArray, List.getElem?_cons_succ, List.getElem?_cons_zero]; rfl)
  case ss3 => kernel_rfl
  case fs3 => kernel_rfl
  case zs3 => kernel_rfl
  case qs3 => exact fun _ _ _ h => h
  case ys3 => (refine Or.inl ⟨rfl, ?_⟩; intro w hSw; obtain ⟨hS1, hS2⟩ := hSw; go_simp; try with_reducible rfl)
  case as3 => assumption
  case rs3 =>
  simp only [Act.put, List.setIfInBounds_toArray, List.set_cons_zero, List.set_cons_succ]
  refine' wpAnyH_take (i := 4) (oi := ?os4) (v := ?vs4) ?hs4 ?ss4 ?fs4 ?zs4 ?qs4 ?ys4 ?as4 ?rs4
  case hs4 => (simp only [List.getElem?_toArray, List.getElem?_cons_succ, List.getElem?_cons_zero]; rfl)
  case ss4 => kernel_rfl
  case fs4 => kernel_rfl
  case zs4 => kernel_rfl
  case qs4 => exact fun _ _ _ h => h
  case ys4 => (refine Or.inl ⟨rfl, ?_⟩; intro w hSw; obtain ⟨hS1, hS2⟩ := hSw; go_simp; try with_reducible rfl)
  case as4 => assumption
  case rs4 =>
  simp only [Act.put, List.setIfInBounds_toArray, List.set_cons_zero, List.set_cons_succ]
  refine' wpAnyH_take (i := 5) (oi := ?os5) (v := ?vs5) ?hs5 ?ss5 ?fs5 ?zs5 ?qs5 ?ys5 ?as5 ?rs5
  case hs5 => (simp only [List.getElem?_toArray, List.getElem?_cons_succ, List.getElem?_cons_zero]; rfl)
  case ss5 => kernel_rfl
  case fs5 => kernel_rfl
  case zs5 => kernel_rfl
  case qs5 => exact fun _ _ _ h => h
  case ys5 => (refine Or.inl ⟨rfl, ?_⟩; intro w hSw; obtain ⟨hS1, hS2⟩ := hSw; go_simp; try with_reducible rfl)
  case as5 => assumption
  case rs5 =>
  simp only [Act.put, List.setIfInBounds_toArray, List.set_cons_zero, List.set_cons_succ]
  refine' wpAnyH_take (i := 6) (oi := ?os6) (v := ?vs6) ?hs6 ?ss6 ?fs6 ?zs6 ?qs6 ?ys6 ?as6 ?rs6
  case hs6 => (simp only [List.getElem?_toArray, List.getElem?_cons_succ, List.getElem?_cons_zero]; rfl)
  case ss6 => kernel_rfl
  case fs6 => kernel_rfl
  case zs6 => kernel_rfl
  case qs6 => exact fun _ _ _ h => h
  case ys6 => (refine Or.inl ⟨rfl, ?_⟩; intro w hSw; obtain ⟨hS1, hS2⟩ := hSw; go_simp; try with_reducible rfl)
  case as6 => assumption
  case rs6 =>
  simp only [Act.put, List.setIfInBounds_toArray, List.set_cons_zero, List.set_cons_succ]
  refine' wpAnyH_take (i := 7) (oi := ?os7) (v := ?vs7) ?hs7 ?ss7 ?fs7 ?zs7 ?qs7 ?ys7 ?as7 ?rs7
  case hs7 => (simp only [List.getElem?_toArray, List.getElem?_cons_succ, List.getElem?_cons_zero]; rfl)
  case ss7 => kernel_rfl
  case fs7 => kernel_rfl
  case zs7 => kernel_rfl
  case qs7 => exact fun _ _ _ h => h
  case ys7 => (refine Or.inl ⟨rfl, ?_⟩; intro w hSw; obtain ⟨hS1, hS2⟩ := hSw; go_simp; try with_reducible rfl)
  case as7 => assumption
  case rs7 =>
  simp only [Act.put, List.setIfInBounds_toArray, List.set_cons_zero, List.set_cons_succ]
  refine' wpAnyH_take (i := 8) (oi := ?os8) (v := ?vs8) ?hs8 ?ss8 ?fs8 ?zs8 ?qs8 ?ys8 ?as8 ?rs8
  case hs8 => (simp only [List.getElem?_toArray, List.getElem?_cons_succ, List.getElem?_cons_zero]; rfl)
  case ss8 => kernel_rfl
  case fs8 => kernel_rfl
  case zs8 => kernel_rfl
  case qs8 => exact fun _ _ _ h => h
  case ys8 => (refine Or.inl ⟨rfl, ?_⟩; intro w hSw; obtain ⟨hS1, hS2⟩ := hSw; go_simp; try with_reducible rfl)
  case as8 => assumption
  case rs8 =>
  simp only [Act.put, List.setIfInBounds_toArray, List.set_cons_zero, List.set_cons_succ]
  refine wpAnyH_ready (rs := [9]) (by kernel_rfl) (by simp) ?_
  refine' AllReadyH.cons (o := ?oc) ?hc ?kc AllReadyH.nil
  case hc => (simp only [List.getElem?_toArray, List.getElem?_cons_succ, List.getElem?_cons_zero]; rfl)
  case kc =>
  intro K0 hK
  go_simp
  have S7 := Lib.hid (S6.out.alloc #[.int .i64 id] 3)
  obtain ⟨g7, hgz⟩ : ∃ g, g = w6.heap.size := ⟨_, rfl⟩
  rw [← hgz] at S7 ⊢
  clear hgz S6
  generalize w6.alloc _ = w7 at *
  refine hK.out _ _ ?_ (fun hHeld => ?_)
  · exact FD.out _ _ (S7.out.re (show _ = Asn.blk g5 32 #[.string (ofL name), .int .i64 mode] * (Asn.blk bb 52 #[.map (some h), .map (some l), .map (some wt)] * (Asn.blk g7 3 #[.int .i64 id] * (Asn.vec 3 1 (.slice A (ids L name).length c) (ids L name).length (nums (ids L name)) * (aMap Tryz.prog 9 l (lE L) * (aMap Tryz.prog 9 h (hE H) * (aMap Tryz.prog 3 wt (wE W) * (aIn H * (aLn (offL L name) * (Asn.blk g6 60 #[.map ho] * C))))))))) by ac_rfl))
  clear hK K0
  (try simp only [Act.put, List.setIfInBounds_toArray, List.set_cons_zero, List.set_cons_succ])
  refine wpAnyH_ready (rs := [10]) (by kernel_rfl) (by simp) ?_
  refine' AllReadyH.cons (o := ?od) ?hd ?kd AllReadyH.nil
  case hd => (simp only [List.getElem?_toArray, List.getElem?_cons_succ, List.getElem?_cons_zero]; rfl)
  case kd =>
  intro K0 hK
  go_simp
  go_at_call 39
  refine (ins_int px hP hl rfl (nums_one _) (S7.out.re (show _ = Asn.blk g7 3 #[.int .i64 id] * (Asn.vec 3 1 (.slice A (ids L name).length c) (ids L name).length (nums (ids L name)) * (Asn.blk g5 32 #[.string (ofL name), .int .i64 mode] * (Asn.blk bb 52 #[.map (some h), .map (some l), .map (some wt)] * (aMap Tryz.prog 9 l (lE L) * (aMap Tryz.prog 9 h (hE H) * (aMap Tryz.prog 3 wt (wE W) * (aIn H * (aLn (offL L name) * (Asn.blk g6 60 #[.map ho] * C))))))))) by ac_rfl))).mono ?_
  rintro e w8 ⟨v, rfl, hX⟩
  have S8 := Lib.hid (hX.re (show _ = Asn.blk g5 32 #[.string (ofL name), .int .i64 mode] * (Asn.blk bb 52 #[.map (some h), .map (some l), .map (some wt)] * (Asn.vec 3 1 v ((ids L name).length + 1) ((nums (ids L name)).take px ++ [.int .i64 id] ++ (nums (ids L name)).drop px) * (aMap Tryz.prog 9 l (lE L) * (aMap Tryz.prog 9 h (hE H) * (aMap Tryz.prog 3 wt (wE W) * (aIn H * (aLn (offL L name) * (Asn.blk g6 60 #[.map ho] * C)))))))) by ac_rfl))
  clear S7 hX
  refine hK.out _ _ ?_ (fun hHeld => ?_)
  · exact FD.out _ _ S8.out
  clear hK K0
  (try simp only [Act.put, List.setIfInBounds_toArray, List.set_cons_zero, List.set_cons_succ])
  refine wpAnyH_ready (rs := [11]) (by kernel_rfl) (by simp) ?_
  refine' AllReadyH.cons (o := ?oe) ?he ?ke AllReadyH.nil
  case he => (simp only [List.getElem?_toArray, List.getElem?_cons_succ, List.getElem?_cons_zero]; rfl)
  case ke =>
  intro K0 hK
  have S9 := Lib.hid (S8.out.re (show _ = aMap Tryz.prog 9 l (lE L) * (Asn.vec 3 1 v ((ids L name).length + 1) ((nums (ids L name)).take px ++ [.int .i64 id] ++ (nums (ids L name)).drop px) * (Asn.blk g5 32 #[.string (ofL name), .int .i64 mode] * (Asn.blk bb 52 #[.map (some h), .map (some l), .map (some wt)] * (aMap Tryz.prog 9 h (hE H) * (aMap Tryz.prog 3 wt (wE W) * (aIn H * (aLn (offL L name) * (Asn.blk g6 60 #[.map ho] * C)))))))) by ac_rfl))
  obtain ⟨w9, hst, hm9, hc9⟩ := (S9.out.kn (At.l (at_map _ _ _ _))).store kS Tryz.underlying49 (by rw [show (lE L).length = L.length from List.length_map _]; unfold maxLen; omega) (key_str name hn) (val := v)
  have S10 := Lib.hid (S9.out.mapTo hc9 hm9)
  rw [off_lE] at S10
  have S11 := Lib.hid (S10.out.re (show _ = Asn.blk g5 32 #[.string (ofL name), .int .i64 mode] * (Asn.blk bb 52 #[.map (some h), .map (some l), .map (some wt)] * (aMap Tryz.prog 9 l ((.string name, v) :: lE (offL L name)) * (Asn.vec 3 1 v ((ids L name).length + 1) ((nums (ids L name)).take px ++ [.int .i64 id] ++ (nums (ids L name)).drop px) * (aMap Tryz.prog 9 h (hE H) * (aMap Tryz.prog 3 wt (wE W) * (aIn H * (aLn (offL L name) * (Asn.blk g6 60 #[.map ho] * C)))))))) by ac_rfl))
  clear S8 S9 S10 hm9 hc9
  go_simp
  refine hK.out _ _ ?_ (fun hHeld => ?_)
  · exact FD.out _ _ S11.out
  clear hK K0 hHeld hst
  (try simp only [Act.put, List.setIfInBounds_toArray, List.set_cons_zero, List.set_cons_succ])
  refine wpAnyH_done (by kernel_rfl) ?_ _
  have S12 := Lib.hid S11.out.drew
  clear S11
  have d2 : w9.drew.cell? ⟨bb, 2, none⟩ = some (.map (some wt)) := (S12.out.right.has (Has.l (has_blk bb _ _))).cell 2
  have k0 : w9.drew.cell? ⟨g5, 0, none⟩ = some (.string (ofL name)) := (S12.out.has (Has.l (has_blk g5 _ _))).cell 0
  have k1 : w9.drew.cell? ⟨g5, 1, none⟩ = some (.int .i64 mode) := (S12.out.has (Has.l (has_blk g5 _ _))).cell 1
  have hln : (ids L name).length + 1 = (entH H (ids L name) id name).length := by unfold entH; rw [hpl, List.length_append, List.length_append, List.length_take, List.length_drop, List.length_singleton]; omega
  have hnm : (nums (ids L name)).take px ++ [.int .i64 id] ++ (nums (ids L name)).drop px = nums (entH H (ids L name) id name) := by unfold entH nums; rw [hpl, List.map_append, List.map_append, List.map_take, List.map_drop]; rfl
  rw [hnm, hln] at S12
  have S13 := Lib.hid (S12.out.re (show _ = aMap Tryz.prog 3 wt (wE W) * (Asn.blk g5 32 #[.string (ofL name), .int .i64 mode] * (Asn.blk bb 52 #[.map (some h), .map (some l), .map (some wt)] * (aMap Tryz.prog 9 l ((.string name, v) :: lE (offL L name)) * (Asn.vec 3 1 v (entH H (ids L name) id name).length (nums (entH H (ids L name) id name)) * (aMap Tryz.prog 9 h (hE H) * (aIn H * (aLn (offL L name) * (Asn.blk g6 60 #[.map ho] * C)))))))) by ac_rfl))
  clear S12 hnm hln
  obtain ⟨w10, hst, hm10, hc10⟩ := (S13.out.kn (At.l (at_map _ _ _ _))).store kI Tryz.underlying50 (by rw [show (wE W).length = W.length from List.length_map _]; unfold maxLen; omega) (key_int id hi) (val := .agg #[.string (ofL name), .int .i64 mode])
  have S14 := Lib.hid (S13.out.mapTo hc10 hm10)
  rw [off_wE] at S14
  clear S13 hm10 hc10
  go_wp2_with fail
  refine wp_region_still_tail 6 (by kernel_rfl) (by kernel_rfl) ?_
  simp only [List.take_succ_cons, List.take_zero, List.drop_succ_cons, List.drop_zero]
  change wpStill _ _ w9.drew _ _ _
  repeat still_step
  refine wpStill_nil ?_
  change wpList _ _ _ _ _ w9.drew
  go_wp2_with fail
  go_returns
  refine ⟨rfl, v, ?_⟩
  have S15 := S14.out.re (show _ = (Asn.blk g5 32 #[.string (ofL name), .int .i64 mode] * Asn.blk g6 60 #[.map ho]) * (aBk bb h l wt H ((name, v, entH H (ids L name) id name) :: offL L name) ((id, name, mode) :: offW W id) * C) by
    unfold aBk
    show _ = _ * ((_ * (_ * (aMap _ _ _ ((.string name, v) :: lE (offL L name)) * (aMap _ _ _ ((.int .i64 id, .agg #[.string (ofL name), .int .i64 mode]) :: wE (offW W id)) * (_ * (Asn.vec _ _ _ _ _ * aLn (offL L name))))))) * C)
    ac_rfl)
  exact S15.right
theorem enter_any (id mode : Int) (name : By) (w0 w : World) (C : Asn) (hS : Aid.Own w0 No w (aBk bb h l wt H L W * C)) (hi : I64w id) (hn : name.length ≤ 1000) (hl : (ids L name).length ≤ 100000) (hL : L.length ≤ 100000) (hW : W.length ≤ 100000) (hid : ∀ o, o ∈ ids L name → I64w o) :
    Calls Tryz.prog 23 #[bPtr bb, .int .i64 id, .agg #[.string (ofL name), .int .i64 mode]] w fun e w' => e = .returned (.tuple #[]) ∧ ∃ v, Aid.Own w0 No w' (aBk bb h l wt H ((name, v, entH H (ids L name) id name) :: offL L name) ((id, name, mode) :: offW W id) * C) := by
  by_cases hf : fx (fun y => decide (md H y name = 0)) (ids L name) = (ids L name).length
  · exact enter_a id mode name w0 w C hS hi hn hl hL hW hid hf
  · by_cases hm : md H id name = 0
    · exact enter_b id mode name w0 w C hS hi hn hl hL hW hid hf hm
    · exact enter_c id mode name w0 w C hS hi hn hl hL hW hid hf hm
end
end Go.Proofs.YtikdjgholjealaaGreatDoor.Lk
