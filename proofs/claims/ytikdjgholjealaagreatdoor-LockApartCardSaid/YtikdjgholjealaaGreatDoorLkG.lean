/- Leaving a line. -/
import Derived.Test.YtikdjgholjealaaGreatDoorLkF
namespace Go.Proofs.YtikdjgholjealaaGreatDoor.Lk
open Go.ChangeShapes Go.WideShapes Go.ChangeAt Go.RowKit Go.PlainAid Aid Md
set_option linter.unusedVariables false
set_option linter.unusedSimpArgs false
def offL (L : List Lin) (name : By) : List Lin := L.filter fun x => !decide (x.1 = name)
def offW (W : List Wan) (id : Int) : List Wan := W.filter fun x => !decide (x.1 = id)
section
variable {bb h l wt : Nat} {H : List Hol} {L : List Lin} {W : List Wan}
theorem off_lE (L : List Lin) (name : By) : off (.string name) (lE L) = lE (offL L name) := by
  unfold off lE offL
  rw [List.filter_map]
  congr 1
  exact List.filter_congr fun x _ => by
    show (!(x.1 == name)) = _
    by_cases h : x.1 = name <;> simp [h]
theorem off_wE (W : List Wan) (id : Int) : off (.int .i64 id) (wE W) = wE (offW W id) := by
  unfold off wE offW
  rw [List.filter_map]
  congr 1
  exact List.filter_congr fun x _ => by show (!(Lit.int .i64 x.1).sameKey (.int .i64 id)) = _; rw [same_int]
theorem off_noneL {L : List Lin} {name : By} (h : linL L name = none) : offL L name = L := by
  refine List.filter_eq_self.2 fun x hx => ?_
  have := List.find?_eq_none.1 h x hx
  simpa using this
def ApartL (L : List Lin) : Prop := L.Pairwise fun x y => x.1 ≠ y.1
theorem Bk.apartL {w : World} (k : Bk w bb h l wt H L W) : ApartL L := by
  have := k.lm.apart kS
  unfold lE at this
  rw [List.pairwise_map] at this
  exact this.imp fun hne e => hne (by rw [e])
theorem lin_perm {L : List Lin} {name : By} {x : Lin} (ha : ApartL L) (hf : linL L name = some x) : L.Perm (x :: offL L name) ∧ x.1 = name := by
  have hn : x.1 = name := by
    have := List.find?_some hf
    simpa using this
  refine ⟨?_, hn⟩
  subst hn
  induction L with
  | nil => cases hf
  | cons y L ih =>
    obtain ⟨h1, h2⟩ := List.pairwise_cons.1 ha
    unfold linL at hf
    rw [List.find?_cons] at hf
    by_cases hy : y.1 = x.1
    · rw [decide_eq_true hy] at hf
      obtain rfl : y = x := Option.some.inj hf
      have e : offL (y :: L) y.1 = L := by
        unfold offL
        rw [List.filter_cons, decide_eq_true rfl]
        simp only [Bool.not_true, Bool.false_eq_true, if_false]
        exact List.filter_eq_self.2 fun z hz => by rw [decide_eq_false (h1 z hz).symm]; rfl
      rw [e]
    · rw [decide_eq_false hy] at hf
      have e : offL (y :: L) x.1 = y :: offL L x.1 := by
        unfold offL
        rw [List.filter_cons, decide_eq_false hy]
        rfl
      rw [e]
      exact ((ih h2 hf).cons y).trans (List.Perm.swap _ _ _)
theorem aLn_perm {L L' : List Lin} (h : L.Perm L') : aLn L = aLn L' := by
  induction h with
  | nil => rfl
  | cons x _ ih => show Asn.vec _ _ _ _ _ * aLn _ = _ * aLn _; rw [ih]
  | swap x y l => show Asn.vec _ _ _ _ _ * (Asn.vec _ _ _ _ _ * aLn l) = Asn.vec _ _ _ _ _ * (Asn.vec _ _ _ _ _ * aLn l); ac_rfl
  | trans _ _ ih1 ih2 => rw [ih1, ih2]
theorem bk_permL {w0 w : World} {O0 : Nat → Prop} {L' : List Lin} {C : Asn} (hp : L.Perm L') (hS : Aid.Own w0 O0 w (aBk bb h l wt H L W * C)) : Aid.Own w0 O0 w (aBk bb h l wt H L' W * C) := by
  unfold aBk at hS ⊢
  rw [aLn_perm hp] at hS
  exact hS.imp (Imp.l (Imp.r (Imp.r (Imp.l (aMap_perm (hp.map _))))))
def lvL (l : List Int) (id : Int) : List Int := l.take (fx (fun z => decide (z = id)) l) ++ l.drop (fx (fun z => decide (z = id)) l + 1)
theorem fx_mem {p : Int → Bool} {l : List Int} {x : Int} (hx : x ∈ l) (hp : p x = true) : fx p l < l.length := by
  have h1 := fx_le p l
  have h2 := fx_lo p l
  rcases Nat.lt_or_ge (fx p l) l.length with h | h
  · exact h
  · obtain ⟨j, hj⟩ := List.mem_iff_getElem?.1 hx
    have hjl := (List.getElem?_eq_some_iff.1 hj).1
    have := h2 j (by omega) x hj
    rw [hp] at this; cases this
theorem nums_one (l : List Int) : ∀ v, v ∈ nums l → v.oneCell' = true := by
  intro v hv
  obtain ⟨x, -, rfl⟩ := List.mem_map.1 hv
  rfl
theorem leave_no (id : Int) (w : World) (k : Bk w bb h l wt H L W) (hi : I64w id) (hw : wanL W id = none) :
    Calls Tryz.prog 30 #[bPtr bb, .int .i64 id] w fun e w' => e = .returned (.tuple #[]) ∧ Below w.heap.size w w' := by
  have e1 := k.look_w2 id hi
  rw [hw] at e1
  have c0 : w.cell? ⟨bb, 2, none⟩ = some (.map (some wt)) := k.blk.cell 2
  have S := Lib.hid ((Own.none w).alloc #[.string (ofL (wV W id).1), .int .i64 (wV W id).2] 32)
  unfold bPtr
  simp only [Option.isSome_none] at e1
  go_enter Tryz.func30, Tryz.ntmps30
  go_wp2_with fail
  go_returns
  exact ⟨rfl, S.out.bel⟩
set_option maxRecDepth 100000 in
set_option maxHeartbeats 8000000 in
theorem leave_one (x : Lin) (y : Wan) (id : Int) (w0 w : World) (C : Asn) (hS : Aid.Own w0 No w (aBk bb h l wt H L W * C)) (hi : I64w id) (hw : wanL W id = some y) (hn : y.2.1.length ≤ 1000) (hx : linL L y.2.1 = some x) (h1 : x.2.2.length = 1) :
    Calls Tryz.prog 30 #[bPtr bb, .int .i64 id] w fun e w' => e = .returned (.tuple #[]) ∧ Aid.Own w0 No w' (aBk bb h l wt H (offL L y.2.1) (offW W id) * C) := by
  have k := bk_of hS
  have e1 := k.look_w2 id hi
  have hwv : wV W id = y.2 := by unfold wV; rw [hw]
  rw [hw, hwv] at e1
  simp only [Option.isSome_some] at e1
  have c0 : w.cell? ⟨bb, 2, none⟩ = some (.map (some wt)) := k.blk.cell 2
  have S0 := Lib.hid (hS.alloc #[.string (ofL y.2.1), .int .i64 y.2.2] 32)
  clear k hwv hS
  unfold bPtr
  go_enter Tryz.func30, Tryz.ntmps30
  go_upto_region 2 with fail
  obtain ⟨g4, hgz⟩ : ∃ g, g = w.heap.size := ⟨_, rfl⟩
  rw [← hgz] at S0 ⊢
  clear hgz e1 c0
  generalize w.alloc _ = w1 at *
  have c0 : w1.cell? ⟨bb, 2, none⟩ = some (.map (some wt)) := (bk_of S0.out.right).blk.cell 2
  have S1 := Lib.hid (S0.out.re (show _ = aMap Tryz.prog 3 wt (wE W) * (Asn.blk g4 32 #[.string (ofL y.2.1), .int .i64 y.2.2] * (Asn.blk bb 52 #[.map (some h), .map (some l), .map (some wt)] * (aMap Tryz.prog 9 h (hE H) * (aMap Tryz.prog 9 l (lE L) * (aIn H * (aLn L * C)))))) by unfold aBk; ac_rfl))
  obtain ⟨w2, hst, hm2, hc2⟩ := (S1.out.kn (At.l (at_map _ _ _ _))).drop kI Tryz.underlying50 (key_int id hi) 0
  have S2 := Lib.hid (S1.out.mapTo hc2 hm2)
  rw [off_wE] at S2
  clear S0 S1 hm2 hc2
  go_upto_region 3 with (at_builtin; refine list_known rfl .delete Builtin.delete_ (fun _ _ _ _ => rfl) _ #[50, 3] rfl #[.map (some wt), .int .i64 id] (by simp [Act.eval, Act.put]) hst ?_)
  clear hst c0
  have S3 := Lib.hid (S2.out.re (show _ = Asn.blk g4 32 #[.string (ofL y.2.1), .int .i64 y.2.2] * (aBk bb h l wt H L (offW W id) * C) by unfold aBk; ac_rfl))
  clear S2
  have k := bk_of S3.out.right
  have e1 : ∀ q, (Instr.lookup 49 (.map (some l)) (.string (ofL y.2.1)) false).run Tryz.prog (w2.drewN q) = .ok (lV L y.2.1) (w2.drewN q) := fun q => (k.keepB (w' := w2.drewN q) ⟨rfl, rfl, rfl, Nat.le_refl _, fun _ _ => rfl⟩).look_l y.2.1 hn
  obtain ⟨hpm, hnm⟩ := lin_perm k.apartL hx
  have hvec : Vec w2 3 1 x.2.1 x.2.2.length (nums x.2.2) := k.li x (hpm.mem_iff.2 List.mem_cons_self)
  have hlv : lV L y.2.1 = x.2.1 := by unfold lV; rw [hx]
  rw [hlv] at e1
  obtain ⟨A, c, hvs⟩ := hvec.slice
  rw [hvs] at e1
  clear hlv hvec
  have c0 : w2.cell? ⟨bb, 1, none⟩ = some (.map (some l)) := k.blk.cell 1
  have d0 : w2.cell? ⟨g4, 0, none⟩ = some (.string (ofL y.2.1)) := (S3.out.has (Has.l (has_blk g4 _ _))).cell 0
  clear k
  go_wp2_with fail
  go_quiet (fail)
  have S4 := Lib.hid (S3.out.drewN nq)
  clear S3 e1 c0 d0
  generalize w2.drewN nq = w3 at *
  have hb : ((x.2.2.length : Int) == 1) = true := by rw [h1]; rfl
  have S5 := Lib.hid S4.out.drew
  have k := bk_of S5.out.right
  have c0 : w3.drew.cell? ⟨bb, 1, none⟩ = some (.map (some l)) := k.blk.cell 1
  have d0 : w3.drew.cell? ⟨g4, 0, none⟩ = some (.string (ofL y.2.1)) := (S5.out.has (Has.l (has_blk g4 _ _))).cell 0
  clear k S4
  have S6 := Lib.hid (S5.out.re (show _ = aMap Tryz.prog 9 l (lE L) * (Asn.blk g4 32 #[.string (ofL y.2.1), .int .i64 y.2.2] * (Asn.blk bb 52 #[.map (some h), .map (some l), .map (some wt)] * (aMap Tryz.prog 9 h (hE H) * (aMap Tryz.prog 3 wt (wE (offW W id)) * (aIn H * (aLn L * C)))))) by unfold aBk; ac_rfl))
  clear S5
  obtain ⟨w4, hst, hm4, hc4⟩ := (S6.out.kn (At.l (at_map _ _ _ _))).drop kS Tryz.underlying49 (key_str y.2.1 hn) 0
  have S7 := Lib.hid (S6.out.mapTo hc4 hm4)
  rw [off_lE] at S7
  clear S6 hm4 hc4
  go_wp2_with fail
  refine wp_region_still_tail 6 (by kernel_rfl) (by kernel_rfl) ?_
  simp only [List.take_succ_cons, List.take_zero, List.drop_succ_cons, List.drop_zero]
  change wpStill _ _ w3.drew _ _ _
  repeat still_step
  refine wpStill_nil ?_
  change wpList _ _ _ _ _ w3.drew
  clear c0 d0
  go_wp2_with (at_builtin; refine list_known rfl .delete Builtin.delete_ (fun _ _ _ _ => rfl) _ #[49, 9] rfl #[.map (some l), .string (ofL y.2.1)] (by simp [Act.eval, Act.put]) hst ?_)
  go_returns
  refine ⟨rfl, ?_⟩
  rw [aLn_perm hpm] at S7
  have S8 := S7.out.re (show _ = (Asn.blk g4 32 #[.string (ofL y.2.1), .int .i64 y.2.2] * Asn.vec 3 1 x.2.1 x.2.2.length (nums x.2.2)) * (aBk bb h l wt H (offL L y.2.1) (offW W id) * C) by
    unfold aBk
    show _ * (_ * (_ * (_ * (_ * (_ * ((_ * aLn (offL L y.2.1)) * _)))))) = _
    ac_rfl)
  exact S8.right
set_option maxRecDepth 100000 in
set_option maxHeartbeats 8000000 in
theorem leave_more (x : Lin) (y : Wan) (id : Int) (w0 w : World) (C : Asn) (hS : Aid.Own w0 No w (aBk bb h l wt H L W * C)) (hi : I64w id) (hw : wanL W id = some y) (hn : y.2.1.length ≤ 1000) (hx : linL L y.2.1 = some x) (h1 : x.2.2.length ≠ 1) (hl : x.2.2.length ≤ 100000) (hL : L.length ≤ 100000) (hm : id ∈ x.2.2) :
    Calls Tryz.prog 30 #[bPtr bb, .int .i64 id] w fun e w' => e = .returned (.tuple #[]) ∧ ∃ v, Aid.Own w0 No w' (aBk bb h l wt H ((y.2.1, v, lvL x.2.2 id) :: offL L y.2.1) (offW W id) * C) := by
  have k := bk_of hS
  have e1 := k.look_w2 id hi
  have hwv : wV W id = y.2 := by unfold wV; rw [hw]
  rw [hw, hwv] at e1
  simp only [Option.isSome_some] at e1
  have c0 : w.cell? ⟨bb, 2, none⟩ = some (.map (some wt)) := k.blk.cell 2
  have S0 := Lib.hid (hS.alloc #[.string (ofL y.2.1), .int .i64 y.2.2] 32)
  clear k hwv hS
  unfold bPtr
  go_enter Tryz.func30, Tryz.ntmps30
  go_upto_region 2 with fail
  obtain ⟨g4, hgz⟩ : ∃ g, g = w.heap.size := ⟨_, rfl⟩
  rw [← hgz] at S0 ⊢
  clear hgz e1 c0
  generalize w.alloc _ = w1 at *
  have c0 : w1.cell? ⟨bb, 2, none⟩ = some (.map (some wt)) := (bk_of S0.out.right).blk.cell 2
  have S1 := Lib.hid (S0.out.re (show _ = aMap Tryz.prog 3 wt (wE W) * (Asn.blk g4 32 #[.string (ofL y.2.1), .int .i64 y.2.2] * (Asn.blk bb 52 #[.map (some h), .map (some l), .map (some wt)] * (aMap Tryz.prog 9 h (hE H) * (aMap Tryz.prog 9 l (lE L) * (aIn H * (aLn L * C)))))) by unfold aBk; ac_rfl))
  obtain ⟨w2, hst, hm2, hc2⟩ := (S1.out.kn (At.l (at_map _ _ _ _))).drop kI Tryz.underlying50 (key_int id hi) 0
  have S2 := Lib.hid (S1.out.mapTo hc2 hm2)
  rw [off_wE] at S2
  clear S0 S1 hm2 hc2
  go_upto_region 3 with (at_builtin; refine list_known rfl .delete Builtin.delete_ (fun _ _ _ _ => rfl) _ #[50, 3] rfl #[.map (some wt), .int .i64 id] (by simp [Act.eval, Act.put]) hst ?_)
  clear hst c0
  have S3 := Lib.hid (S2.out.re (show _ = Asn.blk g4 32 #[.string (ofL y.2.1), .int .i64 y.2.2] * (aBk bb h l wt H L (offW W id) * C) by unfold aBk; ac_rfl))
  clear S2
  have k := bk_of S3.out.right
  have e1 : ∀ q, (Instr.lookup 49 (.map (some l)) (.string (ofL y.2.1)) false).run Tryz.prog (w2.drewN q) = .ok (lV L y.2.1) (w2.drewN q) := fun q => (k.keepB (w' := w2.drewN q) ⟨rfl, rfl, rfl, Nat.le_refl _, fun _ _ => rfl⟩).look_l y.2.1 hn
  obtain ⟨hpm, hnm⟩ := lin_perm k.apartL hx
  have hvec : Vec w2 3 1 x.2.1 x.2.2.length (nums x.2.2) := k.li x (hpm.mem_iff.2 List.mem_cons_self)
  have hlv : lV L y.2.1 = x.2.1 := by unfold lV; rw [hx]
  rw [hlv] at e1
  obtain ⟨A, c, hvs⟩ := hvec.slice
  rw [hvs] at e1
  clear hlv hvec
  have c0 : w2.cell? ⟨bb, 1, none⟩ = some (.map (some l)) := k.blk.cell 1
  have d0 : w2.cell? ⟨g4, 0, none⟩ = some (.string (ofL y.2.1)) := (S3.out.has (Has.l (has_blk g4 _ _))).cell 0
  clear k
  go_wp2_with fail
  go_quiet (fail)
  have S4 := Lib.hid (S3.out.drewN nq)
  clear S3 e1 c0 d0
  generalize w2.drewN nq = w3 at *
  have hb : ((x.2.2.length : Int) == 1) = false := by simpa using (by omega : ¬ ((x.2.2.length : Int) = 1))
  have hvec : Vec w3 3 1 (.slice A x.2.2.length c) x.2.2.length (nums x.2.2) := by rw [← hvs]; exact (bk_of S4.out.right).li x (hpm.mem_iff.2 List.mem_cons_self)
  go_wp2_with fail
  refine (Index_any _ x.2.2 id _ hvec (by omega)).mono ?_
  rintro e w4 ⟨rfl, hX⟩
  have S5 := Lib.hid (S4.out.below hX)
  clear hX S4 hvec
  have hF : fxI (fun z => decide (z = id)) x.2.2 = ((fx (fun z => decide (z = id)) x.2.2 : Nat) : Int) := by unfold fxI; rw [if_neg (by have := fx_mem (p := fun z => decide (z = id)) hm (by simp); omega)]
  rw [hF]
  have hi1 := fx_mem (p := fun z => decide (z = id)) hm (by simp)
  have hlv : lvL x.2.2 id = x.2.2.take (fx (fun z => decide (z = id)) x.2.2) ++ x.2.2.drop (fx (fun z => decide (z = id)) x.2.2 + 1) := rfl
  generalize fx (fun z => decide (z = id)) x.2.2 = ix at *
  clear hF
  go_upto_region 7 with fail
  have hvec : Vec w4.drew 3 1 (.slice A x.2.2.length c) x.2.2.length (nums x.2.2) := by rw [← hvs]; exact (bk_of S5.out.drew.right).li x (hpm.mem_iff.2 List.mem_cons_self)
  obtain ⟨b, rfl⟩ : ∃ b, A = some ⟨b, 0, none⟩ := by
    rcases hvec.forms with ⟨-, hz⟩ | ⟨g, cap, he, -⟩
    · omega
    · cases he; exact ⟨_, rfl⟩
  have FC : Hid (∀ (W' : World) (D : Asn), Aid.Own w0 No W' (Asn.blk g4 32 #[.string (ofL y.2.1), .int .i64 y.2.2] * (Asn.blk bb 52 #[.map (some h), .map (some l), .map (some wt)] * D)) → W'.cell? ⟨bb, 1, none⟩ = some (.map (some l)) ∧ W'.cell? ⟨g4, 0, none⟩ = some (.string (ofL y.2.1))) :=
    Lib.hid fun W' D q => ⟨(q.right.has (Has.l (has_blk bb _ _))).cell 1, (q.has (Has.l (has_blk g4 _ _))).cell 0⟩
  have S6 := Lib.hid (S5.out.drew.re (show _ = Asn.blk g4 32 #[.string (ofL y.2.1), .int .i64 y.2.2] * (Asn.blk bb 52 #[.map (some h), .map (some l), .map (some wt)] * (Asn.vec 3 1 (.slice (some ⟨b, 0, none⟩) x.2.2.length c) x.2.2.length (nums x.2.2) * (aMap Tryz.prog 9 l (lE L) * (aMap Tryz.prog 9 h (hE H) * (aMap Tryz.prog 3 wt (wE (offW W id)) * (aIn H * (aLn (offL L y.2.1) * C))))))) by
    unfold aBk
    rw [aLn_perm hpm]
    show _ * ((_ * (_ * (_ * (_ * (_ * (Asn.vec _ _ x.2.1 _ _ * aLn (offL L y.2.1))))))) * _) = _
    rw [hvs]
    ac_rfl))
  clear S5
  refine wp_region_held_drew (S := fun W' : World => W'.cell? ⟨bb, 1, none⟩ = some (.map (some l)) ∧ W'.cell? ⟨g4, 0, none⟩ = some (.string (ofL y.2.1))) (by kernel_rfl) (FC.out _ _ S6.out) (fun hHeld => ?_)
  generalize w4.drew = w5 at *
  have hwr : IntKind.i64.wrap ((ix : Int) + 1) = (ix : Int) + 1 := by rw [IntKind.wrap_i64]; omega
  refine' wpAnyH_take (i := 0) (oi := ?oq0) (v := ?vq0) ?hq0 ?sq0 ?fq0 ?zq0 ?qq0 ?yq0 ?aq0 ?rq0
  case hq0 => (simp only [List.getElem?_toArray, List.getElem?_cons_succ, List.getElem?_cons_zero]; rfl)
  case sq0 => kernel_rfl
  case fq0 => kernel_rfl
  case zq0 => kernel_rfl
  case qq0 => exact fun _ _ _ h => h
  case yq0 => (refine Or.inl ⟨rfl, ?_⟩; intro w hSw; obtain ⟨hS1, hS2⟩ := hSw; go_simp; try with_reducible rfl)
  case aq0 => assumption
  case rq0 =>
  simp only [Act.put, List.setIfInBounds_toArray, List.set_cons_zero, List.set_cons_succ]
  refine' wpAnyH_take (i := 1) (oi := ?oq1) (v := ?vq1) ?hq1 ?sq1 ?fq1 ?zq1 ?qq1 ?yq1 ?aq1 ?rq1
  case hq1 => (simp only [List.getElem?_toArray, List.getElem?_cons_succ, List.getElem?_cons_zero]; rfl)
  case sq1 => kernel_rfl
  case fq1 => kernel_rfl
  case zq1 => kernel_rfl
  case qq1 => exact fun _ _ _ h => h
  case yq1 => (refine Or.inl ⟨rfl, ?_⟩; intro w hSw; obtain ⟨hS1, hS2⟩ := hSw; go_simp; try with_reducible rfl)
  case aq1 => assumption
  case rq1 =>
  simp only [Act.put, List.setIfInBounds_toArray, List.set_cons_zero, List.set_cons_succ]
  refine' wpAnyH_take (i := 2) (oi := ?oq2) (v := ?vq2) ?hq2 ?sq2 ?fq2 ?zq2 ?qq2 ?yq2 ?aq2 ?rq2
  case hq2 => (simp only [List.getElem?_toArray, List.getElem?_cons_succ, List.getElem?_cons_zero]; rfl)
  case sq2 => kernel_rfl
  case fq2 => kernel_rfl
  case zq2 => kernel_rfl
  case qq2 => exact fun _ _ _ h => h
  case yq2 => (refine Or.inl ⟨rfl, ?_⟩; intro w hSw; obtain ⟨hS1, hS2⟩ := hSw; go_simp; try with_reducible rfl)
  case aq2 => assumption
  case rq2 =>
  simp only [Act.put, List.setIfInBounds_toArray, List.set_cons_zero, List.set_cons_succ]
  refine' wpAnyH_take (i := 3) (oi := ?oq3) (v := ?vq3) ?hq3 ?sq3 ?fq3 ?zq3 ?qq3 ?yq3 ?aq3 ?rq3
  case hq3 => (simp only [List.getElem?_toArray, List.getElem?_cons_succ, List.getElem?_cons_zero]; rfl)
  case sq3 => kernel_rfl
  case fq3 => kernel_rfl
  case zq3 => kernel_rfl
  case qq3 => exact fun _ _ _ h => h
  case yq3 => (refine Or.inl ⟨rfl, ?_⟩; intro w hSw; obtain ⟨hS1, hS2⟩ := hSw; go_simp; try with_reducible rfl)
  case aq3 => assumption
  case rq3 =>
  simp only [Act.put, List.setIfInBounds_toArray, List.set_cons_zero, List.set_cons_succ]
  refine' wpAnyH_take (i := 4) (oi := ?oq4) (v := ?vq4) ?hq4 ?sq4 ?fq4 ?zq4 ?qq4 ?yq4 ?aq4 ?rq4
  case hq4 => (simp only [List.getElem?_toArray, List.getElem?_cons_succ, List.getElem?_cons_zero]; rfl)
  case sq4 => kernel_rfl
  case fq4 => kernel_rfl
  case zq4 => kernel_rfl
  case qq4 => exact fun _ _ _ h => h
  case yq4 => (refine Or.inl ⟨rfl, ?_⟩; intro w hSw; obtain ⟨hS1, hS2⟩ := hSw; go_simp; try with_reducible rfl)
  case aq4 => assumption
  case rq4 =>
  simp only [Act.put, List.setIfInBounds_toArray, List.set_cons_zero, List.set_cons_succ]
  refine' wpAnyH_take (i := 5) (oi := ?oq5) (v := ?vq5) ?hq5 ?sq5 ?fq5 ?zq5 ?qq5 ?yq5 ?aq5 ?rq5
  case hq5 => (simp only [List.getElem?_toArray, List.getElem?_cons_succ, List.getElem?_cons_zero]; rfl)
  case sq5 => kernel_rfl
  case fq5 => kernel_rfl
  case zq5 => kernel_rfl
  case qq5 => exact fun _ _ _ h => h
  case yq5 => (refine Or.inl ⟨rfl, ?_⟩; intro w hSw; obtain ⟨hS1, hS2⟩ := hSw; go_simp; try with_reducible rfl)
  case aq5 => assumption
  case rq5 =>
  simp only [Act.put, List.setIfInBounds_toArray, List.set_cons_zero, List.set_cons_succ]
  refine' wpAnyH_take (i := 6) (oi := ?oq6) (v := ?vq6) ?hq6 ?sq6 ?fq6 ?zq6 ?qq6 ?yq6 ?aq6 ?rq6
  case hq6 => (simp only [List.getElem?_toArray, List.getElem?_cons_succ, List.getElem?_cons_zero]; rfl)
  case sq6 => kernel_rfl
  case fq6 => kernel_rfl
  case zq6 => kernel_rfl
  case qq6 => exact fun _ _ _ h => h
  case yq6 => (refine Or.inl ⟨rfl, ?_⟩; intro w hSw; obtain ⟨hS1, hS2⟩ := hSw; go_simp; try with_reducible rfl)
  case aq6 => assumption
  case rq6 =>
  simp only [Act.put, List.setIfInBounds_toArray, List.set_cons_zero, List.set_cons_succ]
  refine' wpAnyH_take (i := 7) (oi := ?oq7) (v := ?vq7) ?hq7 ?sq7 ?fq7 ?zq7 ?qq7 ?yq7 ?aq7 ?rq7
  case hq7 => (simp only [List.getElem?_toArray, List.getElem?_cons_succ, List.getElem?_cons_zero]; rfl)
  case sq7 => kernel_rfl
  case fq7 => kernel_rfl
  case zq7 => kernel_rfl
  case qq7 => exact fun _ _ _ h => h
  case yq7 => (refine Or.inl ⟨rfl, ?_⟩; intro w hSw; obtain ⟨hS1, hS2⟩ := hSw; go_simp; try with_reducible rfl)
  case aq7 => assumption
  case rq7 =>
  simp only [Act.put, List.setIfInBounds_toArray, List.set_cons_zero, List.set_cons_succ]
  refine' wpAnyH_take (i := 8) (oi := ?oq8) (v := ?vq8) ?hq8 ?sq8 ?fq8 ?zq8 ?qq8 ?yq8 ?aq8 ?rq8
  case hq8 => (simp only [List.getElem?_toArray, List.getElem?_cons_succ, List.getElem?_cons_zero]; rfl)
  case sq8 => kernel_rfl
  case fq8 => kernel_rfl
  case zq8 => kernel_rfl
  case qq8 => exact fun _ _ _ h => h
  case yq8 => (refine Or.inl ⟨rfl, ?_⟩; intro w hSw; obtain ⟨hS1, hS2⟩ := hSw; go_simp; try with_reducible rfl)
  case aq8 => assumption
  case rq8 =>
  simp only [Act.put, List.setIfInBounds_toArray, List.set_cons_zero, List.set_cons_succ]
  refine' wpAnyH_take (i := 9) (oi := ?oq9) (v := ?vq9) ?hq9 ?sq9 ?fq9 ?zq9 ?qq9 ?yq9 ?aq9 ?rq9
  case hq9 => (simp only [List.getElem?_toArray, List.getElem?_cons_succ, List.getElem?_cons_zero]; rfl)
  case sq9 => kernel_rfl
  case fq9 => kernel_rfl
  case zq9 => kernel_rfl
  case qq9 => exact fun _ _ _ h => h
  case yq9 => (refine Or.inl ⟨rfl, ?_⟩; intro w hSw; obtain ⟨hS1, hS2⟩ := hSw; go_simp; try with_reducible rfl)
  case aq9 => assumption
  case rq9 =>
  simp only [Act.put, List.setIfInBounds_toArray, List.set_cons_zero, List.set_cons_succ]
  refine wpAnyH_ready (rs := [10]) (by kernel_rfl) (by simp) ?_
  refine' AllReadyH.cons (o := ?oa) ?ha ?ka AllReadyH.nil
  case ha => (simp only [List.getElem?_toArray, List.getElem?_cons_succ, List.getElem?_cons_zero]; rfl)
  case ka =>
  intro K0 hK
  go_simp
  go_at_call 43
  refine (del_int b x.2.2.length c ix (nums x.2.2) w5 hi1 hvec (nums_one _)).mono ?_
  rintro e w6 ⟨rfl, hv6, hb6⟩
  have S7 := S6.out.re (show _ = Asn.vec 3 1 (.slice (some ⟨b, 0, none⟩) x.2.2.length c) x.2.2.length (nums x.2.2) * (Asn.blk g4 32 #[.string (ofL y.2.1), .int .i64 y.2.2] * (Asn.blk bb 52 #[.map (some h), .map (some l), .map (some wt)] * (aMap Tryz.prog 9 l (lE L) * (aMap Tryz.prog 9 h (hE H) * (aMap Tryz.prog 3 wt (wE (offW W id)) * (aIn H * (aLn (offL L y.2.1) * C))))))) by ac_rfl)
  have S8 := Lib.hid (S7.app hv6 (hb6.mono (fun k _ hk => by rw [hk]; rfl)) (fun k hk => Or.inl hk))
  have S9 := Lib.hid (S8.out.re (show _ = Asn.blk g4 32 #[.string (ofL y.2.1), .int .i64 y.2.2] * (Asn.blk bb 52 #[.map (some h), .map (some l), .map (some wt)] * (Asn.vec 3 1 (.slice (some ⟨b, 0, none⟩) (x.2.2.length - 1) c) (x.2.2.length - 1) ((nums x.2.2).take ix ++ (nums x.2.2).drop (ix + 1)) * (aMap Tryz.prog 9 l (lE L) * (aMap Tryz.prog 9 h (hE H) * (aMap Tryz.prog 3 wt (wE (offW W id)) * (aIn H * (aLn (offL L y.2.1) * C))))))) by ac_rfl))
  clear S6 S7 S8 hvec hv6 hb6
  refine hK.out _ _ ?_ (fun hHeld => ?_)
  · exact FC.out _ _ S9.out
  clear hK K0
  (try simp only [Act.put, List.setIfInBounds_toArray, List.set_cons_zero, List.set_cons_succ])
  refine wpAnyH_ready (rs := [11]) (by kernel_rfl) (by simp) ?_
  refine' AllReadyH.cons (o := ?ob) ?hb ?kb AllReadyH.nil
  case hb => (simp only [List.getElem?_toArray, List.getElem?_cons_succ, List.getElem?_cons_zero]; rfl)
  case kb =>
  intro K0 hK
  have S10 := Lib.hid (S9.out.re (show _ = aMap Tryz.prog 9 l (lE L) * (Asn.vec 3 1 (.slice (some ⟨b, 0, none⟩) (x.2.2.length - 1) c) (x.2.2.length - 1) ((nums x.2.2).take ix ++ (nums x.2.2).drop (ix + 1)) * (Asn.blk g4 32 #[.string (ofL y.2.1), .int .i64 y.2.2] * (Asn.blk bb 52 #[.map (some h), .map (some l), .map (some wt)] * (aMap Tryz.prog 9 h (hE H) * (aMap Tryz.prog 3 wt (wE (offW W id)) * (aIn H * (aLn (offL L y.2.1) * C))))))) by ac_rfl))
  obtain ⟨w7, hst, hm7, hc7⟩ := (S10.out.kn (At.l (at_map _ _ _ _))).store kS Tryz.underlying49 (by rw [show (lE L).length = L.length from List.length_map _]; unfold maxLen; omega) (key_str y.2.1 hn) (val := .slice (some ⟨b, 0, none⟩) (x.2.2.length - 1) c)
  have S11 := Lib.hid (S10.out.mapTo hc7 hm7)
  rw [off_lE] at S11
  have S12 := Lib.hid (S11.out.re (show _ = Asn.blk g4 32 #[.string (ofL y.2.1), .int .i64 y.2.2] * (Asn.blk bb 52 #[.map (some h), .map (some l), .map (some wt)] * (aMap Tryz.prog 9 l ((.string y.2.1, .slice (some ⟨b, 0, none⟩) (x.2.2.length - 1) c) :: lE (offL L y.2.1)) * (Asn.vec 3 1 (.slice (some ⟨b, 0, none⟩) (x.2.2.length - 1) c) (x.2.2.length - 1) ((nums x.2.2).take ix ++ (nums x.2.2).drop (ix + 1)) * (aMap Tryz.prog 9 h (hE H) * (aMap Tryz.prog 3 wt (wE (offW W id)) * (aIn H * (aLn (offL L y.2.1) * C))))))) by ac_rfl))
  clear S9 S10 S11 hm7 hc7
  go_simp
  refine hK.out _ _ ?_ (fun hHeld => ?_)
  · exact FC.out _ _ S12.out
  clear hK K0 hHeld
  (try simp only [Act.put, List.setIfInBounds_toArray, List.set_cons_zero, List.set_cons_succ])
  refine wpAnyH_done (by kernel_rfl) ?_ _
  go_wp2_with fail
  go_returns
  refine ⟨rfl, .slice (some ⟨b, 0, none⟩) (x.2.2.length - 1) c, ?_⟩
  have hnm2 : (nums x.2.2).take ix ++ (nums x.2.2).drop (ix + 1) = nums (lvL x.2.2 id) := by rw [hlv]; unfold nums; rw [List.map_append, List.map_take, List.map_drop]
  have hln : x.2.2.length - 1 = (lvL x.2.2 id).length := by rw [hlv, List.length_append, List.length_take, List.length_drop]; omega
  have S11 := S12.out
  rw [hnm2] at S11
  have S12 := S11.re (show _ = Asn.blk g4 32 #[.string (ofL y.2.1), .int .i64 y.2.2] * (aBk bb h l wt H ((y.2.1, .slice (some ⟨b, 0, none⟩) (x.2.2.length - 1) c, lvL x.2.2 id) :: offL L y.2.1) (offW W id) * C) by
    unfold aBk
    show _ = _ * (_ * (_ * (aMap _ _ _ (lE ((y.2.1, .slice (some ⟨b, 0, none⟩) (x.2.2.length - 1) c, lvL x.2.2 id) :: offL L y.2.1)) * (_ * (_ * (Asn.vec _ _ _ _ (nums (lvL x.2.2 id)) * aLn (offL L y.2.1)))))) * _)
    show _ = _ * (_ * (_ * (aMap _ _ _ ((.string y.2.1, .slice (some ⟨b, 0, none⟩) (x.2.2.length - 1) c) :: lE (offL L y.2.1)) * (_ * (_ * (_ * _))))) * _)
    rw [← hln]
    ac_rfl)
  exact S12.right
end
end Go.Proofs.YtikdjgholjealaaGreatDoor.Lk
