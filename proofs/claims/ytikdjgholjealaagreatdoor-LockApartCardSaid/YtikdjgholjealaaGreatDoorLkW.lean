/- Who drops all that it holds. -/
import Derived.Test.YtikdjgholjealaaGreatDoorLkJ
namespace Go.Proofs.YtikdjgholjealaaGreatDoor.Lk
open Go.ChangeShapes Go.WideShapes Go.ChangeAt Go.RowKit Go.PlainAid Aid Md
set_option linter.unusedVariables false
set_option linter.unusedSimpArgs false
def offX (x : Hol) (id : Int) : Hol := (x.1, x.2.1, without x.2.2 id)
/-- What is held behind a Drop. -/
def dropL (H : List Hol) (id : Int) : List Hol := (H.map fun x => offX x id).filter fun x => !x.2.2.isEmpty
theorem dropL_snoc (D : List Hol) (x : Hol) (id : Int) : dropL (D ++ [x]) id = dropL D id ++ (if (without x.2.2 id).isEmpty then [] else [offX x id]) := by
  unfold dropL
  rw [List.map_append, List.filter_append]
  congr 1
  show List.filter _ [offX x id] = _
  rw [List.filter_cons]
  show (if (!(without x.2.2 id).isEmpty) = true then _ else _) = _
  cases (without x.2.2 id).isEmpty <;> rfl
theorem key_invS {key : Value} {a : By} (h : keyOf Tryz.prog 9 key = some (.string a)) : key = .string (ofL a) := by
  have u : Tryz.prog.underlying 9 = some .string := Tryz.underlying9
  cases key <;> simp [keyOf, u, mapKey] at h
  obtain ⟨-, rfl⟩ := h
  rfl
theorem hE_perm {H H' : List Hol} (h : H.Perm H') : (hE H).Perm (hE H') := h.map _
theorem offH_head {x : Hol} {R : List Hol} (ha : Apart (x :: R)) : offH (x :: R) x.1 = R := by
  obtain ⟨h1, -⟩ := List.pairwise_cons.1 ha
  unfold offH
  rw [List.filter_cons, decide_eq_true rfl]
  simp only [Bool.not_true, Bool.false_eq_true, if_false]
  exact List.filter_eq_self.2 fun z hz => by rw [decide_eq_false (h1 z hz).symm]; rfl
theorem offH_none' {x : Hol} {R : List Hol} (h1 : ∀ z, z ∈ R → x.1 ≠ z.1) : offH R x.1 = R := by
  unfold offH
  exact List.filter_eq_self.2 fun z hz => by rw [decide_eq_false (h1 z hz).symm]; rfl
theorem apart_of {F : List Aid.En} {R : List Hol} (hF : F.Perm (hE R)) (ha : F.Pairwise fun p q => p.1 ≠ q.1) : Apart R := by
  have h1 := (hF.pairwise_iff (R := fun p q : Aid.En => p.1 ≠ q.1) (fun h => h.symm)).1 ha
  unfold hE at h1
  rw [List.pairwise_map] at h1
  exact h1.imp fun hne e => hne (by rw [e])
section
variable {bb h l wt : Nat} {H : List Hol} {L : List Lin} {W : List Wan}
set_option maxRecDepth 100000 in
set_option maxHeartbeats 8000000 in
theorem Drop_any (id : Int) (w0 w : World) (C : Asn) (hS : Aid.Own w0 No w (aBk bb h l wt H L W * C)) (hi : I64w id) (hnm : ∀ x, x ∈ H → x.1.length ≤ 1000) (hl : ∀ x, x ∈ H → x.2.2.length ≤ 100000) (Q : Value → World → Prop)
    (hcan : ∀ wx H', H'.Perm (dropL H id) → Aid.Own w0 No wx (aBk bb h l wt H' L W * C) → Calls Tryz.prog 14 #[bPtr bb, .int .i64 id] wx fun e w' => ∃ v, e = .returned v ∧ Q v w') :
    Calls Tryz.prog 12 #[bPtr bb, .int .i64 id] w fun e w' => ∃ v, e = .returned v ∧ Q v w' := by
  have HCAN := Lib.hid hcan
  have k := bk_of hS
  have c0 : w.cell? ⟨bb, 0, none⟩ = some (.map (some h)) := k.blk.cell 0
  obtain ⟨w1, hr, hrg, hch, hsz⟩ := Rng.start k.hm kS Tryz.underlying48
  obtain ⟨it, hit⟩ : ∃ g, g = w.heap.size := ⟨_, rfl⟩
  have SA := hS.re (show _ = aMap Tryz.prog 9 h (hE H) * (Asn.blk bb 52 #[.map (some h), .map (some l), .map (some wt)] * (aMap Tryz.prog 9 l (lE L) * (aMap Tryz.prog 3 wt (wE W) * (aIn H * (aLn L * C))))) by unfold aBk; ac_rfl)
  have S0 := Lib.hid (SA.rngNew hch hrg)
  rw [← hit] at S0 hr
  have HNM := Lib.hid hnm
  have HLL := Lib.hid hl
  clear hS SA hrg hch k hsz hcan hnm hl hit
  unfold bPtr at *
  go_enter Tryz.func12, Tryz.ntmps12
  go_wp2_with fail
  clear hr c0
  go_loopw [5, 6] (fun _ _ wr => ∃ (Dn R : List Hol) (F Lr : List Aid.En), H.Perm (Dn ++ R) ∧ F.Perm (hE (dropL Dn id ++ R)) ∧ Lr.Perm (hE R) ∧ Hid (Aid.Own w0 No wr (aRng Tryz.prog 9 h it F Lr * (Asn.blk bb 52 #[.map (some h), .map (some l), .map (some wt)] * (aMap Tryz.prog 9 l (lE L) * (aMap Tryz.prog 3 wt (wE W) * (aIn (dropL Dn id ++ R) * (aLn L * C)))))))) (fun _ _ wr => wr.rangeLeft h it)
  case atStart => exact ⟨[], H, hE H, hE H, List.Perm.refl _, List.Perm.refl _, List.Perm.refl _, S0⟩
  case round =>
    clear S0
    obtain ⟨Dn, R, F, Lr, hp, hF, hLr, S⟩ := hrel
    have hR := S.out.kn (At.l (at_rng _ _ _ _ _ _))
    have hms := hR.left
    rcases hR.next kS 0 with ⟨hnil, hrun⟩ | ⟨key, p, L', w2, hk, hpE, hpL, hrun, hrg, hch, hsz2, hen⟩
    · clear hR
      obtain rfl : R = [] := List.map_eq_nil_iff.1 (List.Perm.eq_nil (hnil ▸ hLr.symm))
      have S2 := Lib.hid (((S.out.rngEnd).imp (Imp.l (aMap_perm hF))).re (show _ = aBk bb h l wt (dropL Dn id) L W * C by rw [List.append_nil]; unfold aBk; ac_rfl))
      have hfin : (dropL Dn id).Perm (dropL H id) := by
        rw [List.append_nil] at hp
        exact ((hp.map _).filter _).symm
      clear S
      go_wp2_with fail
      refine (HCAN.out _ _ hfin S2.out).mono ?_
      rintro e w9 ⟨v, rfl, hq⟩
      have HQ := Lib.hid hq
      clear hq hrun
      go_wp2_with fail
      go_returns
      exact ⟨v, rfl, HQ.out⟩
    · clear hR
      obtain ⟨x, R', hpr, rfl, hpl⟩ := perm_map_cons _ (hLr.symm.trans hpL)
      obtain rfl : key = .string (ofL x.1) := key_invS hk
      have hx : x ∈ H := hp.mem_iff.2 (List.mem_append_right _ (hpr.mem_iff.2 List.mem_cons_self))
      have hn := HNM.out x hx
      have hlx := HLL.out x hx
      have S2 := Lib.hid (S.out.rngTo hch (fun j hj => Or.inr hj) hrg)
      clear S hrg hch
      have hpx : (dropL Dn id ++ R).Perm (x :: (dropL Dn id ++ R')) := (hpr.append_left _).trans List.perm_middle
      rw [aIn_perm hpx] at S2
      have S3 := Lib.hid (S2.out.re (show _ = aMap Tryz.prog 3 x.2.1 (iE x.2.2) * (aRng Tryz.prog 9 h it F L' * (Asn.blk bb 52 #[.map (some h), .map (some l), .map (some wt)] * (aMap Tryz.prog 9 l (lE L) * (aMap Tryz.prog 3 wt (wE W) * (aIn (dropL Dn id ++ R') * (aLn L * C)))))) by
        show _ * (_ * (_ * (_ * ((_ * aIn (dropL Dn id ++ R')) * _)))) = _
        ac_rfl))
      clear S2
      obtain ⟨w3, hst, hm3, hc3⟩ := (S3.out.kn (At.l (at_map _ _ _ _))).drop kI Tryz.underlying60 (key_int id hi) 0
      have S4 := Lib.hid (S3.out.mapTo hc3 hm3)
      rw [off_iE] at S4
      have hln := (S4.out.kn (At.l (at_map _ _ _ _))).len Tryz.underlying60 3
      rw [show (iE (without x.2.2 id)).length = (without x.2.2 id).length from List.length_map _] at hln
      have hap : Apart (x :: (dropL Dn id ++ R')) := apart_of (hF.trans (hE_perm hpx)) ((S4.out.kn (At.r (At.l (at_rng _ _ _ _ _ _)))).is.apart kS)
      clear S3 hm3 hc3
      cases hz : (without x.2.2 id).isEmpty with
      | false =>
        have hb : (((without x.2.2 id).length : Int) == 0) = false := by
          have : (without x.2.2 id) ≠ [] := by intro e; rw [e] at hz; cases hz
          have := List.length_pos_iff.2 this
          simp; omega
        go_wp2_with (at_builtin; refine list_known rfl .delete Builtin.delete_ (fun _ _ _ _ => rfl) _ #[60, 3] rfl #[.map (some x.2.1), .int .i64 id] (by simp [Act.eval, Act.put]) hst ?_)
        refine ⟨⟨Dn ++ [x], R', F, L', ?_, ?_, hpl.symm, ?_⟩, ?_⟩
        · rw [List.append_assoc]
          exact hp.trans (hpr.append_left Dn)
        · rw [dropL_snoc, hz]
          exact (hF.trans (hE_perm hpx)).trans (hE_perm (H := offX x id :: (dropL Dn id ++ R')) (by rw [List.append_assoc]; exact List.perm_middle.symm))
        · refine Lib.hid (S4.out.re ?_)
          rw [dropL_snoc, hz]
          rw [aIn_perm (show (dropL Dn id ++ (if false = true then [] else [offX x id]) ++ R').Perm (offX x id :: (dropL Dn id ++ R')) by rw [List.append_assoc]; exact List.perm_middle)]
          show _ = _ * (_ * (_ * (_ * ((aMap _ _ _ (iE (without x.2.2 id)) * aIn (dropL Dn id ++ R')) * _))))
          ac_rfl
        · have h1 := (S4.out.kn (At.r (At.l (at_rng _ _ _ _ _ _)))).left
          have h2 := hpL.length_eq
          rw [List.length_cons] at h2
          omega
      | true =>
        have hb : (((without x.2.2 id).length : Int) == 0) = true := by rw [List.isEmpty_iff.1 hz]; rfl
        have S5 := Lib.hid (S4.out.re (show _ = aRng Tryz.prog 9 h it F L' * (aMap Tryz.prog 3 x.2.1 (iE (without x.2.2 id)) * (Asn.blk bb 52 #[.map (some h), .map (some l), .map (some wt)] * (aMap Tryz.prog 9 l (lE L) * (aMap Tryz.prog 3 wt (wE W) * (aIn (dropL Dn id ++ R') * (aLn L * C)))))) by ac_rfl))
        have c0 : w3.cell? ⟨bb, 0, none⟩ = some (.map (some h)) := (S5.out.has (Has.r (Has.r (Has.l (has_blk bb _ _))))).cell 0
        obtain ⟨w4, hst2, hr4, hc4⟩ := (S5.out.kn (At.l (at_rng _ _ _ _ _ _))).drop kS Tryz.underlying48 (key_str x.1 hn) 0
        have S6 := Lib.hid (S5.out.rngTo hc4 (fun j hj => Or.inl hj) hr4)
        have hF4 : (off (.string x.1) F).Perm (hE (dropL Dn id ++ R')) := by
          have h1 := (hF.trans (hE_perm hpx)).filter fun p => !p.1.sameKey (.string x.1)
          have h2 := off_hE (x :: (dropL Dn id ++ R')) x.1
          rw [offH_head hap] at h2
          exact h2 ▸ h1
        have hL4 : (off (.string x.1) L').Perm (hE R') := by
          have h1 := hpl.symm.filter fun p => !p.1.sameKey (.string x.1)
          have h2 := off_hE R' x.1
          rw [offH_none' (fun z hz => (List.pairwise_cons.1 hap).1 z (List.mem_append_right _ hz))] at h2
          exact h2 ▸ h1
        clear S4 S5 hr4 hc4
        go_wp2_with (first
          | (at_builtin; refine list_known rfl .delete Builtin.delete_ (fun _ _ _ _ => rfl) _ #[60, 3] rfl #[.map (some x.2.1), .int .i64 id] (by simp [Act.eval, Act.put]) hst ?_)
          | (at_builtin; refine list_known rfl .delete Builtin.delete_ (fun _ _ _ _ => rfl) _ #[48, 9] rfl #[.map (some h), .string (ofL x.1)] (by simp [Act.eval, Act.put]) hst2 ?_))
        have e0 : dropL (Dn ++ [x]) id ++ R' = dropL Dn id ++ R' := by rw [dropL_snoc, hz]; simp
        refine ⟨⟨Dn ++ [x], R', off (.string x.1) F, off (.string x.1) L', ?_, ?_, hL4, ?_⟩, ?_⟩
        · rw [List.append_assoc]
          exact hp.trans (hpr.append_left Dn)
        · rw [e0]; exact hF4
        · rw [e0]
          exact Lib.hid ((S6.out.re (show _ = aMap Tryz.prog 3 x.2.1 (iE (without x.2.2 id)) * _ from (Asn.assoc _ _ _).symm.trans ((congrArg (· * _) (Asn.comm _ _)).trans (Asn.assoc _ _ _)))).right)
        · have h1 := (S6.out.kn (At.l (at_rng _ _ _ _ _ _))).left
          have h2 := hpL.length_eq
          have h3 : (off (.string x.1) L').length ≤ L'.length := List.length_filter_le _ _
          rw [List.length_cons] at h2
          omega
end
end Go.Proofs.YtikdjgholjealaaGreatDoor.Lk
