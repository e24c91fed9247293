/- The calls on a book that look, and hold. -/
import Derived.Test.YtikdjgholjealaaGreatDoorLkA
import Derived.Deep.DeepCutAuto
import Derived.Deep.CutBlock
namespace Go.Proofs.YtikdjgholjealaaGreatDoor.Lk
open Go.ChangeShapes Go.WideShapes Go.ChangeAt Go.RowKit Go.PlainAid Aid Md
set_option linter.unusedVariables false
set_option linter.unusedSimpArgs false
abbrev I64w (n : Int) : Prop := (Lit.int .i64 n).wf = true
section
variable {bb h l wt : Nat} {H : List Hol} {L : List Lin} {W : List Wan}
set_option maxRecDepth 100000 in
set_option maxHeartbeats 4000000 in
theorem Mode_any (id : Int) (name : By) (w : World) (k : Bk w bb h l wt H L W) (hi : I64w id) (hn : name.length ≤ 1000) :
    Calls Tryz.prog 11 #[bPtr bb, .int .i64 id, .string (ofL name)] w fun e w' => e = .returned (.int .i64 (md H id name)) ∧ w' = w := by
  have e1 := k.look_h name hn
  have e2 := k.look_i name id hi
  have c0 : w.cell? ⟨bb, 0, none⟩ = some (.map (some h)) := k.blk.cell 0
  clear k
  unfold bPtr
  generalize hV H name = hv at *
  generalize md H id name = r at *
  go_enter Tryz.func11, Tryz.ntmps11
  go_wp2_with fail
  go_returns
  exact ⟨rfl, rfl⟩
def joinedZ (held more : Int) : Int := joinZ (if held = 0 then more else held) more
theorem joined_any (a b : Int) (w : World) (ht : Tabs w) :
    Calls Tryz.prog 21 #[.int .i64 a, .int .i64 b] w fun e w' => e = .returned (.int .i64 (joinedZ a b)) ∧ ∃ k, w' = w.drewN k := by
  by_cases h0 : a = 0
  · subst h0
    have hJ := Join_any b b w ht
    have e : joinedZ 0 b = joinZ b b := rfl
    rw [e]
    go_enter Tryz.func21, Tryz.ntmps21
    go_wp2_with fail
    refine hJ.mono ?_
    rintro e w' ⟨rfl, q, rfl⟩
    go_wp2_with fail
    go_returns
    exact ⟨rfl, q, rfl⟩
  · have hJ := Join_any a b w ht
    have e : joinedZ a b = joinZ a b := by unfold joinedZ; rw [if_neg h0]
    rw [e]
    go_enter Tryz.func21, Tryz.ntmps21
    go_wp2_with fail
    refine hJ.mono ?_
    rintro e w' ⟨rfl, q, rfl⟩
    go_wp2_with fail
    go_returns
    exact ⟨rfl, q, rfl⟩
theorem Bk.keepB {w w' : World} (k : Bk w bb h l wt H L W) (hb : Below w.heap.size w w') : Bk w' bb h l wt H L W :=
  ⟨k.blk.keepB hb, k.hm.keep (Chg.of_below (S := fun _ => False) hb) id, k.lm.keep (Chg.of_below (S := fun _ => False) hb) id, k.wm.keep (Chg.of_below (S := fun _ => False) hb) id, fun x hx => (k.hi x hx).keep (Chg.of_below (S := fun _ => False) hb) id, fun x hx => (k.li x hx).keepB hb⟩
theorem two_of {w : World} {g : Nat} {T : TypeId} {a0 a1 : Value} (h : Blk w g T #[a0, a1]) :
    (w.cell? ⟨g, 0, none⟩ = some a0 ∧ w.cell? ⟨g, 1, none⟩ = some a1) ∧ w.frozen? ⟨g, 0, none⟩ = false ∧ w.frozen? ⟨g, 1, none⟩ = false := ⟨⟨h.cell 0, h.cell 1⟩, h.free 0, h.free 1⟩
theorem own_2 {w0 w : World} {O0 : Nat → Prop} {A : Asn} {g : Nat} {T : TypeId} {a0 a1 : Value} (h : Own w0 O0 w (Asn.blk g T #[a0, a1] * A)) (b0 b1 : Value) :
    Own w0 O0 ((w.setCell ⟨g, 0, none⟩ b0).setCell ⟨g, 1, none⟩ b1) (Asn.blk g T #[b0, b1] * A) := by
  have := (h.set (Sets.l (sets_blk g T _ 0 b0))).set (Sets.l (sets_blk g T _ 1 b1))
  simpa only [List.setIfInBounds_toArray, List.set_cons_zero, List.set_cons_succ] using this
theorem resH {fn : Func} {x y : Nat} {tm : Array Value} {w : World} {g : Nat} {a0 a1 v1 : Value} (hf : fn.results = #[.cell x 32, .tmp y]) (hx : tm[x]?.getD undef = .pointer (some ⟨g, 0, none⟩)) (hy : tm[y]?.getD undef = v1)
    (hB : Blk w g 32 #[a0, a1]) : (results fn tm).run Tryz.prog w = .ok (.tuple #[.agg #[a0, a1], v1]) w := by
  have c0 := hB.cell 0
  have c1 := hB.cell 1
  clear hB
  unfold results
  rw [hf]
  simp only [List.getElem?_toArray, List.getElem?_cons_zero, List.getElem?_cons_succ] at c0 c1
  simp [go_sem, hx, hy, c0, c1]
set_option maxRecDepth 100000 in
set_option maxHeartbeats 4000000 in
theorem Waits_any (id : Int) (w : World) (k : Bk w bb h l wt H L W) (hi : I64w id) :
    Calls Tryz.prog 9 #[bPtr bb, .int .i64 id] w fun e w' => e = .returned (.tuple #[.agg #[.string (ofL (wV W id).1), .int .i64 (wV W id).2], .bool (wanL W id).isSome]) ∧ Below w.heap.size w w' := by
  have S0 := Lib.hid ((Own.none w).alloc #[.string ⟨#[]⟩, .int .i64 0] 32)
  have k1 := k.keepB S0.out.bel
  clear k
  unfold bPtr
  go_enter Tryz.func9, Tryz.ntmps9
  go_upto_region 1 with fail
  obtain ⟨g4, hgz⟩ : ∃ g, g = w.heap.size := ⟨_, rfl⟩
  rw [← hgz] at S0 ⊢
  clear hgz
  generalize w.alloc _ = w1 at *
  have e1 := k1.look_w2 id hi
  have c0 : w1.cell? ⟨bb, 2, none⟩ = some (.map (some wt)) := k1.blk.cell 2
  clear k1
  have S1 := Lib.hid (S0.out.alloc #[.string (ofL (wV W id).1), .int .i64 (wV W id).2] 32)
  clear S0
  go_upto_region 4 with fail
  clear e1 c0
  obtain ⟨g6, hgz⟩ : ∃ g, g = w1.heap.size := ⟨_, rfl⟩
  rw [← hgz] at S1 ⊢
  clear hgz
  generalize w1.alloc _ = w2 at *
  obtain ⟨⟨e0, e1⟩, -⟩ := two_of (S1.out.has (Has.l (has_blk g6 _ _)))
  have S2 := Lib.hid (S1.out.re (show _ = Asn.blk g4 32 #[.string ⟨#[]⟩, .int .i64 0] * (Asn.blk g6 32 #[.string (ofL (wV W id).1), .int .i64 (wV W id).2] * Asn.emp) by ac_rfl))
  obtain ⟨⟨d0, d1⟩, f0, f1⟩ := two_of (S2.out.has (Has.l (has_blk g4 _ _)))
  have S3 := Lib.hid (own_2 S2.out (.string (ofL (wV W id).1)) (.int .i64 (wV W id).2))
  clear S1 S2
  go_wp2_with fail
  refine bodyPost_ret (resH (x := 4) (y := 5) (v1 := .bool (wanL W id).isSome) rfl rfl rfl (S3.out.has (Has.l (has_blk g4 _ _)))) rfl ?_
  exact ⟨rfl, S3.out.bel⟩
/-! How many. -/
def cntH (H : List Hol) : Nat := (H.map fun x => x.2.2.length).sum
def cnt (H : List Hol) (W : List Wan) : Nat := W.length + cntH H
theorem cntH_perm {H H' : List Hol} (h : H.Perm H') : cntH H = cntH H' := (h.map _).sum_nat
theorem mem_hE {H : List Hol} {p : En} (h : p ∈ hE H) : ∃ x, x ∈ H ∧ p = (.string x.1, .map (some x.2.1)) := by
  obtain ⟨x, hx, e⟩ := List.mem_map.1 h
  exact ⟨x, hx, e.symm⟩
set_option maxRecDepth 100000 in
set_option maxHeartbeats 8000000 in
theorem Count_any (w : World) (k : Bk w bb h l wt H L W) (hc : cnt H W ≤ 1000000) :
    Calls Tryz.prog 18 #[bPtr bb] w fun e w' => e = .returned (.int .i64 (cnt H W)) ∧ Below w.heap.size w w' := by
  have K := Lib.hid k
  have c2 : w.cell? ⟨bb, 2, none⟩ = some (.map (some wt)) := k.blk.cell 2
  have c0 : w.cell? ⟨bb, 0, none⟩ = some (.map (some h)) := k.blk.cell 0
  have e1 := k.wm.len Tryz.underlying50 3
  rw [show (wE W).length = W.length from List.length_map _] at e1
  obtain ⟨w1, hr, hrg, hch, hsz⟩ := Rng.start k.hm kS Tryz.underlying48
  have HR := Lib.hid hrg
  have HC := Lib.hid hch
  clear hrg hch k
  unfold bPtr
  go_enter Tryz.func18, Tryz.ntmps18
  go_wp2_with fail
  go_loopw [3] (fun n wr => ∃ (Dn R : List Hol), H.Perm (Dn ++ R) ∧ n = .int .i64 (W.length + cntH Dn : Nat) ∧ Hid (Rng wr Tryz.prog 9 h w.heap.size (hE H) (hE R)) ∧ Hid (Below w.heap.size w wr)) (fun _ wr => wr.rangeLeft h w.heap.size)
  case atStart => exact ⟨[], H, List.Perm.refl _, by simp [cntH], HR, Lib.hid (HC.out.below (Nat.le_refl _) (fun _ _ x => x.elim))⟩
  case round =>
    clear HR
    obtain ⟨Dn, R, hp, rfl, HR, HB⟩ := hrel
    have K1 := K.out.keepB HB.out
    have hnx := HR.out.next kS 0
    have hms := HR.out.left
    rcases hnx with ⟨hnil, hrun⟩ | ⟨key, p, L', w2, hk, hpE, hpL, hrun, hrg, hch, hsz2, hen⟩
    · obtain rfl : R = [] := List.map_eq_nil_iff.1 hnil
      have hcn : cnt H W = W.length + cntH Dn := by unfold cnt; rw [cntH_perm hp, List.append_nil]
      go_wp2_with fail
      go_returns
      exact ⟨by rw [hcn]; rfl, HB.out⟩
    · obtain ⟨x, R', hpr, rfl, hpl⟩ := perm_map_cons _ hpL
      have B2 := Lib.hid (show Below w.heap.size w w2 from HB.out.trans (hch.below HB.out.size (fun i _ e => by rw [e]; exact Nat.le_refl _)))
      have hx : x ∈ H := hp.mem_iff.2 (List.mem_append_right _ (hpr.mem_iff.2 List.mem_cons_self))
      have e3 := ((K.out.keepB B2.out).hi x hx).len Tryz.underlying60 3
      rw [show (iE x.2.2).length = x.2.2.length from List.length_map _] at e3
      have hcn : cnt H W ≤ 1000000 := hc
      have hsum : cntH H = cntH Dn + (x.2.2.length + cntH R') := by
        rw [cntH_perm (hp.trans (hpr.append_left Dn))]
        simp [cntH]
      have hR2 := Lib.hid (hrg.perm hpl.symm)
      have hm2 := hR2.out.left
      have hlen : (hE R).length = (hE R').length + 1 := by
        have := hpr.length_eq
        simp [hE, this]
      unfold cnt at hcn
      clear hrg hpl hpL hch
      go_wp2_with fail
      refine ⟨⟨Dn ++ [x], R', ?_, ?_, hR2, B2⟩, ?_⟩
      · rw [List.append_assoc]
        exact hp.trans (hpr.append_left Dn)
      · have e4 : cntH (Dn ++ [x]) = cntH Dn + x.2.2.length := by simp [cntH]
        rw [e4]
        exact congrArg (Value.int .i64) (by omega)
      · rw [show w2.rangeLeft h w.heap.size = (hE R').length from hm2, hms]
        omega
/-! Hold. -/
def without (l : List (Int × Int)) (id : Int) : List (Int × Int) := l.filter fun p => !decide (p.1 = id)
def setL (l : List (Int × Int)) (id mode : Int) : List (Int × Int) := (id, mode) :: without l id
def offH (H : List Hol) (name : By) : List Hol := H.filter fun x => !decide (x.1 = name)
theorem off_iE (l : List (Int × Int)) (id : Int) : off (.int .i64 id) (iE l) = iE (without l id) := by
  unfold off iE without
  rw [List.filter_map]
  congr 1
  exact List.filter_congr fun x _ => by show (!(Lit.int .i64 x.1).sameKey (.int .i64 id)) = _; rw [same_int]
theorem off_hE (H : List Hol) (name : By) : off (.string name) (hE H) = hE (offH H name) := by
  unfold off hE offH
  rw [List.filter_map]
  congr 1
  exact List.filter_congr fun x _ => by
    show (!(x.1 == name)) = _
    by_cases h : x.1 = name <;> simp [h]
theorem off_none {H : List Hol} {name : By} (h : holL H name = none) : offH H name = H := by
  refine List.filter_eq_self.2 fun x hx => ?_
  have := List.find?_eq_none.1 h x hx
  simpa using this
/-- Names are apart. -/
def Apart (H : List Hol) : Prop := H.Pairwise fun x y => x.1 ≠ y.1
theorem Bk.apart {w : World} (k : Bk w bb h l wt H L W) : Apart H := by
  have := k.hm.apart kS
  unfold hE at this
  rw [List.pairwise_map] at this
  exact this.imp fun hne e => hne (by rw [e])
theorem hol_perm {H : List Hol} {name : By} {x : Hol} (ha : Apart H) (hf : holL H name = some x) : H.Perm (x :: offH H name) ∧ x.1 = name := by
  have hn : x.1 = name := by
    have := List.find?_some hf
    simpa using this
  refine ⟨?_, hn⟩
  subst hn
  induction H with
  | nil => cases hf
  | cons y H ih =>
    obtain ⟨h1, h2⟩ := List.pairwise_cons.1 ha
    unfold holL at hf
    rw [List.find?_cons] at hf
    by_cases hy : y.1 = x.1
    · rw [decide_eq_true hy] at hf
      obtain rfl : y = x := Option.some.inj hf
      have e : offH (y :: H) y.1 = H := by
        unfold offH
        rw [List.filter_cons, decide_eq_true rfl]
        simp only [Bool.not_true, Bool.false_eq_true, if_false]
        exact List.filter_eq_self.2 fun z hz => by rw [decide_eq_false (h1 z hz).symm]; rfl
      rw [e]
    · rw [decide_eq_false hy] at hf
      have e : offH (y :: H) x.1 = y :: offH H x.1 := by
        unfold offH
        rw [List.filter_cons, decide_eq_false hy]
        rfl
      rw [e]
      exact ((ih h2 hf).cons y).trans (List.Perm.swap _ _ _)
theorem aIn_perm {H H' : List Hol} (h : H.Perm H') : aIn H = aIn H' := by
  induction h with
  | nil => rfl
  | cons x _ ih => show aMap _ _ _ _ * aIn _ = _ * aIn _; rw [ih]
  | swap x y l => show aMap _ _ _ _ * (aMap _ _ _ _ * aIn l) = aMap _ _ _ _ * (aMap _ _ _ _ * aIn l); ac_rfl
  | trans _ _ ih1 ih2 => rw [ih1, ih2]
theorem bk_perm {w0 w : World} {O0 : Nat → Prop} {H' : List Hol} {C : Asn} (hp : H.Perm H') (hS : Own w0 O0 w (aBk bb h l wt H L W * C)) : Own w0 O0 w (aBk bb h l wt H' L W * C) := by
  unfold aBk at hS ⊢
  rw [aIn_perm hp] at hS
  exact hS.imp (Imp.l (Imp.r (Imp.l (aMap_perm (hp.map _)))))
end
end Go.Proofs.YtikdjgholjealaaGreatDoor.Lk
