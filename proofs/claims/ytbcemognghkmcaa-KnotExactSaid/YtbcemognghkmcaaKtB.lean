/- Where edges lead, and where they come from. -/
import Derived.Test.YtbcemognghkmcaaKtA
namespace Go.Proofs.Ytbcemognghkmcaa.Kt
open Go.ChangeShapes Go.WideShapes Go.ChangeAt Go.RowKit Go.PlainAid Aid
open Go.Maps (Keyed int_keyed)
set_option linter.unusedVariables false
set_option linter.unusedSimpArgs false
theorem kI : Keyed Try.prog 3 := int_keyed Try.underlying3
theorem key_int (id : Int) (h : I64w id) : keyOf Try.prog 3 (.int .i64 id) = some (.int .i64 id) := Go.Maps.keyOf_int_mk Try.underlying3 h
theorem same_int (a b : Int) : (Lit.int .i64 a).sameKey (.int .i64 b) = decide (a = b) := by
  show decide (IntKind.i64 = IntKind.i64 ∧ a = b) = _
  simp
def numsK (l : List Int) : List Value := l.map fun x => .int .i64 x
/-- Of each key its row. -/
abbrev Gp := Int × Value × List Int
def gE (G : List Gp) : List En := G.map fun x => (.int .i64 x.1, x.2.1)
def aGl : List Gp → Asn
  | [] => Asn.emp
  | x :: G => Asn.vec 3 1 x.2.1 x.2.2.length (numsK x.2.2) * aGl G
def aGm (g : Nat) (G : List Gp) : Asn := aMap Try.prog 3 g (gE G) * aGl G
def grL (G : List Gp) (a : Int) : Option Gp := G.find? fun x => decide (x.1 = a)
def gl (G : List Gp) (a : Int) : List Int := match grL G a with
  | some x => x.2.2
  | none => []
def gV (G : List Gp) (a : Int) : Value := match grL G a with
  | some x => x.2.1
  | none => .slice none 0 0
def offG (G : List Gp) (a : Int) : List Gp := G.filter fun x => !decide (x.1 = a)
theorem find_key {α β : Type} [DecidableEq α] (f : β → α) (l : List β) (k : α) (x : β) (h : l.find? (fun z => decide (f z = k)) = some x) : x ∈ l ∧ f x = k :=
  ⟨List.mem_of_find?_eq_some h, by simpa using List.find?_some h⟩
theorem find_cons {α β : Type} [DecidableEq α] (f : β → α) (y : β) (l : List β) (k : α) : (y :: l).find? (fun z => decide (f z = k)) = if f y = k then some y else l.find? fun z => decide (f z = k) := by
  rw [List.find?_cons]
  by_cases h : f y = k
  · rw [decide_eq_true h, if_pos h]
  · rw [decide_eq_false h, if_neg h]
theorem find_off {α β : Type} [DecidableEq α] (f : β → α) (l : List β) (k k' : α) : (l.filter fun z => !decide (f z = k)).find? (fun z => decide (f z = k')) = if k' = k then none else l.find? fun z => decide (f z = k') := by
  induction l with
  | nil => simp
  | cons y l ih =>
    rw [List.filter_cons, find_cons]
    by_cases h : f y = k
    · rw [decide_eq_true h]
      simp only [Bool.not_true, Bool.false_eq_true, if_false]
      rw [ih]
      by_cases h2 : k' = k
      · rw [if_pos h2, if_pos h2]
      · rw [if_neg h2, if_neg h2, if_neg (fun e : f y = k' => h2 (e.symm.trans h))]
    · rw [decide_eq_false h]
      simp only [Bool.not_false, if_true]
      rw [find_cons, ih]
      by_cases h2 : f y = k'
      · rw [if_pos h2, if_neg (fun e => h (h2.trans e))]
        simp [h2]
      · rw [if_neg h2]
        simp [h2]
theorem off_gE (G : List Gp) (a : Int) : off (.int .i64 a) (gE G) = gE (offG G a) := by
  unfold off gE offG
  rw [List.filter_map]
  congr 1
  exact List.filter_congr fun x _ => by show (!(Lit.int .i64 x.1).sameKey (.int .i64 a)) = _; rw [same_int]
theorem at_gE (G : List Gp) (a : Int) : atE (gE G) (.int .i64 a) (.slice none 0 0) = gV G a := by
  unfold atE gE gV grL
  rw [List.find?_map]
  have e : ((fun p : En => p.1.sameKey (.int .i64 a)) ∘ fun x : Gp => ((.int .i64 x.1, x.2.1) : En)) = fun x => decide (x.1 = a) := by
    funext x
    exact same_int _ _
  rw [e]
  cases G.find? (fun x => decide (x.1 = a)) <;> rfl
theorem gl_put (G : List Gp) (a b : Int) (v : Value) (l : List Int) : gl ((a, v, l) :: offG G a) b = if b = a then l else gl G b := by
  have h : grL ((a, v, l) :: offG G a) b = if a = b then some (a, v, l) else grL (offG G a) b := find_cons (fun x : Gp => x.1) _ _ _
  have h2 : grL (offG G a) b = if b = a then none else grL G b := find_off (fun x : Gp => x.1) G a b
  unfold gl
  rw [h, h2]
  by_cases e : b = a
  · rw [if_pos e.symm, if_pos e]
  · rw [if_neg (fun x => e x.symm), if_neg e, if_neg e]
def ApG (G : List Gp) : Prop := G.Pairwise fun x y => x.1 ≠ y.1
theorem apG_of {w : World} {g : Nat} {G : List Gp} (h : MapIs w Try.prog 3 g (gE G)) : ApG G := by
  have := h.apart kI
  unfold gE at this
  rw [List.pairwise_map] at this
  exact this.imp fun hne e => hne (by rw [e])
theorem gr_perm {G : List Gp} {a : Int} {x : Gp} (ha : ApG G) (hf : grL G a = some x) : G.Perm (x :: offG G a) ∧ x.1 = a := by
  obtain ⟨hm, hx⟩ := find_key (fun x : Gp => x.1) G a x hf
  refine ⟨?_, hx⟩
  clear hf
  induction G with
  | nil => cases hm
  | cons y G ih =>
    obtain ⟨h1, h2⟩ := List.pairwise_cons.1 ha
    unfold offG
    rw [List.filter_cons]
    rcases List.mem_cons.1 hm with rfl | hm
    · rw [decide_eq_true hx]
      simp only [Bool.not_true, Bool.false_eq_true, if_false]
      rw [List.filter_eq_self.2 fun z hz => by rw [decide_eq_false (fun e => h1 z hz (hx.trans e.symm))]; rfl]
    · rw [decide_eq_false (fun e => h1 x hm (e.trans hx.symm))]
      simp only [Bool.not_false, if_true]
      exact ((ih h2 hm).cons y).trans (List.Perm.swap _ _ _)
theorem gr_none {G : List Gp} {a : Int} (h : grL G a = none) : offG G a = G := by
  unfold offG
  refine List.filter_eq_self.2 fun z hz => ?_
  have := List.find?_eq_none.1 h z hz
  simpa using this
theorem aGl_perm {G G' : List Gp} (h : G.Perm G') : aGl G = aGl G' := by
  induction h with
  | nil => rfl
  | cons x _ ih => show _ * _ = _ * _; rw [ih]
  | swap x y l => show _ * (_ * _) = _ * (_ * _); ac_rfl
  | trans _ _ ih1 ih2 => exact ih1.trans ih2
section
variable {w0 w : World} {O0 : Nat → Prop} {g : Nat} {G : List Gp} {C : Asn}
theorem gm_is (hS : Aid.Own w0 O0 w (aGm g G * C)) : MapIs w Try.prog 3 g (gE G) := hS.kn (At.l (At.l (at_map _ _ _ _)))
/-- One row apart from the others. -/
theorem gm_row (a : Int) (hS : Aid.Own w0 O0 w (aGm g G * C)) : Aid.Own w0 O0 w (Asn.vec 3 1 (gV G a) (gl G a).length (numsK (gl G a)) * (aMap Try.prog 3 g (gE G) * (aGl (offG G a) * C))) := by
  cases hx : grL G a with
  | none =>
    have h1 : gV G a = .slice none 0 0 := by unfold gV; rw [hx]
    have h2 : gl G a = [] := by unfold gl; rw [hx]
    rw [h1, h2, gr_none hx]
    refine (hS.nilVec 3 1).re ?_
    show Asn.vec _ _ _ _ (numsK []) * _ = _
    unfold aGm
    ac_rfl
  | some x =>
    have h1 : gV G a = x.2.1 := by unfold gV; rw [hx]
    have h2 : gl G a = x.2.2 := by unfold gl; rw [hx]
    obtain ⟨hp, -⟩ := gr_perm (apG_of (gm_is hS)) hx
    rw [h1, h2]
    refine hS.re ?_
    unfold aGm
    rw [aGl_perm hp]
    show (_ * (Asn.vec _ _ _ _ _ * aGl (offG G a))) * _ = _
    ac_rfl
theorem gm_back (a : Int) (v : Value) (l : List Int) (hS : Aid.Own w0 O0 w (Asn.vec 3 1 v l.length (numsK l) * (aMap Try.prog 3 g (gE ((a, v, l) :: offG G a)) * (aGl (offG G a) * C)))) : Aid.Own w0 O0 w (aGm g ((a, v, l) :: offG G a) * C) := by
  refine hS.re ?_
  unfold aGm
  show _ = (_ * (_ * aGl (offG G a))) * _
  ac_rfl
theorem zero_ints (w : World) : (zeroValue 26).run Try.prog w = .ok (.slice none 0 0) w := by kernel_rfl
theorem look_gm {k : MapIs w Try.prog 3 g (gE G)} (a : Int) (ha : I64w a) : (Instr.lookup 38 (.map (some g)) (.int .i64 a) false).run Try.prog w = .ok (gV G a) w := by
  have := k.look kI Try.underlying38 (zero_ints w) false (key_int a ha)
  rw [at_gE] at this
  exact this
theorem gr_len (hS : Aid.Own w0 O0 w (aGm g G * C)) (hG : True) : True := trivial
end
theorem info_int : (Try.prog.info? 3).map (fun i => (i.zero, i.size, i.bytes)) = some (some (Value.int .i64 0), 1, 8) := by kernel_rfl
theorem numsK_snoc (l : List Int) (x : Int) : numsK (l ++ [x]) = numsK l ++ [.int .i64 x] := by unfold numsK; rw [List.map_append]; rfl
/-- Where edges lead from one. -/
def toL (es : List Edg) (a : Int) : List Int := (es.filter fun e => decide (e.1 = a)).map (·.2)
theorem toL_snoc (es : List Edg) (e : Edg) (a : Int) : toL (es ++ [e]) a = if a = e.1 then toL es a ++ [e.2] else toL es a := by
  unfold toL
  rw [List.filter_append, List.map_append]
  by_cases h : a = e.1
  · subst h; simp
  · rw [if_neg h]
    have h2 : ¬ e.1 = a := fun x => h x.symm
    simp [h2]
theorem toL_len (es : List Edg) (a : Int) : (toL es a).length ≤ es.length := by
  unfold toL
  rw [List.length_map]
  exact List.length_filter_le _ _
def swp (e : Edg) : Edg := (e.2, e.1)
/-- Each edge's numbers are of 64 bits. -/
def Wf (es : List Edg) : Prop := ∀ e, e ∈ es → I64w e.1 ∧ I64w e.2
theorem emp_mulK (A : Asn) : Asn.emp * A = A := Asn.same fun w O => ⟨fun ⟨X, Y, hX, hA, _, hO⟩ => by
    have e : O = Y := funext fun k => propext ⟨fun h => ((hO k).1 h).elim (fun x => (hX k x).elim) id, fun h => (hO k).2 (Or.inr h)⟩
    rw [e]; exact hA, fun hA => ⟨fun _ => False, O, fun _ h => h, hA, fun _ h _ => h, fun k => ⟨Or.inr, fun h => h.elim False.elim id⟩⟩⟩
set_option maxRecDepth 100000 in
set_option maxHeartbeats 8000000 in
theorem forth_any (A : Option Addr) (c : Nat) (es : List Edg) (w0 w : World) (C : Asn) (hS : Aid.Own w0 No w C) (hP : ∀ W X, Aid.Own w0 No W (X * C) → Prs W A es) (hn : es.length ≤ 1000) (hw : Wf es) :
    Calls Try.prog 11 #[.slice A es.length c] w fun e w' => ∃ g G, e = .returned (.map (some g)) ∧ G.length ≤ es.length ∧ (∀ a, gl G a = toL (es) a) ∧ Aid.Own w0 No w' (aGm g G * C) := by
  have HP := Lib.hid hP
  have HW := Lib.hid hw
  have hmm := @run_makeMap Try.prog
  have S0 := Lib.hid ((hS.mapNew Try.prog 3).re (show _ = aGm w.heap.size [] * C by
    show _ = (aMap _ _ _ [] * Asn.emp) * C
    have e : aMap Try.prog 3 w.heap.size [] * Asn.emp = aMap Try.prog 3 w.heap.size [] := (Asn.comm _ _).trans (emp_mulK _)
    rw [e]))
  obtain ⟨g, hgz⟩ : ∃ g, g = w.heap.size := ⟨_, rfl⟩
  clear hP hS hw
  go_enter Try.func11, Try.ntmps11
  go_wp2_with fail
  rw [← hgz] at S0 ⊢
  clear hmm hgz
  generalize w.alloc (.map #[] 0) = w1 at *
  go_loopw [9] (fun i wr => ∃ (k : Nat) (G : List Gp), k ≤ es.length ∧ i = .int .i64 k ∧ Hid (∀ a, gl G a = toL (es.take k) a) ∧ Hid (G.length ≤ k) ∧ Hid (Aid.Own w0 No wr (aGm g G * C))) (fun i _ => es.length - (intOf i).toNat)
  case atStart => exact ⟨0, [], Nat.zero_le _, rfl, Lib.hid (fun a => rfl), Lib.hid (Nat.le_refl _), S0⟩
  case round =>
    clear S0
    obtain ⟨k, G, hk, rfl, HG, HGL, S⟩ := hrel
    by_cases hlt : k < es.length
    · obtain ⟨x, hx⟩ : ∃ x, es[k]? = some x := ⟨es[k]'hlt, List.getElem?_eq_getElem _⟩
      have hxw := HW.out x (List.mem_of_getElem? hx)
      rcases HP.out _ _ S.out with e | ⟨b, o, hA, hb, hc⟩
      · rw [e] at hlt; simp at hlt
      subst hA
      obtain ⟨d0, d1⟩ := hc k x hx
      have HX := Lib.hid hx
      have HXW := Lib.hid hxw
      have S1 := Lib.hid ((S.out.alloc #[.int .i64 x.1, .int .i64 x.2] 36).re (show _ = aGm g G * (Asn.blk wr.heap.size 36 #[.int .i64 x.1, .int .i64 x.2] * C) by ac_rfl))
      clear hc hx hxw S hb
      go_upto_region 5 with fail
      obtain ⟨ge, hgz⟩ : ∃ g, g = wr.heap.size := ⟨_, rfl⟩
      rw [← hgz] at S1 ⊢
      clear hgz d0 d1
      generalize wr.alloc _ = w2 at *
      obtain ⟨A1, c1, hvs⟩ := (gm_row x.1 S1.out).vec.slice
      have HVS := Lib.hid hvs
      have hll : (gl G x.1).length ≤ 1000 := by
        rw [HG.out]
        refine Nat.le_trans (toL_len _ _) ?_
        simp; omega
      have HLL := Lib.hid hll
      clear hvs hll
      refine wp_region_held_drew (S := fun W' : World => W'.cell? ⟨ge, 0, none⟩ = some (.int .i64 x.1) ∧ W'.cell? ⟨ge, 1, none⟩ = some (.int .i64 x.2)) (by kernel_rfl) ⟨(S1.out.drew.has (Has.r (Has.l (has_blk ge _ _)))).cell 0, (S1.out.drew.has (Has.r (Has.l (has_blk ge _ _)))).cell 1⟩ (fun hHeld => ?_)
      have S2 := Lib.hid S1.out.drew
      clear S1
      generalize w2.drew = wd at *
      refine' wpAnyH_take (i := 0) (oi := ?ot1z0) (v := ?vt1z0) ?ht1z0 ?st1z0 ?ft1z0 ?zt1z0 ?qt1z0 ?yt1z0 ?at1z0 ?rt1z0
      case ht1z0 => (simp only [List.getElem?_toArray, List.getElem?_cons_succ, List.getElem?_cons_zero]; rfl)
      case st1z0 => kernel_rfl
      case ft1z0 => kernel_rfl
      case zt1z0 => kernel_rfl
      case qt1z0 => exact fun _ _ _ h => h
      case yt1z0 => (refine Or.inl ⟨rfl, ?_⟩; intro w hSw; (try dsimp only at hSw); go_simp; try with_reducible rfl)
      case at1z0 => assumption
      case rt1z0 =>
      simp only [Act.put, List.setIfInBounds_toArray, List.set_cons_zero, List.set_cons_succ]
      refine' wpAnyH_take (i := 1) (oi := ?ot2z1) (v := ?vt2z1) ?ht2z1 ?st2z1 ?ft2z1 ?zt2z1 ?qt2z1 ?yt2z1 ?at2z1 ?rt2z1
      case ht2z1 => (simp only [List.getElem?_toArray, List.getElem?_cons_succ, List.getElem?_cons_zero]; rfl)
      case st2z1 => kernel_rfl
      case ft2z1 => kernel_rfl
      case zt2z1 => kernel_rfl
      case qt2z1 => exact fun _ _ _ h => h
      case yt2z1 => (refine Or.inl ⟨rfl, ?_⟩; intro w hSw; obtain ⟨hS1, hS2⟩ := hSw; go_simp; try with_reducible rfl)
      case at2z1 => assumption
      case rt2z1 =>
      simp only [Act.put, List.setIfInBounds_toArray, List.set_cons_zero, List.set_cons_succ]
      refine' wpAnyH_take (i := 2) (oi := ?ot3z2) (v := ?vt3z2) ?ht3z2 ?st3z2 ?ft3z2 ?zt3z2 ?qt3z2 ?yt3z2 ?at3z2 ?rt3z2
      case ht3z2 => (simp only [List.getElem?_toArray, List.getElem?_cons_succ, List.getElem?_cons_zero]; rfl)
      case st3z2 => kernel_rfl
      case ft3z2 => kernel_rfl
      case zt3z2 => kernel_rfl
      case qt3z2 => exact fun _ _ _ h => h
      case yt3z2 => (refine Or.inl ⟨rfl, ?_⟩; intro w hSw; obtain ⟨hS1, hS2⟩ := hSw; go_simp; try with_reducible rfl)
      case at3z2 => assumption
      case rt3z2 =>
      simp only [Act.put, List.setIfInBounds_toArray, List.set_cons_zero, List.set_cons_succ]
      refine' wpAnyH_take (i := 3) (oi := ?ot4z3) (v := ?vt4z3) ?ht4z3 ?st4z3 ?ft4z3 ?zt4z3 ?qt4z3 ?yt4z3 ?at4z3 ?rt4z3
      case ht4z3 => (simp only [List.getElem?_toArray, List.getElem?_cons_succ, List.getElem?_cons_zero]; rfl)
      case st4z3 => kernel_rfl
      case ft4z3 => kernel_rfl
      case zt4z3 => kernel_rfl
      case qt4z3 => exact fun _ _ _ h => h
      case yt4z3 => (refine Or.inl ⟨rfl, ?_⟩; intro w hSw; (try dsimp only at hSw); go_simp; try with_reducible rfl)
      case at4z3 => assumption
      case rt4z3 =>
      simp only [Act.put, List.setIfInBounds_toArray, List.set_cons_zero, List.set_cons_succ]
      refine' wpAnyH_take (i := 4) (oi := ?ot5z4) (v := ?vt5z4) ?ht5z4 ?st5z4 ?ft5z4 ?zt5z4 ?qt5z4 ?yt5z4 ?at5z4 ?rt5z4
      case ht5z4 => (simp only [List.getElem?_toArray, List.getElem?_cons_succ, List.getElem?_cons_zero]; rfl)
      case st5z4 => kernel_rfl
      case ft5z4 => kernel_rfl
      case zt5z4 => kernel_rfl
      case qt5z4 => exact fun _ _ _ h => h
      case yt5z4 => (refine Or.inl ⟨rfl, ?_⟩; intro w hSw; obtain ⟨hS1, hS2⟩ := hSw; go_simp; try with_reducible rfl)
      case at5z4 => assumption
      case rt5z4 =>
      simp only [Act.put, List.setIfInBounds_toArray, List.set_cons_zero, List.set_cons_succ]
      refine' wpAnyH_take (i := 5) (oi := ?ot6z5) (v := ?vt6z5) ?ht6z5 ?st6z5 ?ft6z5 ?zt6z5 ?qt6z5 ?yt6z5 ?at6z5 ?rt6z5
      case ht6z5 => (simp only [List.getElem?_toArray, List.getElem?_cons_succ, List.getElem?_cons_zero]; rfl)
      case st6z5 => kernel_rfl
      case ft6z5 => kernel_rfl
      case zt6z5 => kernel_rfl
      case qt6z5 => exact fun _ _ _ h => h
      case yt6z5 => (refine Or.inl ⟨rfl, ?_⟩; intro w hSw; obtain ⟨hS1, hS2⟩ := hSw; go_simp; try with_reducible rfl)
      case at6z5 => assumption
      case rt6z5 =>
      simp only [Act.put, List.setIfInBounds_toArray, List.set_cons_zero, List.set_cons_succ]
      refine' wpAnyH_take (i := 7) (oi := ?ot7z7) (v := ?vt7z7) ?ht7z7 ?st7z7 ?ft7z7 ?zt7z7 ?qt7z7 ?yt7z7 ?at7z7 ?rt7z7
      case ht7z7 => (simp only [List.getElem?_toArray, List.getElem?_cons_succ, List.getElem?_cons_zero]; rfl)
      case st7z7 => kernel_rfl
      case ft7z7 => kernel_rfl
      case zt7z7 => kernel_rfl
      case qt7z7 => exact fun _ _ _ h => h
      case yt7z7 => (refine Or.inl ⟨rfl, ?_⟩; intro w hSw; obtain ⟨hS1, hS2⟩ := hSw; go_simp; try with_reducible rfl)
      case at7z7 => assumption
      case rt7z7 =>
      simp only [Act.put, List.setIfInBounds_toArray, List.set_cons_zero, List.set_cons_succ]
      refine' wpAnyH_take (i := 8) (oi := ?ot8z8) (v := ?vt8z8) ?ht8z8 ?st8z8 ?ft8z8 ?zt8z8 ?qt8z8 ?yt8z8 ?at8z8 ?rt8z8
      case ht8z8 => (simp only [List.getElem?_toArray, List.getElem?_cons_succ, List.getElem?_cons_zero]; rfl)
      case st8z8 => kernel_rfl
      case ft8z8 => kernel_rfl
      case zt8z8 => kernel_rfl
      case qt8z8 => exact fun _ _ _ h => h
      case yt8z8 => (refine Or.inl ⟨rfl, ?_⟩; intro w hSw; obtain ⟨hS1, hS2⟩ := hSw; go_simp; try with_reducible rfl)
      case at8z8 => assumption
      case rt8z8 =>
      simp only [Act.put, List.setIfInBounds_toArray, List.set_cons_zero, List.set_cons_succ]
      refine wpAnyH_ready (rs := [6, 9]) (by kernel_rfl) (by simp) ?_
      refine' AllReadyH.cons (o := ?ob9z6) ?hb9z6 ?kb9z6 ?mb9z6
      case hb9z6 => (simp only [List.getElem?_toArray, List.getElem?_cons_succ, List.getElem?_cons_zero]; rfl)
      case kb9z6 =>
        intro K0 hK
        have hlk := look_gm (k := gm_is S2.out) x.1 HXW.out.1
        rw [HVS.out] at hlk
        go_simp
        clear hlk
        refine hK.out _ _ ?_ (fun hHeld => ?_)
        · exact ⟨(S2.out.has (Has.r (Has.l (has_blk ge _ _)))).cell 0, (S2.out.has (Has.r (Has.l (has_blk ge _ _)))).cell 1⟩
        clear hK K0
        (try simp only [Act.put, List.setIfInBounds_toArray, List.set_cons_zero, List.set_cons_succ])
        (try clear hH2)
        refine wpAnyH_ready (rs := [9]) (by kernel_rfl) (by simp) ?_
        refine' AllReadyH.cons (o := ?ob11z9) ?hb11z9 ?kb11z9 AllReadyH.nil
        case hb11z9 => (simp only [List.getElem?_toArray, List.getElem?_cons_succ, List.getElem?_cons_zero]; rfl)
        case kb11z9 =>
          intro K0 hK
          go_simp
          obtain ⟨gb, hgz⟩ : ∃ g, g = wd.heap.size := ⟨_, rfl⟩
          have SA12 := Lib.hid ((S2.out.alloc #[.int .i64 x.2] 3).re (show _ = aGm g G * (Asn.blk wd.heap.size 3 #[.int .i64 x.2] * (Asn.blk ge 36 #[.int .i64 x.1, .int .i64 x.2] * C)) by ac_rfl))
          rw [← hgz] at SA12 ⊢
          clear hgz S2
          generalize World.alloc wd _ = wa12 at *
          refine hK.out _ _ ?_ (fun hHeld => ?_)
          · exact ⟨(SA12.out.has (Has.r (Has.r (Has.l (has_blk ge _ _))))).cell 0, (SA12.out.has (Has.r (Has.r (Has.l (has_blk ge _ _))))).cell 1⟩
          clear hK K0
          (try simp only [Act.put, List.setIfInBounds_toArray, List.set_cons_zero, List.set_cons_succ])
          (try clear hH2)
          refine wpAnyH_ready (rs := [10]) (by kernel_rfl) (by simp) ?_
          refine' AllReadyH.cons (o := ?ob13z10) ?hb13z10 ?kb13z10 AllReadyH.nil
          case hb13z10 => (simp only [List.getElem?_toArray, List.getElem?_cons_succ, List.getElem?_cons_zero]; rfl)
          case kb13z10 =>
            intro K0 hK
            have SR := Lib.hid (gm_row x.1 SA12.out)
            have hbk := SA12.out.has (Has.r (Has.l (has_blk gb _ _)))
            have CX : Hid (Src Try.prog 1 26 (.slice (some ⟨gb, 0, none⟩) 1 1) 1 [.int .i64 x.2] wa12) := Lib.hid (Src.ofSlice _ Try.underlying26 ⟨gb, 0, none⟩ 1 1 [.int .i64 x.2] rfl (fun j u hj => by
              rw [Addr.add_lit, Nat.zero_add, hbk.cell]
              simpa using hj) (fun u hu => by rw [List.mem_singleton.1 hu]; rfl))
            clear hbk
            rw [HVS.out] at SR
            with_reducible refine step_append_vec rfl (.tmp 19) (.tmp 22) 26 26 rfl 3 _ 1 8 Try.underlying26 info_int rfl (by decide) (.slice A1 (gl G x.1).length c1) (gl G x.1).length (numsK (gl G x.1)) rfl SR.out.vec (.slice (some ⟨gb, 0, none⟩) 1 1) rfl 1 _ CX.out (by have := HLL.out; unfold maxLen; omega) (by have := HLL.out; omega) ?_
            intro v' w4 hv4 hc4 hf4
            have SV := Lib.hid (SR.out.app hv4 hc4 hf4)
            obtain ⟨A4, c4, rfl⟩ := hv4.slice
            clear SA12 SR CX hv4 hc4 hf4
            refine hK.out _ _ ?_ (fun hHeld => ?_)
            · exact ⟨(SV.out.has (Has.r (Has.r (Has.r (Has.r (Has.l (has_blk ge _ _))))))).cell 0, (SV.out.has (Has.r (Has.r (Has.r (Has.r (Has.l (has_blk ge _ _))))))).cell 1⟩
            clear hK K0
            (try simp only [Act.put, List.setIfInBounds_toArray, List.set_cons_zero, List.set_cons_succ])
            (try clear hH2)
            refine wpAnyH_ready (rs := [11]) (by kernel_rfl) (by simp) ?_
            refine' AllReadyH.cons (o := ?ob15z11) ?hb15z11 ?kb15z11 AllReadyH.nil
            case hb15z11 => (simp only [List.getElem?_toArray, List.getElem?_cons_succ, List.getElem?_cons_zero]; rfl)
            case kb15z11 =>
              intro K0 hK
              have SM := Lib.hid (SV.out.re (show _ = aMap Try.prog 3 g (gE G) * (Asn.vec 3 1 (.slice A4 ((gl G x.1).length + 1) c4) ((gl G x.1).length + 1) (numsK (gl G x.1) ++ [.int .i64 x.2]) * (aGl (offG G x.1) * (Asn.blk gb 3 #[.int .i64 x.2] * (Asn.blk ge 36 #[.int .i64 x.1, .int .i64 x.2] * C)))) by ac_rfl))
              obtain ⟨w5, hst, hm5, hc5⟩ := (SM.out.kn (At.l (at_map _ _ _ _))).store kI Try.underlying38 (by rw [show (gE G).length = G.length from List.length_map _]; have := HGL.out; unfold maxLen; omega) (key_int x.1 HXW.out.1) (val := .slice A4 ((gl G x.1).length + 1) c4)
              have SN := Lib.hid (SM.out.mapTo hc5 hm5)
              rw [off_gE] at SN
              clear SV SM hm5 hc5
              go_simp
              clear hst
              refine hK.out _ _ ?_ (fun hHeld => ?_)
              · exact ⟨(SN.out.has (Has.r (Has.r (Has.r (Has.r (Has.l (has_blk ge _ _))))))).cell 0, (SN.out.has (Has.r (Has.r (Has.r (Has.r (Has.l (has_blk ge _ _))))))).cell 1⟩
              clear hK K0
              (try simp only [Act.put, List.setIfInBounds_toArray, List.set_cons_zero, List.set_cons_succ])
              (try clear hH2)
              refine wpAnyH_done (by kernel_rfl) ?_ _
              have hnn : numsK (gl G x.1) ++ [.int .i64 x.2] = numsK (gl G x.1 ++ [x.2]) := (numsK_snoc _ _).symm
              rw [hnn] at SN
              have hge : ((Lit.int .i64 x.1, Value.slice A4 ((gl G x.1).length + 1) c4) : En) :: gE (offG G x.1) = gE ((x.1, .slice A4 ((gl G x.1).length + 1) c4, gl G x.1 ++ [x.2]) :: offG G x.1) := rfl
              rw [hge] at SN
              have SO := Lib.hid ((gm_back x.1 (.slice A4 ((gl G x.1).length + 1) c4) (gl G x.1 ++ [x.2]) (SN.out.re (show _ = Asn.vec 3 1 (.slice A4 ((gl G x.1).length + 1) c4) (gl G x.1 ++ [x.2]).length (numsK (gl G x.1 ++ [x.2])) * (aMap Try.prog 3 g (gE ((x.1, .slice A4 ((gl G x.1).length + 1) c4, gl G x.1 ++ [x.2]) :: offG G x.1)) * (aGl (offG G x.1) * (Asn.blk gb 3 #[.int .i64 x.2] * (Asn.blk ge 36 #[.int .i64 x.1, .int .i64 x.2] * C)))) by
                rw [show (gl G x.1 ++ [x.2]).length = (gl G x.1).length + 1 by simp]
                ac_rfl))).re (show _ = (Asn.blk gb 3 #[.int .i64 x.2] * Asn.blk ge 36 #[.int .i64 x.1, .int .i64 x.2]) * (aGm g ((x.1, .slice A4 ((gl G x.1).length + 1) c4, gl G x.1 ++ [x.2]) :: offG G x.1) * C) by ac_rfl)).right
              clear SN hnn hge
              go_wp2_with fail
              go_roundw
              case rel =>
                refine ⟨k + 1, _, by omega, by go_num, Lib.hid (fun a => ?_), Lib.hid ?_, SO⟩
                · have hxs := take_snoc es k x HX.out
                  rw [gl_put, HG.out, HG.out, hxs, toL_snoc]
                  by_cases e : a = x.1
                  · rw [if_pos e, if_pos e, e]
                  · rw [if_neg e, if_neg e]
                · rw [List.length_cons]
                  have h1 : (offG G x.1).length ≤ G.length := List.length_filter_le _ _
                  have := HGL.out
                  omega
              case measure => simp [intOf]; omega
      case mb9z6 =>
      refine' AllReadyH.cons (o := ?ob17z9) ?hb17z9 ?kb17z9 AllReadyH.nil
      case hb17z9 => (simp only [List.getElem?_toArray, List.getElem?_cons_succ, List.getElem?_cons_zero]; rfl)
      case kb17z9 =>
        intro K0 hK
        go_simp
        obtain ⟨gb, hgz⟩ : ∃ g, g = wd.heap.size := ⟨_, rfl⟩
        have SA18 := Lib.hid ((S2.out.alloc #[.int .i64 x.2] 3).re (show _ = aGm g G * (Asn.blk wd.heap.size 3 #[.int .i64 x.2] * (Asn.blk ge 36 #[.int .i64 x.1, .int .i64 x.2] * C)) by ac_rfl))
        rw [← hgz] at SA18 ⊢
        clear hgz S2
        generalize World.alloc wd _ = wa18 at *
        refine hK.out _ _ ?_ (fun hHeld => ?_)
        · exact ⟨(SA18.out.has (Has.r (Has.r (Has.l (has_blk ge _ _))))).cell 0, (SA18.out.has (Has.r (Has.r (Has.l (has_blk ge _ _))))).cell 1⟩
        clear hK K0
        (try simp only [Act.put, List.setIfInBounds_toArray, List.set_cons_zero, List.set_cons_succ])
        (try clear hH2)
        refine wpAnyH_ready (rs := [6]) (by kernel_rfl) (by simp) ?_
        refine' AllReadyH.cons (o := ?ob19z6) ?hb19z6 ?kb19z6 AllReadyH.nil
        case hb19z6 => (simp only [List.getElem?_toArray, List.getElem?_cons_succ, List.getElem?_cons_zero]; rfl)
        case kb19z6 =>
          intro K0 hK
          have hlk := look_gm (k := gm_is SA18.out) x.1 HXW.out.1
          rw [HVS.out] at hlk
          go_simp
          clear hlk
          refine hK.out _ _ ?_ (fun hHeld => ?_)
          · exact ⟨(SA18.out.has (Has.r (Has.r (Has.l (has_blk ge _ _))))).cell 0, (SA18.out.has (Has.r (Has.r (Has.l (has_blk ge _ _))))).cell 1⟩
          clear hK K0
          (try simp only [Act.put, List.setIfInBounds_toArray, List.set_cons_zero, List.set_cons_succ])
          (try clear hH2)
          refine wpAnyH_ready (rs := [10]) (by kernel_rfl) (by simp) ?_
          refine' AllReadyH.cons (o := ?ob21z10) ?hb21z10 ?kb21z10 AllReadyH.nil
          case hb21z10 => (simp only [List.getElem?_toArray, List.getElem?_cons_succ, List.getElem?_cons_zero]; rfl)
          case kb21z10 =>
            intro K0 hK
            have SR := Lib.hid (gm_row x.1 SA18.out)
            have hbk := SA18.out.has (Has.r (Has.l (has_blk gb _ _)))
            have CX : Hid (Src Try.prog 1 26 (.slice (some ⟨gb, 0, none⟩) 1 1) 1 [.int .i64 x.2] wa18) := Lib.hid (Src.ofSlice _ Try.underlying26 ⟨gb, 0, none⟩ 1 1 [.int .i64 x.2] rfl (fun j u hj => by
              rw [Addr.add_lit, Nat.zero_add, hbk.cell]
              simpa using hj) (fun u hu => by rw [List.mem_singleton.1 hu]; rfl))
            clear hbk
            rw [HVS.out] at SR
            with_reducible refine step_append_vec rfl (.tmp 19) (.tmp 22) 26 26 rfl 3 _ 1 8 Try.underlying26 info_int rfl (by decide) (.slice A1 (gl G x.1).length c1) (gl G x.1).length (numsK (gl G x.1)) rfl SR.out.vec (.slice (some ⟨gb, 0, none⟩) 1 1) rfl 1 _ CX.out (by have := HLL.out; unfold maxLen; omega) (by have := HLL.out; omega) ?_
            intro v' w4 hv4 hc4 hf4
            have SV := Lib.hid (SR.out.app hv4 hc4 hf4)
            obtain ⟨A4, c4, rfl⟩ := hv4.slice
            clear SA18 SR CX hv4 hc4 hf4
            refine hK.out _ _ ?_ (fun hHeld => ?_)
            · exact ⟨(SV.out.has (Has.r (Has.r (Has.r (Has.r (Has.l (has_blk ge _ _))))))).cell 0, (SV.out.has (Has.r (Has.r (Has.r (Has.r (Has.l (has_blk ge _ _))))))).cell 1⟩
            clear hK K0
            (try simp only [Act.put, List.setIfInBounds_toArray, List.set_cons_zero, List.set_cons_succ])
            (try clear hH2)
            refine wpAnyH_ready (rs := [11]) (by kernel_rfl) (by simp) ?_
            refine' AllReadyH.cons (o := ?ob23z11) ?hb23z11 ?kb23z11 AllReadyH.nil
            case hb23z11 => (simp only [List.getElem?_toArray, List.getElem?_cons_succ, List.getElem?_cons_zero]; rfl)
            case kb23z11 =>
              intro K0 hK
              have SM := Lib.hid (SV.out.re (show _ = aMap Try.prog 3 g (gE G) * (Asn.vec 3 1 (.slice A4 ((gl G x.1).length + 1) c4) ((gl G x.1).length + 1) (numsK (gl G x.1) ++ [.int .i64 x.2]) * (aGl (offG G x.1) * (Asn.blk gb 3 #[.int .i64 x.2] * (Asn.blk ge 36 #[.int .i64 x.1, .int .i64 x.2] * C)))) by ac_rfl))
              obtain ⟨w5, hst, hm5, hc5⟩ := (SM.out.kn (At.l (at_map _ _ _ _))).store kI Try.underlying38 (by rw [show (gE G).length = G.length from List.length_map _]; have := HGL.out; unfold maxLen; omega) (key_int x.1 HXW.out.1) (val := .slice A4 ((gl G x.1).length + 1) c4)
              have SN := Lib.hid (SM.out.mapTo hc5 hm5)
              rw [off_gE] at SN
              clear SV SM hm5 hc5
              go_simp
              clear hst
              refine hK.out _ _ ?_ (fun hHeld => ?_)
              · exact ⟨(SN.out.has (Has.r (Has.r (Has.r (Has.r (Has.l (has_blk ge _ _))))))).cell 0, (SN.out.has (Has.r (Has.r (Has.r (Has.r (Has.l (has_blk ge _ _))))))).cell 1⟩
              clear hK K0
              (try simp only [Act.put, List.setIfInBounds_toArray, List.set_cons_zero, List.set_cons_succ])
              (try clear hH2)
              refine wpAnyH_done (by kernel_rfl) ?_ _
              have hnn : numsK (gl G x.1) ++ [.int .i64 x.2] = numsK (gl G x.1 ++ [x.2]) := (numsK_snoc _ _).symm
              rw [hnn] at SN
              have hge : ((Lit.int .i64 x.1, Value.slice A4 ((gl G x.1).length + 1) c4) : En) :: gE (offG G x.1) = gE ((x.1, .slice A4 ((gl G x.1).length + 1) c4, gl G x.1 ++ [x.2]) :: offG G x.1) := rfl
              rw [hge] at SN
              have SO := Lib.hid ((gm_back x.1 (.slice A4 ((gl G x.1).length + 1) c4) (gl G x.1 ++ [x.2]) (SN.out.re (show _ = Asn.vec 3 1 (.slice A4 ((gl G x.1).length + 1) c4) (gl G x.1 ++ [x.2]).length (numsK (gl G x.1 ++ [x.2])) * (aMap Try.prog 3 g (gE ((x.1, .slice A4 ((gl G x.1).length + 1) c4, gl G x.1 ++ [x.2]) :: offG G x.1)) * (aGl (offG G x.1) * (Asn.blk gb 3 #[.int .i64 x.2] * (Asn.blk ge 36 #[.int .i64 x.1, .int .i64 x.2] * C)))) by
                rw [show (gl G x.1 ++ [x.2]).length = (gl G x.1).length + 1 by simp]
                ac_rfl))).re (show _ = (Asn.blk gb 3 #[.int .i64 x.2] * Asn.blk ge 36 #[.int .i64 x.1, .int .i64 x.2]) * (aGm g ((x.1, .slice A4 ((gl G x.1).length + 1) c4, gl G x.1 ++ [x.2]) :: offG G x.1) * C) by ac_rfl)).right
              clear SN hnn hge
              go_wp2_with fail
              go_roundw
              case rel =>
                refine ⟨k + 1, _, by omega, by go_num, Lib.hid (fun a => ?_), Lib.hid ?_, SO⟩
                · have hxs := take_snoc es k x HX.out
                  rw [gl_put, HG.out, HG.out, hxs, toL_snoc]
                  by_cases e : a = x.1
                  · rw [if_pos e, if_pos e, e]
                  · rw [if_neg e, if_neg e]
                · rw [List.length_cons]
                  have h1 : (offG G x.1).length ≤ G.length := List.length_filter_le _ _
                  have := HGL.out
                  omega
              case measure => simp [intOf]; omega
    · obtain rfl : k = es.length := by omega
      go_wp2_with fail
      go_returns
      refine ⟨g, G, rfl, HGL.out, ?_, S.out⟩
      have := HG.out
      rw [List.take_length] at this
      exact this
set_option maxRecDepth 100000 in
set_option maxHeartbeats 8000000 in
theorem back_any (A : Option Addr) (c : Nat) (es : List Edg) (w0 w : World) (C : Asn) (hS : Aid.Own w0 No w C) (hP : ∀ W X, Aid.Own w0 No W (X * C) → Prs W A es) (hn : es.length ≤ 1000) (hw : Wf es) :
    Calls Try.prog 12 #[.slice A es.length c] w fun e w' => ∃ g G, e = .returned (.map (some g)) ∧ G.length ≤ es.length ∧ (∀ a, gl G a = toL ((es).map swp) a) ∧ Aid.Own w0 No w' (aGm g G * C) := by
  have HP := Lib.hid hP
  have HW := Lib.hid hw
  have hmm := @run_makeMap Try.prog
  have S0 := Lib.hid ((hS.mapNew Try.prog 3).re (show _ = aGm w.heap.size [] * C by
    show _ = (aMap _ _ _ [] * Asn.emp) * C
    have e : aMap Try.prog 3 w.heap.size [] * Asn.emp = aMap Try.prog 3 w.heap.size [] := (Asn.comm _ _).trans (emp_mulK _)
    rw [e]))
  obtain ⟨g, hgz⟩ : ∃ g, g = w.heap.size := ⟨_, rfl⟩
  clear hP hS hw
  go_enter Try.func12, Try.ntmps12
  go_wp2_with fail
  rw [← hgz] at S0 ⊢
  clear hmm hgz
  generalize w.alloc (.map #[] 0) = w1 at *
  go_loopw [9] (fun i wr => ∃ (k : Nat) (G : List Gp), k ≤ es.length ∧ i = .int .i64 k ∧ Hid (∀ a, gl G a = toL ((es.take k).map swp) a) ∧ Hid (G.length ≤ k) ∧ Hid (Aid.Own w0 No wr (aGm g G * C))) (fun i _ => es.length - (intOf i).toNat)
  case atStart => exact ⟨0, [], Nat.zero_le _, rfl, Lib.hid (fun a => rfl), Lib.hid (Nat.le_refl _), S0⟩
  case round =>
    clear S0
    obtain ⟨k, G, hk, rfl, HG, HGL, S⟩ := hrel
    by_cases hlt : k < es.length
    · obtain ⟨x, hx⟩ : ∃ x, es[k]? = some x := ⟨es[k]'hlt, List.getElem?_eq_getElem _⟩
      have hxw := HW.out x (List.mem_of_getElem? hx)
      rcases HP.out _ _ S.out with e | ⟨b, o, hA, hb, hc⟩
      · rw [e] at hlt; simp at hlt
      subst hA
      obtain ⟨d0, d1⟩ := hc k x hx
      have HX := Lib.hid hx
      have HXW := Lib.hid hxw
      have S1 := Lib.hid ((S.out.alloc #[.int .i64 x.1, .int .i64 x.2] 36).re (show _ = aGm g G * (Asn.blk wr.heap.size 36 #[.int .i64 x.1, .int .i64 x.2] * C) by ac_rfl))
      clear hc hx hxw S hb
      go_upto_region 5 with fail
      obtain ⟨ge, hgz⟩ : ∃ g, g = wr.heap.size := ⟨_, rfl⟩
      rw [← hgz] at S1 ⊢
      clear hgz d0 d1
      generalize wr.alloc _ = w2 at *
      obtain ⟨A1, c1, hvs⟩ := (gm_row x.2 S1.out).vec.slice
      have HVS := Lib.hid hvs
      have hll : (gl G x.2).length ≤ 1000 := by
        rw [HG.out]
        refine Nat.le_trans (toL_len _ _) ?_
        simp; omega
      have HLL := Lib.hid hll
      clear hvs hll
      refine wp_region_held_drew (S := fun W' : World => W'.cell? ⟨ge, 0, none⟩ = some (.int .i64 x.1) ∧ W'.cell? ⟨ge, 1, none⟩ = some (.int .i64 x.2)) (by kernel_rfl) ⟨(S1.out.drew.has (Has.r (Has.l (has_blk ge _ _)))).cell 0, (S1.out.drew.has (Has.r (Has.l (has_blk ge _ _)))).cell 1⟩ (fun hHeld => ?_)
      have S2 := Lib.hid S1.out.drew
      clear S1
      generalize w2.drew = wd at *
      refine' wpAnyH_take (i := 0) (oi := ?ot25z0) (v := ?vt25z0) ?ht25z0 ?st25z0 ?ft25z0 ?zt25z0 ?qt25z0 ?yt25z0 ?at25z0 ?rt25z0
      case ht25z0 => (simp only [List.getElem?_toArray, List.getElem?_cons_succ, List.getElem?_cons_zero]; rfl)
      case st25z0 => kernel_rfl
      case ft25z0 => kernel_rfl
      case zt25z0 => kernel_rfl
      case qt25z0 => exact fun _ _ _ h => h
      case yt25z0 => (refine Or.inl ⟨rfl, ?_⟩; intro w hSw; (try dsimp only at hSw); go_simp; try with_reducible rfl)
      case at25z0 => assumption
      case rt25z0 =>
      simp only [Act.put, List.setIfInBounds_toArray, List.set_cons_zero, List.set_cons_succ]
      refine' wpAnyH_take (i := 1) (oi := ?ot26z1) (v := ?vt26z1) ?ht26z1 ?st26z1 ?ft26z1 ?zt26z1 ?qt26z1 ?yt26z1 ?at26z1 ?rt26z1
      case ht26z1 => (simp only [List.getElem?_toArray, List.getElem?_cons_succ, List.getElem?_cons_zero]; rfl)
      case st26z1 => kernel_rfl
      case ft26z1 => kernel_rfl
      case zt26z1 => kernel_rfl
      case qt26z1 => exact fun _ _ _ h => h
      case yt26z1 => (refine Or.inl ⟨rfl, ?_⟩; intro w hSw; obtain ⟨hS1, hS2⟩ := hSw; go_simp; try with_reducible rfl)
      case at26z1 => assumption
      case rt26z1 =>
      simp only [Act.put, List.setIfInBounds_toArray, List.set_cons_zero, List.set_cons_succ]
      refine' wpAnyH_take (i := 2) (oi := ?ot27z2) (v := ?vt27z2) ?ht27z2 ?st27z2 ?ft27z2 ?zt27z2 ?qt27z2 ?yt27z2 ?at27z2 ?rt27z2
      case ht27z2 => (simp only [List.getElem?_toArray, List.getElem?_cons_succ, List.getElem?_cons_zero]; rfl)
      case st27z2 => kernel_rfl
      case ft27z2 => kernel_rfl
      case zt27z2 => kernel_rfl
      case qt27z2 => exact fun _ _ _ h => h
      case yt27z2 => (refine Or.inl ⟨rfl, ?_⟩; intro w hSw; obtain ⟨hS1, hS2⟩ := hSw; go_simp; try with_reducible rfl)
      case at27z2 => assumption
      case rt27z2 =>
      simp only [Act.put, List.setIfInBounds_toArray, List.set_cons_zero, List.set_cons_succ]
      refine' wpAnyH_take (i := 3) (oi := ?ot28z3) (v := ?vt28z3) ?ht28z3 ?st28z3 ?ft28z3 ?zt28z3 ?qt28z3 ?yt28z3 ?at28z3 ?rt28z3
      case ht28z3 => (simp only [List.getElem?_toArray, List.getElem?_cons_succ, List.getElem?_cons_zero]; rfl)
      case st28z3 => kernel_rfl
      case ft28z3 => kernel_rfl
      case zt28z3 => kernel_rfl
      case qt28z3 => exact fun _ _ _ h => h
      case yt28z3 => (refine Or.inl ⟨rfl, ?_⟩; intro w hSw; (try dsimp only at hSw); go_simp; try with_reducible rfl)
      case at28z3 => assumption
      case rt28z3 =>
      simp only [Act.put, List.setIfInBounds_toArray, List.set_cons_zero, List.set_cons_succ]
      refine' wpAnyH_take (i := 4) (oi := ?ot29z4) (v := ?vt29z4) ?ht29z4 ?st29z4 ?ft29z4 ?zt29z4 ?qt29z4 ?yt29z4 ?at29z4 ?rt29z4
      case ht29z4 => (simp only [List.getElem?_toArray, List.getElem?_cons_succ, List.getElem?_cons_zero]; rfl)
      case st29z4 => kernel_rfl
      case ft29z4 => kernel_rfl
      case zt29z4 => kernel_rfl
      case qt29z4 => exact fun _ _ _ h => h
      case yt29z4 => (refine Or.inl ⟨rfl, ?_⟩; intro w hSw; obtain ⟨hS1, hS2⟩ := hSw; go_simp; try with_reducible rfl)
      case at29z4 => assumption
      case rt29z4 =>
      simp only [Act.put, List.setIfInBounds_toArray, List.set_cons_zero, List.set_cons_succ]
      refine' wpAnyH_take (i := 5) (oi := ?ot30z5) (v := ?vt30z5) ?ht30z5 ?st30z5 ?ft30z5 ?zt30z5 ?qt30z5 ?yt30z5 ?at30z5 ?rt30z5
      case ht30z5 => (simp only [List.getElem?_toArray, List.getElem?_cons_succ, List.getElem?_cons_zero]; rfl)
      case st30z5 => kernel_rfl
      case ft30z5 => kernel_rfl
      case zt30z5 => kernel_rfl
      case qt30z5 => exact fun _ _ _ h => h
      case yt30z5 => (refine Or.inl ⟨rfl, ?_⟩; intro w hSw; obtain ⟨hS1, hS2⟩ := hSw; go_simp; try with_reducible rfl)
      case at30z5 => assumption
      case rt30z5 =>
      simp only [Act.put, List.setIfInBounds_toArray, List.set_cons_zero, List.set_cons_succ]
      refine' wpAnyH_take (i := 7) (oi := ?ot31z7) (v := ?vt31z7) ?ht31z7 ?st31z7 ?ft31z7 ?zt31z7 ?qt31z7 ?yt31z7 ?at31z7 ?rt31z7
      case ht31z7 => (simp only [List.getElem?_toArray, List.getElem?_cons_succ, List.getElem?_cons_zero]; rfl)
      case st31z7 => kernel_rfl
      case ft31z7 => kernel_rfl
      case zt31z7 => kernel_rfl
      case qt31z7 => exact fun _ _ _ h => h
      case yt31z7 => (refine Or.inl ⟨rfl, ?_⟩; intro w hSw; obtain ⟨hS1, hS2⟩ := hSw; go_simp; try with_reducible rfl)
      case at31z7 => assumption
      case rt31z7 =>
      simp only [Act.put, List.setIfInBounds_toArray, List.set_cons_zero, List.set_cons_succ]
      refine' wpAnyH_take (i := 8) (oi := ?ot32z8) (v := ?vt32z8) ?ht32z8 ?st32z8 ?ft32z8 ?zt32z8 ?qt32z8 ?yt32z8 ?at32z8 ?rt32z8
      case ht32z8 => (simp only [List.getElem?_toArray, List.getElem?_cons_succ, List.getElem?_cons_zero]; rfl)
      case st32z8 => kernel_rfl
      case ft32z8 => kernel_rfl
      case zt32z8 => kernel_rfl
      case qt32z8 => exact fun _ _ _ h => h
      case yt32z8 => (refine Or.inl ⟨rfl, ?_⟩; intro w hSw; obtain ⟨hS1, hS2⟩ := hSw; go_simp; try with_reducible rfl)
      case at32z8 => assumption
      case rt32z8 =>
      simp only [Act.put, List.setIfInBounds_toArray, List.set_cons_zero, List.set_cons_succ]
      refine wpAnyH_ready (rs := [6, 9]) (by kernel_rfl) (by simp) ?_
      refine' AllReadyH.cons (o := ?ob33z6) ?hb33z6 ?kb33z6 ?mb33z6
      case hb33z6 => (simp only [List.getElem?_toArray, List.getElem?_cons_succ, List.getElem?_cons_zero]; rfl)
      case kb33z6 =>
        intro K0 hK
        have hlk := look_gm (k := gm_is S2.out) x.2 HXW.out.2
        rw [HVS.out] at hlk
        go_simp
        clear hlk
        refine hK.out _ _ ?_ (fun hHeld => ?_)
        · exact ⟨(S2.out.has (Has.r (Has.l (has_blk ge _ _)))).cell 0, (S2.out.has (Has.r (Has.l (has_blk ge _ _)))).cell 1⟩
        clear hK K0
        (try simp only [Act.put, List.setIfInBounds_toArray, List.set_cons_zero, List.set_cons_succ])
        (try clear hH2)
        refine wpAnyH_ready (rs := [9]) (by kernel_rfl) (by simp) ?_
        refine' AllReadyH.cons (o := ?ob35z9) ?hb35z9 ?kb35z9 AllReadyH.nil
        case hb35z9 => (simp only [List.getElem?_toArray, List.getElem?_cons_succ, List.getElem?_cons_zero]; rfl)
        case kb35z9 =>
          intro K0 hK
          go_simp
          obtain ⟨gb, hgz⟩ : ∃ g, g = wd.heap.size := ⟨_, rfl⟩
          have SA36 := Lib.hid ((S2.out.alloc #[.int .i64 x.1] 3).re (show _ = aGm g G * (Asn.blk wd.heap.size 3 #[.int .i64 x.1] * (Asn.blk ge 36 #[.int .i64 x.1, .int .i64 x.2] * C)) by ac_rfl))
          rw [← hgz] at SA36 ⊢
          clear hgz S2
          generalize World.alloc wd _ = wa36 at *
          refine hK.out _ _ ?_ (fun hHeld => ?_)
          · exact ⟨(SA36.out.has (Has.r (Has.r (Has.l (has_blk ge _ _))))).cell 0, (SA36.out.has (Has.r (Has.r (Has.l (has_blk ge _ _))))).cell 1⟩
          clear hK K0
          (try simp only [Act.put, List.setIfInBounds_toArray, List.set_cons_zero, List.set_cons_succ])
          (try clear hH2)
          refine wpAnyH_ready (rs := [10]) (by kernel_rfl) (by simp) ?_
          refine' AllReadyH.cons (o := ?ob37z10) ?hb37z10 ?kb37z10 AllReadyH.nil
          case hb37z10 => (simp only [List.getElem?_toArray, List.getElem?_cons_succ, List.getElem?_cons_zero]; rfl)
          case kb37z10 =>
            intro K0 hK
            have SR := Lib.hid (gm_row x.2 SA36.out)
            have hbk := SA36.out.has (Has.r (Has.l (has_blk gb _ _)))
            have CX : Hid (Src Try.prog 1 26 (.slice (some ⟨gb, 0, none⟩) 1 1) 1 [.int .i64 x.1] wa36) := Lib.hid (Src.ofSlice _ Try.underlying26 ⟨gb, 0, none⟩ 1 1 [.int .i64 x.1] rfl (fun j u hj => by
              rw [Addr.add_lit, Nat.zero_add, hbk.cell]
              simpa using hj) (fun u hu => by rw [List.mem_singleton.1 hu]; rfl))
            clear hbk
            rw [HVS.out] at SR
            with_reducible refine step_append_vec rfl (.tmp 19) (.tmp 22) 26 26 rfl 3 _ 1 8 Try.underlying26 info_int rfl (by decide) (.slice A1 (gl G x.2).length c1) (gl G x.2).length (numsK (gl G x.2)) rfl SR.out.vec (.slice (some ⟨gb, 0, none⟩) 1 1) rfl 1 _ CX.out (by have := HLL.out; unfold maxLen; omega) (by have := HLL.out; omega) ?_
            intro v' w4 hv4 hc4 hf4
            have SV := Lib.hid (SR.out.app hv4 hc4 hf4)
            obtain ⟨A4, c4, rfl⟩ := hv4.slice
            clear SA36 SR CX hv4 hc4 hf4
            refine hK.out _ _ ?_ (fun hHeld => ?_)
            · exact ⟨(SV.out.has (Has.r (Has.r (Has.r (Has.r (Has.l (has_blk ge _ _))))))).cell 0, (SV.out.has (Has.r (Has.r (Has.r (Has.r (Has.l (has_blk ge _ _))))))).cell 1⟩
            clear hK K0
            (try simp only [Act.put, List.setIfInBounds_toArray, List.set_cons_zero, List.set_cons_succ])
            (try clear hH2)
            refine wpAnyH_ready (rs := [11]) (by kernel_rfl) (by simp) ?_
            refine' AllReadyH.cons (o := ?ob39z11) ?hb39z11 ?kb39z11 AllReadyH.nil
            case hb39z11 => (simp only [List.getElem?_toArray, List.getElem?_cons_succ, List.getElem?_cons_zero]; rfl)
            case kb39z11 =>
              intro K0 hK
              have SM := Lib.hid (SV.out.re (show _ = aMap Try.prog 3 g (gE G) * (Asn.vec 3 1 (.slice A4 ((gl G x.2).length + 1) c4) ((gl G x.2).length + 1) (numsK (gl G x.2) ++ [.int .i64 x.1]) * (aGl (offG G x.2) * (Asn.blk gb 3 #[.int .i64 x.1] * (Asn.blk ge 36 #[.int .i64 x.1, .int .i64 x.2] * C)))) by ac_rfl))
              obtain ⟨w5, hst, hm5, hc5⟩ := (SM.out.kn (At.l (at_map _ _ _ _))).store kI Try.underlying38 (by rw [show (gE G).length = G.length from List.length_map _]; have := HGL.out; unfold maxLen; omega) (key_int x.2 HXW.out.2) (val := .slice A4 ((gl G x.2).length + 1) c4)
              have SN := Lib.hid (SM.out.mapTo hc5 hm5)
              rw [off_gE] at SN
              clear SV SM hm5 hc5
              go_simp
              clear hst
              refine hK.out _ _ ?_ (fun hHeld => ?_)
              · exact ⟨(SN.out.has (Has.r (Has.r (Has.r (Has.r (Has.l (has_blk ge _ _))))))).cell 0, (SN.out.has (Has.r (Has.r (Has.r (Has.r (Has.l (has_blk ge _ _))))))).cell 1⟩
              clear hK K0
              (try simp only [Act.put, List.setIfInBounds_toArray, List.set_cons_zero, List.set_cons_succ])
              (try clear hH2)
              refine wpAnyH_done (by kernel_rfl) ?_ _
              have hnn : numsK (gl G x.2) ++ [.int .i64 x.1] = numsK (gl G x.2 ++ [x.1]) := (numsK_snoc _ _).symm
              rw [hnn] at SN
              have hge : ((Lit.int .i64 x.2, Value.slice A4 ((gl G x.2).length + 1) c4) : En) :: gE (offG G x.2) = gE ((x.2, .slice A4 ((gl G x.2).length + 1) c4, gl G x.2 ++ [x.1]) :: offG G x.2) := rfl
              rw [hge] at SN
              have SO := Lib.hid ((gm_back x.2 (.slice A4 ((gl G x.2).length + 1) c4) (gl G x.2 ++ [x.1]) (SN.out.re (show _ = Asn.vec 3 1 (.slice A4 ((gl G x.2).length + 1) c4) (gl G x.2 ++ [x.1]).length (numsK (gl G x.2 ++ [x.1])) * (aMap Try.prog 3 g (gE ((x.2, .slice A4 ((gl G x.2).length + 1) c4, gl G x.2 ++ [x.1]) :: offG G x.2)) * (aGl (offG G x.2) * (Asn.blk gb 3 #[.int .i64 x.1] * (Asn.blk ge 36 #[.int .i64 x.1, .int .i64 x.2] * C)))) by
                rw [show (gl G x.2 ++ [x.1]).length = (gl G x.2).length + 1 by simp]
                ac_rfl))).re (show _ = (Asn.blk gb 3 #[.int .i64 x.1] * Asn.blk ge 36 #[.int .i64 x.1, .int .i64 x.2]) * (aGm g ((x.2, .slice A4 ((gl G x.2).length + 1) c4, gl G x.2 ++ [x.1]) :: offG G x.2) * C) by ac_rfl)).right
              clear SN hnn hge
              go_wp2_with fail
              go_roundw
              case rel =>
                refine ⟨k + 1, _, by omega, by go_num, Lib.hid (fun a => ?_), Lib.hid ?_, SO⟩
                · have hxs := take_snoc es k x HX.out
                  rw [gl_put, HG.out, HG.out, hxs, List.map_append, List.map_singleton, toL_snoc]
                  show (if a = x.2 then _ else _) = if a = x.2 then toL _ a ++ [x.1] else toL _ a
                  by_cases e : a = x.2
                  · rw [if_pos e, if_pos e, e]
                  · rw [if_neg e, if_neg e]
                · rw [List.length_cons]
                  have h1 : (offG G x.2).length ≤ G.length := List.length_filter_le _ _
                  have := HGL.out
                  omega
              case measure => simp [intOf]; omega
      case mb33z6 =>
      refine' AllReadyH.cons (o := ?ob41z9) ?hb41z9 ?kb41z9 AllReadyH.nil
      case hb41z9 => (simp only [List.getElem?_toArray, List.getElem?_cons_succ, List.getElem?_cons_zero]; rfl)
      case kb41z9 =>
        intro K0 hK
        go_simp
        obtain ⟨gb, hgz⟩ : ∃ g, g = wd.heap.size := ⟨_, rfl⟩
        have SA42 := Lib.hid ((S2.out.alloc #[.int .i64 x.1] 3).re (show _ = aGm g G * (Asn.blk wd.heap.size 3 #[.int .i64 x.1] * (Asn.blk ge 36 #[.int .i64 x.1, .int .i64 x.2] * C)) by ac_rfl))
        rw [← hgz] at SA42 ⊢
        clear hgz S2
        generalize World.alloc wd _ = wa42 at *
        refine hK.out _ _ ?_ (fun hHeld => ?_)
        · exact ⟨(SA42.out.has (Has.r (Has.r (Has.l (has_blk ge _ _))))).cell 0, (SA42.out.has (Has.r (Has.r (Has.l (has_blk ge _ _))))).cell 1⟩
        clear hK K0
        (try simp only [Act.put, List.setIfInBounds_toArray, List.set_cons_zero, List.set_cons_succ])
        (try clear hH2)
        refine wpAnyH_ready (rs := [6]) (by kernel_rfl) (by simp) ?_
        refine' AllReadyH.cons (o := ?ob43z6) ?hb43z6 ?kb43z6 AllReadyH.nil
        case hb43z6 => (simp only [List.getElem?_toArray, List.getElem?_cons_succ, List.getElem?_cons_zero]; rfl)
        case kb43z6 =>
          intro K0 hK
          have hlk := look_gm (k := gm_is SA42.out) x.2 HXW.out.2
          rw [HVS.out] at hlk
          go_simp
          clear hlk
          refine hK.out _ _ ?_ (fun hHeld => ?_)
          · exact ⟨(SA42.out.has (Has.r (Has.r (Has.l (has_blk ge _ _))))).cell 0, (SA42.out.has (Has.r (Has.r (Has.l (has_blk ge _ _))))).cell 1⟩
          clear hK K0
          (try simp only [Act.put, List.setIfInBounds_toArray, List.set_cons_zero, List.set_cons_succ])
          (try clear hH2)
          refine wpAnyH_ready (rs := [10]) (by kernel_rfl) (by simp) ?_
          refine' AllReadyH.cons (o := ?ob45z10) ?hb45z10 ?kb45z10 AllReadyH.nil
          case hb45z10 => (simp only [List.getElem?_toArray, List.getElem?_cons_succ, List.getElem?_cons_zero]; rfl)
          case kb45z10 =>
            intro K0 hK
            have SR := Lib.hid (gm_row x.2 SA42.out)
            have hbk := SA42.out.has (Has.r (Has.l (has_blk gb _ _)))
            have CX : Hid (Src Try.prog 1 26 (.slice (some ⟨gb, 0, none⟩) 1 1) 1 [.int .i64 x.1] wa42) := Lib.hid (Src.ofSlice _ Try.underlying26 ⟨gb, 0, none⟩ 1 1 [.int .i64 x.1] rfl (fun j u hj => by
              rw [Addr.add_lit, Nat.zero_add, hbk.cell]
              simpa using hj) (fun u hu => by rw [List.mem_singleton.1 hu]; rfl))
            clear hbk
            rw [HVS.out] at SR
            with_reducible refine step_append_vec rfl (.tmp 19) (.tmp 22) 26 26 rfl 3 _ 1 8 Try.underlying26 info_int rfl (by decide) (.slice A1 (gl G x.2).length c1) (gl G x.2).length (numsK (gl G x.2)) rfl SR.out.vec (.slice (some ⟨gb, 0, none⟩) 1 1) rfl 1 _ CX.out (by have := HLL.out; unfold maxLen; omega) (by have := HLL.out; omega) ?_
            intro v' w4 hv4 hc4 hf4
            have SV := Lib.hid (SR.out.app hv4 hc4 hf4)
            obtain ⟨A4, c4, rfl⟩ := hv4.slice
            clear SA42 SR CX hv4 hc4 hf4
            refine hK.out _ _ ?_ (fun hHeld => ?_)
            · exact ⟨(SV.out.has (Has.r (Has.r (Has.r (Has.r (Has.l (has_blk ge _ _))))))).cell 0, (SV.out.has (Has.r (Has.r (Has.r (Has.r (Has.l (has_blk ge _ _))))))).cell 1⟩
            clear hK K0
            (try simp only [Act.put, List.setIfInBounds_toArray, List.set_cons_zero, List.set_cons_succ])
            (try clear hH2)
            refine wpAnyH_ready (rs := [11]) (by kernel_rfl) (by simp) ?_
            refine' AllReadyH.cons (o := ?ob47z11) ?hb47z11 ?kb47z11 AllReadyH.nil
            case hb47z11 => (simp only [List.getElem?_toArray, List.getElem?_cons_succ, List.getElem?_cons_zero]; rfl)
            case kb47z11 =>
              intro K0 hK
              have SM := Lib.hid (SV.out.re (show _ = aMap Try.prog 3 g (gE G) * (Asn.vec 3 1 (.slice A4 ((gl G x.2).length + 1) c4) ((gl G x.2).length + 1) (numsK (gl G x.2) ++ [.int .i64 x.1]) * (aGl (offG G x.2) * (Asn.blk gb 3 #[.int .i64 x.1] * (Asn.blk ge 36 #[.int .i64 x.1, .int .i64 x.2] * C)))) by ac_rfl))
              obtain ⟨w5, hst, hm5, hc5⟩ := (SM.out.kn (At.l (at_map _ _ _ _))).store kI Try.underlying38 (by rw [show (gE G).length = G.length from List.length_map _]; have := HGL.out; unfold maxLen; omega) (key_int x.2 HXW.out.2) (val := .slice A4 ((gl G x.2).length + 1) c4)
              have SN := Lib.hid (SM.out.mapTo hc5 hm5)
              rw [off_gE] at SN
              clear SV SM hm5 hc5
              go_simp
              clear hst
              refine hK.out _ _ ?_ (fun hHeld => ?_)
              · exact ⟨(SN.out.has (Has.r (Has.r (Has.r (Has.r (Has.l (has_blk ge _ _))))))).cell 0, (SN.out.has (Has.r (Has.r (Has.r (Has.r (Has.l (has_blk ge _ _))))))).cell 1⟩
              clear hK K0
              (try simp only [Act.put, List.setIfInBounds_toArray, List.set_cons_zero, List.set_cons_succ])
              (try clear hH2)
              refine wpAnyH_done (by kernel_rfl) ?_ _
              have hnn : numsK (gl G x.2) ++ [.int .i64 x.1] = numsK (gl G x.2 ++ [x.1]) := (numsK_snoc _ _).symm
              rw [hnn] at SN
              have hge : ((Lit.int .i64 x.2, Value.slice A4 ((gl G x.2).length + 1) c4) : En) :: gE (offG G x.2) = gE ((x.2, .slice A4 ((gl G x.2).length + 1) c4, gl G x.2 ++ [x.1]) :: offG G x.2) := rfl
              rw [hge] at SN
              have SO := Lib.hid ((gm_back x.2 (.slice A4 ((gl G x.2).length + 1) c4) (gl G x.2 ++ [x.1]) (SN.out.re (show _ = Asn.vec 3 1 (.slice A4 ((gl G x.2).length + 1) c4) (gl G x.2 ++ [x.1]).length (numsK (gl G x.2 ++ [x.1])) * (aMap Try.prog 3 g (gE ((x.2, .slice A4 ((gl G x.2).length + 1) c4, gl G x.2 ++ [x.1]) :: offG G x.2)) * (aGl (offG G x.2) * (Asn.blk gb 3 #[.int .i64 x.1] * (Asn.blk ge 36 #[.int .i64 x.1, .int .i64 x.2] * C)))) by
                rw [show (gl G x.2 ++ [x.1]).length = (gl G x.2).length + 1 by simp]
                ac_rfl))).re (show _ = (Asn.blk gb 3 #[.int .i64 x.1] * Asn.blk ge 36 #[.int .i64 x.1, .int .i64 x.2]) * (aGm g ((x.2, .slice A4 ((gl G x.2).length + 1) c4, gl G x.2 ++ [x.1]) :: offG G x.2) * C) by ac_rfl)).right
              clear SN hnn hge
              go_wp2_with fail
              go_roundw
              case rel =>
                refine ⟨k + 1, _, by omega, by go_num, Lib.hid (fun a => ?_), Lib.hid ?_, SO⟩
                · have hxs := take_snoc es k x HX.out
                  rw [gl_put, HG.out, HG.out, hxs, List.map_append, List.map_singleton, toL_snoc]
                  show (if a = x.2 then _ else _) = if a = x.2 then toL _ a ++ [x.1] else toL _ a
                  by_cases e : a = x.2
                  · rw [if_pos e, if_pos e, e]
                  · rw [if_neg e, if_neg e]
                · rw [List.length_cons]
                  have h1 : (offG G x.2).length ≤ G.length := List.length_filter_le _ _
                  have := HGL.out
                  omega
              case measure => simp [intOf]; omega
    · obtain rfl : k = es.length := by omega
      go_wp2_with fail
      go_returns
      refine ⟨g, G, rfl, HGL.out, ?_, S.out⟩
      have := HG.out
      rw [List.take_length] at this
      exact this
end Go.Proofs.Ytbcemognghkmcaa.Kt
