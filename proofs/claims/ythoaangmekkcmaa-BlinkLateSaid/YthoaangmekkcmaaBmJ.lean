/- The law's world: a part. -/
import Derived.Test.YthoaangmekkcmaaBmF
import Derived.Test.YthoaangmekkcmaaWkU
namespace Go.Proofs.Ythoaangmekkcmaa.Bk
open Go.ChangeShapes Go.WideShapes Go.ChangeAt Go.RowKit Go.PlainAid Aid Nt Nd Tr
set_option linter.unusedVariables false
set_option linter.unusedSimpArgs false
set_option linter.unusedSectionVars false
theorem infoPost : (Try.prog.info? 80).map (fun i => (i.zero, i.size, i.bytes)) = some (some (.agg #[.int .i64 0, .int .i64 0, .string ⟨#[]⟩, .int .i64 0]), 4, 40) := by kernel_rfl
theorem poL_snoc (ps : List Po) (x : Po) : poL (ps ++ [x]) = poL ps ++ (poC x).toList := by unfold poL; rw [List.flatMap_append]; simp
theorem post_cellsB {w : World} {g : Nat} {T : TypeId} {a0 a1 a2 a3 : Value} (h : Blk w g T #[a0, a1, a2, a3]) : w.cell? ⟨g, 0, none⟩ = some a0 ∧ w.cell? ⟨g, 1, none⟩ = some a1 ∧ w.cell? ⟨g, 2, none⟩ = some a2 ∧ w.cell? ⟨g, 3, none⟩ = some a3 := ⟨h.cell 0, h.cell 1, h.cell 2, h.cell 3⟩
theorem own_setRowB {w0 w : World} {O0 : Nat → Prop} {g : Nat} {A : Asn} {T : TypeId} {c : Array Value} (h : Own w0 O0 w (Asn.blk g T c * A)) (C : Array Value) : Own w0 O0 (w.setRow g C) (Asn.blk g T C * A) := by
  refine h.then fun O ⟨X, Y, hb, hA, hd, hO⟩ => ⟨⟨O, ⟨X, Y, ⟨setRow_heap w g c C T _ hb.1, hb.2⟩, A.keep w _ Y (· = g) hA (chg_setRow w g C) (fun k hk e => hd k ((hb.2 k).2 e) hk), hd, hO⟩, Fresh.refl _ _⟩, (chg_setRow w g C).mono (fun i _ e => (hO i).2 (Or.inl ((hb.2 i).2 e)))⟩
theorem store_post {P : Program} (po : Po) {w : World} {g : Nat} {T : TypeId} {c0 c1 c2 c3 : Value} (h : Blk w g T #[c0, c1, c2, c3]) : (storeCells ⟨g, 0, none⟩ (poC po).toList).run P w = .ok () (w.setRow g (poC po)) := by
  have := run_storeCells_at P g 0 T (poC po).toList 0 _ w h (Nat.le_refl 4) (fun v hv => by
    unfold poC at hv
    simp only [List.mem_cons, List.not_mem_nil, or_false] at hv
    rcases hv with rfl | rfl | rfl | rfl <;> rfl)
  exact this
def addP (ps : List Po) (po : Po) : List Po := if po = po0 then ps else ps ++ [po]
set_option maxRecDepth 100000 in
set_option maxHeartbeats 16000000 in
theorem part_law (g gs : Nat) (S : Sf) (V : Nat → Value) (vl : Value) (l : List Ent) (vp : Value) (ps : List Po) (n : Nat) (hs : Sm S) (hv : LvOk S) (lv : Int) (key : By) (cs : List (Int × Nod)) (po : Po) (hn : n + 2 < 256) (hpl : ps.length ≤ 1000)
    (hsp : splitR S 3 lv key n ((n + 1 : Nat) : Int) = (0, cs, po)) (hpo : po = po0 ∨ po.1 = 2) (w0 w : World) (C : Asn) (hS : Own w0 No w (aWd g gs S V vl l vp ps n * C)) :
    Calls Try.prog 35 #[.pointer (some ⟨g, 0, none⟩), .int .i64 lv, .string (ofL key)] w fun e w' => e = .returned (.bool true) ∧ ∃ V' vp', Own w0 No w' (aWd g gs (puts S cs) V' vl l vp' (addP ps po) ((n + 2 : Nat) : Int) * C) := by
  have hw1 : IntKind.i64.wrap ((n : Int) + 1) = ((n + 1 : Nat) : Int) := by rw [i64_is, IntWalk.wrap64_in _ ⟨by omega, by omega⟩]; omega
  have hw2 : IntKind.i64.wrap ((n : Int) + 2) = ((n + 2 : Nat) : Int) := by rw [i64_is, IntWalk.wrap64_in _ ⟨by omega, by omega⟩]; omega
  have HSp := Lib.hid (fun W C h => Split_any gs S V hs hv 3 lv key n ((n + 1 : Nat) : Int) w0 W C h)
  have hmd := Wk.split_md hs hv 3 lv key n ((n + 1 : Nat) : Int)
  rw [hsp] at HSp hmd
  dsimp only at HSp hmd
  unfold pgs at HSp
  rw [show ((n + 1 : Nat) : Int) = (n : Int) + 1 from rfl] at HSp
  have HM := Lib.hid hmd
  have HPO := Lib.hid hpo
  have S0 := Lib.hid hS
  clear hmd hsp hpo hS hs hv
  unfold aWd at S0 ⊢
  unfold sPtr at *
  obtain ⟨c0, c1, c2, c3⟩ := post_cellsB (S0.out.has (Has.l (Has.l (has_blk g _ _))))
  clear c1 c2
  have hlt : ¬ (256 : Int) ≤ (n : Int) + 2 := by omega
  go_enter Try.func35, Try.ntmps35
  go_upto_region 3 with fail
  have S1 := Lib.hid (S0.out.re (show _ = aSf gs S V * (Asn.blk g 30 #[.pointer (some ⟨gs, 0, none⟩), vl, vp, .int .i64 n] * (Asn.vec 44 3 vl l.length (cells3 l) * (Asn.vec 80 4 vp ps.length (poL ps) * C))) by ac_rfl)).drew
  clear S0 hlt
  obtain ⟨R, hR⟩ : ∃ R : Asn, R = Asn.vec 44 3 vl l.length (cells3 l) * (Asn.vec 80 4 vp ps.length (poL ps) * C) := ⟨_, rfl⟩
  rw [← hR] at S1
  go_cut [7, 8, 9] (fun s7 s8 s9 wx => ∃ (L : List Sp) (A : Option Addr) (c gp : Nat), s7 = .slice A L.length c ∧ s8 = .pointer (some ⟨gp, 0, none⟩) ∧ s9 = .int .i64 0 ∧ plain L = cs ∧
    Hid (Own w0 No wx (Asn.vec 73 8 (.slice A L.length c) L.length (spL L) * (aLs L * (aSf gs S V * (Asn.blk gp 80 (poC po) * (Asn.blk g 30 #[.pointer (some ⟨gs, 0, none⟩), vl, vp, .int .i64 n] * R)))))))
  case first =>
    as_aux_lemma =>
      refine wp_region_held_drew (S := fun W : World => W.cell? ⟨g, 0, none⟩ = some (.pointer (some ⟨gs, 0, none⟩)) ∧ W.cell? ⟨g, 3, none⟩ = some (.int .i64 n)) (by kernel_rfl) ⟨c0, c3⟩ (fun hHeld => ?_)
      generalize w.drew = wd at *
      refine' wpAnyH_take (i := 0) (oi := ?ot1z0) (v := ?vt1z0) ?ht1z0 ?st1z0 ?ft1z0 ?zt1z0 ?qt1z0 ?yt1z0 ?at1z0 ?rt1z0
      case ht1z0 => (simp only [List.getElem?_toArray, List.getElem?_cons_succ, List.getElem?_cons_zero]; rfl)
      case st1z0 => kernel_rfl
      case ft1z0 => kernel_rfl
      case zt1z0 => kernel_rfl
      case qt1z0 => exact fun _ _ _ h => h
      case yt1z0 => (refine Or.inl ⟨rfl, ?_⟩; intro w hSw; (try dsimp only at hSw); go_simp; try with_reducible rfl)
      case at1z0 => assumption
      case rt1z0 =>
      simp only [Act.put, List.setIfInBounds_toArray, List.set_cons_zero, List.set_cons_succ]
      refine' wpAnyH_take (i := 1) (oi := ?ot2z1) (v := ?vt2z1) ?ht2z1 ?st2z1 ?ft2z1 ?zt2z1 ?qt2z1 ?yt2z1 ?at2z1 ?rt2z1
      case ht2z1 => (simp only [List.getElem?_toArray, List.getElem?_cons_succ, List.getElem?_cons_zero]; rfl)
      case st2z1 => kernel_rfl
      case ft2z1 => kernel_rfl
      case zt2z1 => kernel_rfl
      case qt2z1 => exact fun _ _ _ h => h
      case yt2z1 => (refine Or.inl ⟨rfl, ?_⟩; intro w hSw; (try dsimp only at hSw); go_simp; try with_reducible rfl)
      case at2z1 => assumption
      case rt2z1 =>
      simp only [Act.put, List.setIfInBounds_toArray, List.set_cons_zero, List.set_cons_succ]
      refine' wpAnyH_take (i := 2) (oi := ?ot3z2) (v := ?vt3z2) ?ht3z2 ?st3z2 ?ft3z2 ?zt3z2 ?qt3z2 ?yt3z2 ?at3z2 ?rt3z2
      case ht3z2 => (simp only [List.getElem?_toArray, List.getElem?_cons_succ, List.getElem?_cons_zero]; rfl)
      case st3z2 => kernel_rfl
      case ft3z2 => kernel_rfl
      case zt3z2 => kernel_rfl
      case qt3z2 => exact fun _ _ _ h => h
      case yt3z2 => (refine Or.inl ⟨rfl, ?_⟩; intro w hSw; (try dsimp only at hSw); go_simp; try with_reducible rfl)
      case at3z2 => assumption
      case rt3z2 =>
      simp only [Act.put, List.setIfInBounds_toArray, List.set_cons_zero, List.set_cons_succ]
      refine' wpAnyH_take (i := 3) (oi := ?ot4z3) (v := ?vt4z3) ?ht4z3 ?st4z3 ?ft4z3 ?zt4z3 ?qt4z3 ?yt4z3 ?at4z3 ?rt4z3
      case ht4z3 => (simp only [List.getElem?_toArray, List.getElem?_cons_succ, List.getElem?_cons_zero]; rfl)
      case st4z3 => kernel_rfl
      case ft4z3 => kernel_rfl
      case zt4z3 => kernel_rfl
      case qt4z3 => exact fun _ _ _ h => h
      case yt4z3 => (refine Or.inl ⟨rfl, ?_⟩; intro w hSw; (try dsimp only at hSw); go_simp; try with_reducible rfl)
      case at4z3 => assumption
      case rt4z3 =>
      simp only [Act.put, List.setIfInBounds_toArray, List.set_cons_zero, List.set_cons_succ]
      refine' wpAnyH_take (i := 4) (oi := ?ot5z4) (v := ?vt5z4) ?ht5z4 ?st5z4 ?ft5z4 ?zt5z4 ?qt5z4 ?yt5z4 ?at5z4 ?rt5z4
      case ht5z4 => (simp only [List.getElem?_toArray, List.getElem?_cons_succ, List.getElem?_cons_zero]; rfl)
      case st5z4 => kernel_rfl
      case ft5z4 => kernel_rfl
      case zt5z4 => kernel_rfl
      case qt5z4 => exact fun _ _ _ h => h
      case yt5z4 => (refine Or.inl ⟨rfl, ?_⟩; intro w hSw; (try dsimp only at hSw); go_simp; try with_reducible rfl)
      case at5z4 => assumption
      case rt5z4 =>
      simp only [Act.put, List.setIfInBounds_toArray, List.set_cons_zero, List.set_cons_succ]
      refine' wpAnyH_take (i := 5) (oi := ?ot6z5) (v := ?vt6z5) ?ht6z5 ?st6z5 ?ft6z5 ?zt6z5 ?qt6z5 ?yt6z5 ?at6z5 ?rt6z5
      case ht6z5 => (simp only [List.getElem?_toArray, List.getElem?_cons_succ, List.getElem?_cons_zero]; rfl)
      case st6z5 => kernel_rfl
      case ft6z5 => kernel_rfl
      case zt6z5 => kernel_rfl
      case qt6z5 => exact fun _ _ _ h => h
      case yt6z5 => (refine Or.inl ⟨rfl, ?_⟩; intro w hSw; (try dsimp only at hSw); go_simp; try with_reducible rfl)
      case at6z5 => assumption
      case rt6z5 =>
      simp only [Act.put, List.setIfInBounds_toArray, List.set_cons_zero, List.set_cons_succ]
      refine' wpAnyH_take (i := 6) (oi := ?ot7z6) (v := ?vt7z6) ?ht7z6 ?st7z6 ?ft7z6 ?zt7z6 ?qt7z6 ?yt7z6 ?at7z6 ?rt7z6
      case ht7z6 => (simp only [List.getElem?_toArray, List.getElem?_cons_succ, List.getElem?_cons_zero]; rfl)
      case st7z6 => kernel_rfl
      case ft7z6 => kernel_rfl
      case zt7z6 => kernel_rfl
      case qt7z6 => exact fun _ _ _ h => h
      case yt7z6 => (refine Or.inl ⟨rfl, ?_⟩; intro w hSw; (try dsimp only at hSw); go_simp; try with_reducible rfl)
      case at7z6 => assumption
      case rt7z6 =>
      simp only [Act.put, List.setIfInBounds_toArray, List.set_cons_zero, List.set_cons_succ]
      refine' wpAnyH_take (i := 7) (oi := ?ot8z7) (v := ?vt8z7) ?ht8z7 ?st8z7 ?ft8z7 ?zt8z7 ?qt8z7 ?yt8z7 ?at8z7 ?rt8z7
      case ht8z7 => (simp only [List.getElem?_toArray, List.getElem?_cons_succ, List.getElem?_cons_zero]; rfl)
      case st8z7 => kernel_rfl
      case ft8z7 => kernel_rfl
      case zt8z7 => kernel_rfl
      case qt8z7 => exact fun _ _ _ h => h
      case yt8z7 => (refine Or.inl ⟨rfl, ?_⟩; intro w hSw; (try dsimp only at hSw); go_simp; try with_reducible rfl)
      case at8z7 => assumption
      case rt8z7 =>
      simp only [Act.put, List.setIfInBounds_toArray, List.set_cons_zero, List.set_cons_succ]
      refine' wpAnyH_take (i := 8) (oi := ?ot9z8) (v := ?vt9z8) ?ht9z8 ?st9z8 ?ft9z8 ?zt9z8 ?qt9z8 ?yt9z8 ?at9z8 ?rt9z8
      case ht9z8 => (simp only [List.getElem?_toArray, List.getElem?_cons_succ, List.getElem?_cons_zero]; rfl)
      case st9z8 => kernel_rfl
      case ft9z8 => kernel_rfl
      case zt9z8 => kernel_rfl
      case qt9z8 => exact fun _ _ _ h => h
      case yt9z8 => (refine Or.inl ⟨rfl, ?_⟩; intro w hSw; (try dsimp only at hSw); go_simp; try with_reducible rfl)
      case at9z8 => assumption
      case rt9z8 =>
      simp only [Act.put, List.setIfInBounds_toArray, List.set_cons_zero, List.set_cons_succ]
      refine' wpAnyH_take (i := 9) (oi := ?ot10z9) (v := ?vt10z9) ?ht10z9 ?st10z9 ?ft10z9 ?zt10z9 ?qt10z9 ?yt10z9 ?at10z9 ?rt10z9
      case ht10z9 => (simp only [List.getElem?_toArray, List.getElem?_cons_succ, List.getElem?_cons_zero]; rfl)
      case st10z9 => kernel_rfl
      case ft10z9 => kernel_rfl
      case zt10z9 => kernel_rfl
      case qt10z9 => exact fun _ _ _ h => h
      case yt10z9 => (refine Or.inl ⟨rfl, ?_⟩; intro w hSw; (try dsimp only at hSw); go_simp; try with_reducible rfl)
      case at10z9 => assumption
      case rt10z9 =>
      simp only [Act.put, List.setIfInBounds_toArray, List.set_cons_zero, List.set_cons_succ]
      refine' wpAnyH_take (i := 10) (oi := ?ot11z10) (v := ?vt11z10) ?ht11z10 ?st11z10 ?ft11z10 ?zt11z10 ?qt11z10 ?yt11z10 ?at11z10 ?rt11z10
      case ht11z10 => (simp only [List.getElem?_toArray, List.getElem?_cons_succ, List.getElem?_cons_zero]; rfl)
      case st11z10 => kernel_rfl
      case ft11z10 => kernel_rfl
      case zt11z10 => kernel_rfl
      case qt11z10 => exact fun _ _ _ h => h
      case yt11z10 => (refine Or.inl ⟨rfl, ?_⟩; intro w hSw; (try dsimp only at hSw); go_simp; try with_reducible rfl)
      case at11z10 => assumption
      case rt11z10 =>
      simp only [Act.put, List.setIfInBounds_toArray, List.set_cons_zero, List.set_cons_succ]
      refine' wpAnyH_take (i := 11) (oi := ?ot12z11) (v := ?vt12z11) ?ht12z11 ?st12z11 ?ft12z11 ?zt12z11 ?qt12z11 ?yt12z11 ?at12z11 ?rt12z11
      case ht12z11 => (simp only [List.getElem?_toArray, List.getElem?_cons_succ, List.getElem?_cons_zero]; rfl)
      case st12z11 => kernel_rfl
      case ft12z11 => kernel_rfl
      case zt12z11 => kernel_rfl
      case qt12z11 => exact fun _ _ _ h => h
      case yt12z11 => (refine Or.inl ⟨rfl, ?_⟩; intro w hSw; (try dsimp only at hSw); go_simp; try with_reducible rfl)
      case at12z11 => assumption
      case rt12z11 =>
      simp only [Act.put, List.setIfInBounds_toArray, List.set_cons_zero, List.set_cons_succ]
      refine' wpAnyH_take (i := 12) (oi := ?ot13z12) (v := ?vt13z12) ?ht13z12 ?st13z12 ?ft13z12 ?zt13z12 ?qt13z12 ?yt13z12 ?at13z12 ?rt13z12
      case ht13z12 => (simp only [List.getElem?_toArray, List.getElem?_cons_succ, List.getElem?_cons_zero]; rfl)
      case st13z12 => kernel_rfl
      case ft13z12 => kernel_rfl
      case zt13z12 => kernel_rfl
      case qt13z12 => exact fun _ _ _ h => h
      case yt13z12 => (refine Or.inl ⟨rfl, ?_⟩; intro w hSw; (try dsimp only at hSw); go_simp; try with_reducible rfl)
      case at13z12 => assumption
      case rt13z12 =>
      simp only [Act.put, List.setIfInBounds_toArray, List.set_cons_zero, List.set_cons_succ]
      refine' wpAnyH_take (i := 13) (oi := ?ot14z13) (v := ?vt14z13) ?ht14z13 ?st14z13 ?ft14z13 ?zt14z13 ?qt14z13 ?yt14z13 ?at14z13 ?rt14z13
      case ht14z13 => (simp only [List.getElem?_toArray, List.getElem?_cons_succ, List.getElem?_cons_zero]; rfl)
      case st14z13 => kernel_rfl
      case ft14z13 => kernel_rfl
      case zt14z13 => kernel_rfl
      case qt14z13 => exact fun _ _ _ h => h
      case yt14z13 => (refine Or.inl ⟨rfl, ?_⟩; intro w hSw; (try dsimp only at hSw); go_simp; try with_reducible rfl)
      case at14z13 => assumption
      case rt14z13 =>
      simp only [Act.put, List.setIfInBounds_toArray, List.set_cons_zero, List.set_cons_succ]
      refine' wpAnyH_take (i := 14) (oi := ?ot15z14) (v := ?vt15z14) ?ht15z14 ?st15z14 ?ft15z14 ?zt15z14 ?qt15z14 ?yt15z14 ?at15z14 ?rt15z14
      case ht15z14 => (simp only [List.getElem?_toArray, List.getElem?_cons_succ, List.getElem?_cons_zero]; rfl)
      case st15z14 => kernel_rfl
      case ft15z14 => kernel_rfl
      case zt15z14 => kernel_rfl
      case qt15z14 => exact fun _ _ _ h => h
      case yt15z14 => (refine Or.inl ⟨rfl, ?_⟩; intro w hSw; (try dsimp only at hSw); go_simp; try with_reducible rfl)
      case at15z14 => assumption
      case rt15z14 =>
      simp only [Act.put, List.setIfInBounds_toArray, List.set_cons_zero, List.set_cons_succ]
      refine' wpAnyH_take (i := 15) (oi := ?ot16z15) (v := ?vt16z15) ?ht16z15 ?st16z15 ?ft16z15 ?zt16z15 ?qt16z15 ?yt16z15 ?at16z15 ?rt16z15
      case ht16z15 => (simp only [List.getElem?_toArray, List.getElem?_cons_succ, List.getElem?_cons_zero]; rfl)
      case st16z15 => kernel_rfl
      case ft16z15 => kernel_rfl
      case zt16z15 => kernel_rfl
      case qt16z15 => exact fun _ _ _ h => h
      case yt16z15 => (refine Or.inl ⟨rfl, ?_⟩; intro w hSw; (try dsimp only at hSw); go_simp; try with_reducible rfl)
      case at16z15 => assumption
      case rt16z15 =>
      simp only [Act.put, List.setIfInBounds_toArray, List.set_cons_zero, List.set_cons_succ]
      refine' wpAnyH_take (i := 16) (oi := ?ot17z16) (v := ?vt17z16) ?ht17z16 ?st17z16 ?ft17z16 ?zt17z16 ?qt17z16 ?yt17z16 ?at17z16 ?rt17z16
      case ht17z16 => (simp only [List.getElem?_toArray, List.getElem?_cons_succ, List.getElem?_cons_zero]; rfl)
      case st17z16 => kernel_rfl
      case ft17z16 => kernel_rfl
      case zt17z16 => kernel_rfl
      case qt17z16 => exact fun _ _ _ h => h
      case yt17z16 => (refine Or.inl ⟨rfl, ?_⟩; intro w hSw; (try dsimp only at hSw); go_simp; try with_reducible rfl)
      case at17z16 => assumption
      case rt17z16 =>
      simp only [Act.put, List.setIfInBounds_toArray, List.set_cons_zero, List.set_cons_succ]
      refine wpAnyH_ready (rs := [17, 22]) (by kernel_rfl) (by simp) ?_
      refine' AllReadyH.cons (o := ?ob18z17) ?hb18z17 ?kb18z17 ?mb18z17
      case hb18z17 => (simp only [List.getElem?_toArray, List.getElem?_cons_succ, List.getElem?_cons_zero]; rfl)
      case kb18z17 =>
        intro K0 hK
        go_simp
        refine (HSp.out wd _ S1.out).mono ?_
        rintro e wc19 ⟨v, L, rfl, hpl, hX⟩
        obtain ⟨A, c, rfl⟩ := hX.vec.slice
        have SC19 := Lib.hid hX
        clear hX S1
        refine hK.out _ _ ?_ (fun hHeld => ?_)
        · exact ⟨(SC19.out.has (Has.r (Has.r (Has.r (Has.l (has_blk g _ _)))))).cell 0, (SC19.out.has (Has.r (Has.r (Has.r (Has.l (has_blk g _ _)))))).cell 3⟩
        clear hK K0
        (try simp only [Act.put, List.setIfInBounds_toArray, List.set_cons_zero, List.set_cons_succ])
        (try clear hH2)
        refine' wpAnyH_take (i := 18) (oi := ?ot20z18) (v := ?vt20z18) ?ht20z18 ?st20z18 ?ft20z18 ?zt20z18 ?qt20z18 ?yt20z18 ?at20z18 ?rt20z18
        case ht20z18 => (simp only [List.getElem?_toArray, List.getElem?_cons_succ, List.getElem?_cons_zero]; rfl)
        case st20z18 => kernel_rfl
        case ft20z18 => kernel_rfl
        case zt20z18 => kernel_rfl
        case qt20z18 => exact fun _ _ _ h => h
        case yt20z18 => (refine Or.inl ⟨rfl, ?_⟩; intro w hSw; (try dsimp only at hSw); go_simp; try with_reducible rfl)
        case at20z18 => assumption
        case rt20z18 =>
        simp only [Act.put, List.setIfInBounds_toArray, List.set_cons_zero, List.set_cons_succ]
        refine' wpAnyH_take (i := 19) (oi := ?ot21z19) (v := ?vt21z19) ?ht21z19 ?st21z19 ?ft21z19 ?zt21z19 ?qt21z19 ?yt21z19 ?at21z19 ?rt21z19
        case ht21z19 => (simp only [List.getElem?_toArray, List.getElem?_cons_succ, List.getElem?_cons_zero]; rfl)
        case st21z19 => kernel_rfl
        case ft21z19 => kernel_rfl
        case zt21z19 => kernel_rfl
        case qt21z19 => exact fun _ _ _ h => h
        case yt21z19 => (refine Or.inl ⟨rfl, ?_⟩; intro w hSw; (try dsimp only at hSw); go_simp; try with_reducible rfl)
        case at21z19 => assumption
        case rt21z19 =>
        simp only [Act.put, List.setIfInBounds_toArray, List.set_cons_zero, List.set_cons_succ]
        refine' wpAnyH_take (i := 20) (oi := ?ot22z20) (v := ?vt22z20) ?ht22z20 ?st22z20 ?ft22z20 ?zt22z20 ?qt22z20 ?yt22z20 ?at22z20 ?rt22z20
        case ht22z20 => (simp only [List.getElem?_toArray, List.getElem?_cons_succ, List.getElem?_cons_zero]; rfl)
        case st22z20 => kernel_rfl
        case ft22z20 => kernel_rfl
        case zt22z20 => kernel_rfl
        case qt22z20 => exact fun _ _ _ h => h
        case yt22z20 => (refine Or.inl ⟨rfl, ?_⟩; intro w hSw; (try dsimp only at hSw); go_simp; try with_reducible rfl)
        case at22z20 => assumption
        case rt22z20 =>
        simp only [Act.put, List.setIfInBounds_toArray, List.set_cons_zero, List.set_cons_succ]
        refine' wpAnyH_take (i := 21) (oi := ?ot23z21) (v := ?vt23z21) ?ht23z21 ?st23z21 ?ft23z21 ?zt23z21 ?qt23z21 ?yt23z21 ?at23z21 ?rt23z21
        case ht23z21 => (simp only [List.getElem?_toArray, List.getElem?_cons_succ, List.getElem?_cons_zero]; rfl)
        case st23z21 => kernel_rfl
        case ft23z21 => kernel_rfl
        case zt23z21 => kernel_rfl
        case qt23z21 => exact fun _ _ _ h => h
        case yt23z21 => (refine Or.inl ⟨rfl, ?_⟩; intro w hSw; (try dsimp only at hSw); go_simp; try with_reducible rfl)
        case at23z21 => assumption
        case rt23z21 =>
        simp only [Act.put, List.setIfInBounds_toArray, List.set_cons_zero, List.set_cons_succ]
        refine wpAnyH_ready (rs := [22]) (by kernel_rfl) (by simp) ?_
        refine' AllReadyH.cons (o := ?ob24z22) ?hb24z22 ?kb24z22 AllReadyH.nil
        case hb24z22 => (simp only [List.getElem?_toArray, List.getElem?_cons_succ, List.getElem?_cons_zero]; rfl)
        case kb24z22 =>
          intro K0 hK
          go_simp
          obtain ⟨gp, hgz⟩ : ∃ g, g = wc19.heap.size := ⟨_, rfl⟩
          have SA25 := Lib.hid (SC19.out.alloc #[.int .i64 0, .int .i64 0, .string ⟨#[]⟩, .int .i64 0] 80)
          rw [← hgz] at SA25 ⊢
          clear hgz SC19
          generalize World.alloc wc19 _ = wa25 at *
          have SA25 := Lib.hid (SA25.out.re (show _ = Asn.vec 73 8 (.slice A L.length c) L.length (spL L) * (aLs L * (aSf gs S V * (Asn.blk gp 80 #[.int .i64 0, .int .i64 0, .string ⟨#[]⟩, .int .i64 0] * (Asn.blk g 30 #[.pointer (some ⟨gs, 0, none⟩), vl, vp, .int .i64 n] * R)))) by ac_rfl))
          refine hK.out _ _ ?_ (fun hHeld => ?_)
          · exact ⟨(SA25.out.has (Has.r (Has.r (Has.r (Has.r (Has.l (has_blk g _ _))))))).cell 0, (SA25.out.has (Has.r (Has.r (Has.r (Has.r (Has.l (has_blk g _ _))))))).cell 3⟩
          clear hK K0
          (try simp only [Act.put, List.setIfInBounds_toArray, List.set_cons_zero, List.set_cons_succ])
          (try clear hH2)
          refine' wpAnyH_take (i := 23) (oi := ?ot26z23) (v := ?vt26z23) ?ht26z23 ?st26z23 ?ft26z23 ?zt26z23 ?qt26z23 ?yt26z23 ?at26z23 ?rt26z23
          case ht26z23 => (simp only [List.getElem?_toArray, List.getElem?_cons_succ, List.getElem?_cons_zero]; rfl)
          case st26z23 => kernel_rfl
          case ft26z23 => kernel_rfl
          case zt26z23 => kernel_rfl
          case qt26z23 => exact fun _ _ _ h => h
          case yt26z23 => (refine Or.inl ⟨rfl, ?_⟩; intro w hSw; (try dsimp only at hSw); go_simp; try with_reducible rfl)
          case at26z23 => assumption
          case rt26z23 =>
          simp only [Act.put, List.setIfInBounds_toArray, List.set_cons_zero, List.set_cons_succ]
          refine wpAnyH_ready (rs := [24]) (by kernel_rfl) (by simp) ?_
          refine' AllReadyH.cons (o := ?ob27z24) ?hb27z24 ?kb27z24 AllReadyH.nil
          case hb27z24 => (simp only [List.getElem?_toArray, List.getElem?_cons_succ, List.getElem?_cons_zero]; rfl)
          case kb27z24 =>
            intro K0 hK
            have hq := SA25.out.re (show _ = Asn.blk gp 80 #[.int .i64 0, .int .i64 0, .string ⟨#[]⟩, .int .i64 0] * (Asn.vec 73 8 (.slice A L.length c) L.length (spL L) * (aLs L * (aSf gs S V * (Asn.blk g 30 #[.pointer (some ⟨gs, 0, none⟩), vl, vp, .int .i64 n] * R)))) by ac_rfl)
            have hst := store_post (P := Try.prog) po (hq.has (Has.l (has_blk gp _ _)))
            have hsz : (poC po).size = 4 := rfl
            go_simp
            clear hst hsz
            have SB28 := Lib.hid ((own_setRowB hq (poC po)).re (show _ = Asn.vec 73 8 (.slice A L.length c) L.length (spL L) * (aLs L * (aSf gs S V * (Asn.blk gp 80 (poC po) * (Asn.blk g 30 #[.pointer (some ⟨gs, 0, none⟩), vl, vp, .int .i64 n] * R)))) by ac_rfl))
            clear SA25 hq
            generalize World.setRow _ _ _ = wb28 at *
            refine hK.out _ _ ?_ (fun hHeld => ?_)
            · exact ⟨(SB28.out.has (Has.r (Has.r (Has.r (Has.r (Has.l (has_blk g _ _))))))).cell 0, (SB28.out.has (Has.r (Has.r (Has.r (Has.r (Has.l (has_blk g _ _))))))).cell 3⟩
            clear hK K0
            (try simp only [Act.put, List.setIfInBounds_toArray, List.set_cons_zero, List.set_cons_succ])
            (try clear hH2)
            refine' wpAnyH_take (i := 25) (oi := ?ot29z25) (v := ?vt29z25) ?ht29z25 ?st29z25 ?ft29z25 ?zt29z25 ?qt29z25 ?yt29z25 ?at29z25 ?rt29z25
            case ht29z25 => (simp only [List.getElem?_toArray, List.getElem?_cons_succ, List.getElem?_cons_zero]; rfl)
            case st29z25 => kernel_rfl
            case ft29z25 => kernel_rfl
            case zt29z25 => kernel_rfl
            case qt29z25 => exact fun _ _ _ h => h
            case yt29z25 => (refine Or.inl ⟨rfl, ?_⟩; intro w hSw; (try dsimp only at hSw); go_simp; try with_reducible rfl)
            case at29z25 => assumption
            case rt29z25 =>
            simp only [Act.put, List.setIfInBounds_toArray, List.set_cons_zero, List.set_cons_succ]
            refine wpAnyH_done (by kernel_rfl) ?_ _
            go_wp2_with fail
            go_meet
            case rel => exact ⟨L, A, c, gp, rfl, rfl, rfl, hpl, Lib.hid (SB28.out.re (show _ = Asn.vec 73 8 (.slice A L.length c) L.length (spL L) * (aLs L * (aSf gs S V * (Asn.blk gp 80 (poC po) * (Asn.blk g 30 #[.pointer (some ⟨gs, 0, none⟩), vl, vp, .int .i64 n] * R)))) by ac_rfl))⟩
      case mb18z17 =>
      refine' AllReadyH.cons (o := ?ob30z22) ?hb30z22 ?kb30z22 AllReadyH.nil
      case hb30z22 => (simp only [List.getElem?_toArray, List.getElem?_cons_succ, List.getElem?_cons_zero]; rfl)
      case kb30z22 =>
        intro K0 hK
        go_simp
        obtain ⟨gp, hgz⟩ : ∃ g, g = wd.heap.size := ⟨_, rfl⟩
        have SA31 := Lib.hid (S1.out.alloc #[.int .i64 0, .int .i64 0, .string ⟨#[]⟩, .int .i64 0] 80)
        rw [← hgz] at SA31 ⊢
        clear hgz S1
        generalize World.alloc wd _ = wa31 at *
        have SA31 := Lib.hid (SA31.out.re (show _ = aSf gs S V * (Asn.blk gp 80 #[.int .i64 0, .int .i64 0, .string ⟨#[]⟩, .int .i64 0] * (Asn.blk g 30 #[.pointer (some ⟨gs, 0, none⟩), vl, vp, .int .i64 n] * R)) by ac_rfl))
        refine hK.out _ _ ?_ (fun hHeld => ?_)
        · exact ⟨(SA31.out.has (Has.r (Has.r (Has.l (has_blk g _ _))))).cell 0, (SA31.out.has (Has.r (Has.r (Has.l (has_blk g _ _))))).cell 3⟩
        clear hK K0
        (try simp only [Act.put, List.setIfInBounds_toArray, List.set_cons_zero, List.set_cons_succ])
        (try clear hH2)
        refine wpAnyH_ready (rs := [17]) (by kernel_rfl) (by simp) ?_
        refine' AllReadyH.cons (o := ?ob32z17) ?hb32z17 ?kb32z17 AllReadyH.nil
        case hb32z17 => (simp only [List.getElem?_toArray, List.getElem?_cons_succ, List.getElem?_cons_zero]; rfl)
        case kb32z17 =>
          intro K0 hK
          go_simp
          refine (HSp.out wa31 _ SA31.out).mono ?_
          rintro e wc33 ⟨v, L, rfl, hpl, hX⟩
          obtain ⟨A, c, rfl⟩ := hX.vec.slice
          have SC33 := Lib.hid hX
          clear hX SA31
          refine hK.out _ _ ?_ (fun hHeld => ?_)
          · exact ⟨(SC33.out.has (Has.r (Has.r (Has.r (Has.r (Has.l (has_blk g _ _))))))).cell 0, (SC33.out.has (Has.r (Has.r (Has.r (Has.r (Has.l (has_blk g _ _))))))).cell 3⟩
          clear hK K0
          (try simp only [Act.put, List.setIfInBounds_toArray, List.set_cons_zero, List.set_cons_succ])
          (try clear hH2)
          refine' wpAnyH_take (i := 18) (oi := ?ot34z18) (v := ?vt34z18) ?ht34z18 ?st34z18 ?ft34z18 ?zt34z18 ?qt34z18 ?yt34z18 ?at34z18 ?rt34z18
          case ht34z18 => (simp only [List.getElem?_toArray, List.getElem?_cons_succ, List.getElem?_cons_zero]; rfl)
          case st34z18 => kernel_rfl
          case ft34z18 => kernel_rfl
          case zt34z18 => kernel_rfl
          case qt34z18 => exact fun _ _ _ h => h
          case yt34z18 => (refine Or.inl ⟨rfl, ?_⟩; intro w hSw; (try dsimp only at hSw); go_simp; try with_reducible rfl)
          case at34z18 => assumption
          case rt34z18 =>
          simp only [Act.put, List.setIfInBounds_toArray, List.set_cons_zero, List.set_cons_succ]
          refine' wpAnyH_take (i := 19) (oi := ?ot35z19) (v := ?vt35z19) ?ht35z19 ?st35z19 ?ft35z19 ?zt35z19 ?qt35z19 ?yt35z19 ?at35z19 ?rt35z19
          case ht35z19 => (simp only [List.getElem?_toArray, List.getElem?_cons_succ, List.getElem?_cons_zero]; rfl)
          case st35z19 => kernel_rfl
          case ft35z19 => kernel_rfl
          case zt35z19 => kernel_rfl
          case qt35z19 => exact fun _ _ _ h => h
          case yt35z19 => (refine Or.inl ⟨rfl, ?_⟩; intro w hSw; (try dsimp only at hSw); go_simp; try with_reducible rfl)
          case at35z19 => assumption
          case rt35z19 =>
          simp only [Act.put, List.setIfInBounds_toArray, List.set_cons_zero, List.set_cons_succ]
          refine' wpAnyH_take (i := 20) (oi := ?ot36z20) (v := ?vt36z20) ?ht36z20 ?st36z20 ?ft36z20 ?zt36z20 ?qt36z20 ?yt36z20 ?at36z20 ?rt36z20
          case ht36z20 => (simp only [List.getElem?_toArray, List.getElem?_cons_succ, List.getElem?_cons_zero]; rfl)
          case st36z20 => kernel_rfl
          case ft36z20 => kernel_rfl
          case zt36z20 => kernel_rfl
          case qt36z20 => exact fun _ _ _ h => h
          case yt36z20 => (refine Or.inl ⟨rfl, ?_⟩; intro w hSw; (try dsimp only at hSw); go_simp; try with_reducible rfl)
          case at36z20 => assumption
          case rt36z20 =>
          simp only [Act.put, List.setIfInBounds_toArray, List.set_cons_zero, List.set_cons_succ]
          refine' wpAnyH_take (i := 21) (oi := ?ot37z21) (v := ?vt37z21) ?ht37z21 ?st37z21 ?ft37z21 ?zt37z21 ?qt37z21 ?yt37z21 ?at37z21 ?rt37z21
          case ht37z21 => (simp only [List.getElem?_toArray, List.getElem?_cons_succ, List.getElem?_cons_zero]; rfl)
          case st37z21 => kernel_rfl
          case ft37z21 => kernel_rfl
          case zt37z21 => kernel_rfl
          case qt37z21 => exact fun _ _ _ h => h
          case yt37z21 => (refine Or.inl ⟨rfl, ?_⟩; intro w hSw; (try dsimp only at hSw); go_simp; try with_reducible rfl)
          case at37z21 => assumption
          case rt37z21 =>
          simp only [Act.put, List.setIfInBounds_toArray, List.set_cons_zero, List.set_cons_succ]
          refine' wpAnyH_take (i := 23) (oi := ?ot38z23) (v := ?vt38z23) ?ht38z23 ?st38z23 ?ft38z23 ?zt38z23 ?qt38z23 ?yt38z23 ?at38z23 ?rt38z23
          case ht38z23 => (simp only [List.getElem?_toArray, List.getElem?_cons_succ, List.getElem?_cons_zero]; rfl)
          case st38z23 => kernel_rfl
          case ft38z23 => kernel_rfl
          case zt38z23 => kernel_rfl
          case qt38z23 => exact fun _ _ _ h => h
          case yt38z23 => (refine Or.inl ⟨rfl, ?_⟩; intro w hSw; (try dsimp only at hSw); go_simp; try with_reducible rfl)
          case at38z23 => assumption
          case rt38z23 =>
          simp only [Act.put, List.setIfInBounds_toArray, List.set_cons_zero, List.set_cons_succ]
          refine wpAnyH_ready (rs := [24]) (by kernel_rfl) (by simp) ?_
          refine' AllReadyH.cons (o := ?ob39z24) ?hb39z24 ?kb39z24 AllReadyH.nil
          case hb39z24 => (simp only [List.getElem?_toArray, List.getElem?_cons_succ, List.getElem?_cons_zero]; rfl)
          case kb39z24 =>
            intro K0 hK
            have hq := SC33.out.re (show _ = Asn.blk gp 80 #[.int .i64 0, .int .i64 0, .string ⟨#[]⟩, .int .i64 0] * (Asn.vec 73 8 (.slice A L.length c) L.length (spL L) * (aLs L * (aSf gs S V * (Asn.blk g 30 #[.pointer (some ⟨gs, 0, none⟩), vl, vp, .int .i64 n] * R)))) by ac_rfl)
            have hst := store_post (P := Try.prog) po (hq.has (Has.l (has_blk gp _ _)))
            have hsz : (poC po).size = 4 := rfl
            go_simp
            clear hst hsz
            have SB40 := Lib.hid ((own_setRowB hq (poC po)).re (show _ = Asn.vec 73 8 (.slice A L.length c) L.length (spL L) * (aLs L * (aSf gs S V * (Asn.blk gp 80 (poC po) * (Asn.blk g 30 #[.pointer (some ⟨gs, 0, none⟩), vl, vp, .int .i64 n] * R)))) by ac_rfl))
            clear SC33 hq
            generalize World.setRow _ _ _ = wb40 at *
            refine hK.out _ _ ?_ (fun hHeld => ?_)
            · exact ⟨(SB40.out.has (Has.r (Has.r (Has.r (Has.r (Has.l (has_blk g _ _))))))).cell 0, (SB40.out.has (Has.r (Has.r (Has.r (Has.r (Has.l (has_blk g _ _))))))).cell 3⟩
            clear hK K0
            (try simp only [Act.put, List.setIfInBounds_toArray, List.set_cons_zero, List.set_cons_succ])
            (try clear hH2)
            refine' wpAnyH_take (i := 25) (oi := ?ot41z25) (v := ?vt41z25) ?ht41z25 ?st41z25 ?ft41z25 ?zt41z25 ?qt41z25 ?yt41z25 ?at41z25 ?rt41z25
            case ht41z25 => (simp only [List.getElem?_toArray, List.getElem?_cons_succ, List.getElem?_cons_zero]; rfl)
            case st41z25 => kernel_rfl
            case ft41z25 => kernel_rfl
            case zt41z25 => kernel_rfl
            case qt41z25 => exact fun _ _ _ h => h
            case yt41z25 => (refine Or.inl ⟨rfl, ?_⟩; intro w hSw; (try dsimp only at hSw); go_simp; try with_reducible rfl)
            case at41z25 => assumption
            case rt41z25 =>
            simp only [Act.put, List.setIfInBounds_toArray, List.set_cons_zero, List.set_cons_succ]
            refine wpAnyH_done (by kernel_rfl) ?_ _
            go_wp2_with fail
            go_meet
            case rel => exact ⟨L, A, c, gp, rfl, rfl, rfl, hpl, Lib.hid (SB40.out.re (show _ = Asn.vec 73 8 (.slice A L.length c) L.length (spL L) * (aLs L * (aSf gs S V * (Asn.blk gp 80 (poC po) * (Asn.blk g 30 #[.pointer (some ⟨gs, 0, none⟩), vl, vp, .int .i64 n] * R)))) by ac_rfl))⟩
  case rest =>
    obtain ⟨L, A, c, gp, rfl, rfl, rfl, hpc, S2⟩ := hcut
    clear S1 c0 c3 HSp
    have hL3 : L.length ≤ 3 := by
      have h1 := congrArg List.length hpc
      have h2 := HM.out.1
      simp only [plain, List.length_map] at h1
      omega
    obtain ⟨c0, c1, c2, c3⟩ := post_cellsB (S2.out.has (Has.r (Has.r (Has.r (Has.r (Has.l (has_blk g _ _)))))))
    clear c1 c2 c3
    have HPu := Lib.hid (ShPut_own gs S V L L.length rfl (.slice A L.length c) w0 _ _ (by omega) (by rw [hpc]; exact fun x hx => (HM.out.2 x hx).1) S2.out)
    rw [hpc] at HPu
    unfold sPtr at HPu
    clear S2 hpc HM hL3
    go_wp2_with fail
    refine HPu.out.mono ?_
    rintro e w4 ⟨rfl, V2, hX⟩
    have S3 := Lib.hid (hX.re (show _ = Asn.blk g 30 #[.pointer (some ⟨gs, 0, none⟩), vl, vp, .int .i64 n] * (Asn.blk gp 80 (poC po) * (R * aSf gs (puts S cs) V2)) by ac_rfl))
    clear hX HPu c0
    obtain ⟨c0, c1, c2, c3⟩ := post_cellsB (S3.out.has (Has.l (has_blk g _ _)))
    have f3 := (S3.out.has (Has.l (has_blk g _ _))).free 3
    go_upto_region 8 with fail
    have S4 := Lib.hid (S3.out.set (Sets.l (sets_blk g _ _ 3 (.int .i64 ((n : Int) + 2)))))
    simp only [List.setIfInBounds_toArray, List.set_cons_zero, List.set_cons_succ] at S4
    clear S3 c0 c1 c2 c3 f3
    generalize World.setCell w4 _ _ = w5 at *
    obtain ⟨p0, p1, p2, p3⟩ := po
    unfold poC at S4
    dsimp only at S4
    obtain ⟨d0, d1, d2, d3⟩ := post_cellsB (S4.out.has (Has.r (Has.l (has_blk gp _ _))))
    by_cases hpz : (p0, p1, p2, p3) = po0
    · have e : addP ps (p0, p1, p2, p3) = ps := if_pos hpz
      have HE := Lib.hid e
      obtain ⟨rfl, rfl, rfl, rfl⟩ : p0 = 0 ∧ p1 = 0 ∧ p2 = [] ∧ p3 = 0 := by
        unfold po0 at hpz
        simpa using hpz
      rw [show ofL [] = (⟨#[]⟩ : ByteArray) from rfl] at d2
      clear hpz e
      go_wp2_with fail
      go_returns
      rw [hR] at S4
      refine ⟨rfl, V2, vp, ?_⟩
      rw [HE.out]
      exact ((S4.out.re (show _ = Asn.blk gp 80 #[.int .i64 0, .int .i64 0, .string (ofL []), .int .i64 0] * ((Asn.blk g 30 #[.pointer (some ⟨gs, 0, none⟩), vl, vp, .int .i64 ((n : Int) + 2)] * (Asn.vec 44 3 vl l.length (cells3 l) * (Asn.vec 80 4 vp ps.length (poL ps) * aSf gs (puts S cs) V2))) * C) by ac_rfl)).right)
    · have hp2 : p0 = 2 := by
        rcases HPO.out with h | h
        · exact absurd h hpz
        · exact h
      subst hp2
      have e : addP ps (2, p1, p2, p3) = ps ++ [(2, p1, p2, p3)] := if_neg hpz
      have HE := Lib.hid e
      clear hpz e HPO
      rw [hR] at S4
      obtain ⟨Ap, cp, hvp⟩ := (S4.out.re (show _ = Asn.vec 80 4 vp ps.length (poL ps) * (Asn.blk g 30 #[.pointer (some ⟨gs, 0, none⟩), vl, vp, .int .i64 ((n : Int) + 2)] * (Asn.blk gp 80 #[.int .i64 2, .int .i64 p1, .string (ofL p2), .int .i64 p3] * (Asn.vec 44 3 vl l.length (cells3 l) * (C * aSf gs (puts S cs) V2)))) by ac_rfl)).vec.slice
      subst hvp
      clear hR
      go_upto_region 9 with fail
      clear d0 d1 d2 d3
      refine wp_region_held_drew (S := fun W : World => True) (by kernel_rfl) trivial (fun hHeld => ?_)
      have S5 := Lib.hid (S4.out.drew.re (show _ = Asn.blk g 30 #[.pointer (some ⟨gs, 0, none⟩), vl, .slice Ap ps.length cp, .int .i64 ((n : Int) + 2)] * (Asn.blk gp 80 #[.int .i64 2, .int .i64 p1, .string (ofL p2), .int .i64 p3] * (Asn.vec 80 4 (.slice Ap ps.length cp) ps.length (poL ps) * (Asn.vec 44 3 vl l.length (cells3 l) * (C * aSf gs (puts S cs) V2)))) by ac_rfl))
      clear S4
      generalize w5.drew = w6 at *
      refine' wpAnyH_take (i := 0) (oi := ?ot42z0) (v := ?vt42z0) ?ht42z0 ?st42z0 ?ft42z0 ?zt42z0 ?qt42z0 ?yt42z0 ?at42z0 ?rt42z0
      case ht42z0 => (simp only [List.getElem?_toArray, List.getElem?_cons_succ, List.getElem?_cons_zero]; rfl)
      case st42z0 => kernel_rfl
      case ft42z0 => kernel_rfl
      case zt42z0 => kernel_rfl
      case qt42z0 => exact fun _ _ _ h => h
      case yt42z0 => (refine Or.inl ⟨rfl, ?_⟩; intro w hSw; (try dsimp only at hSw); go_simp; try with_reducible rfl)
      case at42z0 => assumption
      case rt42z0 =>
      simp only [Act.put, List.setIfInBounds_toArray, List.set_cons_zero, List.set_cons_succ]
      refine' wpAnyH_take (i := 1) (oi := ?ot43z1) (v := ?vt43z1) ?ht43z1 ?st43z1 ?ft43z1 ?zt43z1 ?qt43z1 ?yt43z1 ?at43z1 ?rt43z1
      case ht43z1 => (simp only [List.getElem?_toArray, List.getElem?_cons_succ, List.getElem?_cons_zero]; rfl)
      case st43z1 => kernel_rfl
      case ft43z1 => kernel_rfl
      case zt43z1 => kernel_rfl
      case qt43z1 => exact fun _ _ _ h => h
      case yt43z1 => (refine Or.inl ⟨rfl, ?_⟩; intro w hSw; (try dsimp only at hSw); go_simp; try with_reducible rfl)
      case at43z1 => assumption
      case rt43z1 =>
      simp only [Act.put, List.setIfInBounds_toArray, List.set_cons_zero, List.set_cons_succ]
      refine' wpAnyH_take (i := 2) (oi := ?ot44z2) (v := ?vt44z2) ?ht44z2 ?st44z2 ?ft44z2 ?zt44z2 ?qt44z2 ?yt44z2 ?at44z2 ?rt44z2
      case ht44z2 => (simp only [List.getElem?_toArray, List.getElem?_cons_succ, List.getElem?_cons_zero]; rfl)
      case st44z2 => kernel_rfl
      case ft44z2 => kernel_rfl
      case zt44z2 => kernel_rfl
      case qt44z2 => exact fun _ _ _ h => h
      case yt44z2 => (refine Or.inl ⟨rfl, ?_⟩; intro w hSw; (try dsimp only at hSw); go_simp; try with_reducible rfl)
      case at44z2 => assumption
      case rt44z2 =>
      simp only [Act.put, List.setIfInBounds_toArray, List.set_cons_zero, List.set_cons_succ]
      refine' wpAnyH_take (i := 3) (oi := ?ot45z3) (v := ?vt45z3) ?ht45z3 ?st45z3 ?ft45z3 ?zt45z3 ?qt45z3 ?yt45z3 ?at45z3 ?rt45z3
      case ht45z3 => (simp only [List.getElem?_toArray, List.getElem?_cons_succ, List.getElem?_cons_zero]; rfl)
      case st45z3 => kernel_rfl
      case ft45z3 => kernel_rfl
      case zt45z3 => kernel_rfl
      case qt45z3 => exact fun _ _ _ h => h
      case yt45z3 => (refine Or.inl ⟨rfl, ?_⟩; intro w hSw; (try dsimp only at hSw); go_simp; try with_reducible rfl)
      case at45z3 => assumption
      case rt45z3 =>
      simp only [Act.put, List.setIfInBounds_toArray, List.set_cons_zero, List.set_cons_succ]
      refine wpAnyH_ready (rs := [4, 5]) (by kernel_rfl) (by simp) ?_
      refine' AllReadyH.cons (o := ?ob46z4) ?hb46z4 ?kb46z4 ?mb46z4
      case hb46z4 => (simp only [List.getElem?_toArray, List.getElem?_cons_succ, List.getElem?_cons_zero]; rfl)
      case kb46z4 =>
        intro K0 hK
        have cc := (S5.out.has (Has.l (has_blk g _ _))).cell 2
        rw [show (#[Value.pointer (some ⟨gs, 0, none⟩), vl, .slice Ap ps.length cp, .int .i64 ((n : Int) + 2)] : Array Value)[2]? = some (.slice Ap ps.length cp) from rfl] at cc
        go_simp
        clear cc
        refine hK.out _ _ ?_ (fun hHeld => ?_)
        · trivial
        clear hK K0
        (try simp only [Act.put, List.setIfInBounds_toArray, List.set_cons_zero, List.set_cons_succ])
        (try clear hH2)
        refine wpAnyH_ready (rs := [5]) (by kernel_rfl) (by simp) ?_
        refine' AllReadyH.cons (o := ?ob48z5) ?hb48z5 ?kb48z5 AllReadyH.nil
        case hb48z5 => (simp only [List.getElem?_toArray, List.getElem?_cons_succ, List.getElem?_cons_zero]; rfl)
        case kb48z5 =>
          intro K0 hK
          obtain ⟨d0, d1, d2, d3⟩ := post_cellsB (S5.out.has (Has.r (Has.l (has_blk gp _ _))))
          go_simp
          clear d0 d1 d2 d3
          refine hK.out _ _ ?_ (fun hHeld => ?_)
          · trivial
          clear hK K0
          (try simp only [Act.put, List.setIfInBounds_toArray, List.set_cons_zero, List.set_cons_succ])
          (try clear hH2)
          refine wpAnyH_ready (rs := [6]) (by kernel_rfl) (by simp) ?_
          refine' AllReadyH.cons (o := ?ob50z6) ?hb50z6 ?kb50z6 AllReadyH.nil
          case hb50z6 => (simp only [List.getElem?_toArray, List.getElem?_cons_succ, List.getElem?_cons_zero]; rfl)
          case kb50z6 =>
            intro K0 hK
            go_simp
            obtain ⟨gq, hgz⟩ : ∃ g, g = w6.heap.size := ⟨_, rfl⟩
            have SA51 := Lib.hid ((S5.out.alloc #[.int .i64 2, .int .i64 p1, .string (ofL p2), .int .i64 p3] 80).re (show _ = Asn.blk g 30 #[.pointer (some ⟨gs, 0, none⟩), vl, .slice Ap ps.length cp, .int .i64 ((n : Int) + 2)] * (Asn.blk gp 80 #[.int .i64 2, .int .i64 p1, .string (ofL p2), .int .i64 p3] * (Asn.blk w6.heap.size 80 #[.int .i64 2, .int .i64 p1, .string (ofL p2), .int .i64 p3] * (Asn.vec 80 4 (.slice Ap ps.length cp) ps.length (poL ps) * (Asn.vec 44 3 vl l.length (cells3 l) * (C * aSf gs (puts S cs) V2))))) by ac_rfl))
            rw [← hgz] at SA51 ⊢
            clear hgz S5
            generalize World.alloc w6 _ = wa51 at *
            refine hK.out _ _ ?_ (fun hHeld => ?_)
            · trivial
            clear hK K0
            (try simp only [Act.put, List.setIfInBounds_toArray, List.set_cons_zero, List.set_cons_succ])
            (try clear hH2)
            refine wpAnyH_ready (rs := [7]) (by kernel_rfl) (by simp) ?_
            refine' AllReadyH.cons (o := ?ob52z7) ?hb52z7 ?kb52z7 AllReadyH.nil
            case hb52z7 => (simp only [List.getElem?_toArray, List.getElem?_cons_succ, List.getElem?_cons_zero]; rfl)
            case kb52z7 =>
              intro K0 hK
              have hbk := SA51.out.has (Has.r (Has.r (Has.l (has_blk gq _ _))))
              have CX : Hid (Src Try.prog 4 28 (.slice (some ⟨gq, 0, none⟩) 1 1) 1 [.int .i64 2, .int .i64 p1, .string (ofL p2), .int .i64 p3] wa51) := Lib.hid (Src.ofSlice _ Try.underlying28 ⟨gq, 0, none⟩ 1 1 [.int .i64 2, .int .i64 p1, .string (ofL p2), .int .i64 p3] rfl (fun j u hj => by
                rw [Addr.add_lit, Nat.zero_add, hbk.cell]
                simpa using hj) (fun u hu => by
                simp only [List.mem_cons, List.not_mem_nil, or_false] at hu
                rcases hu with rfl | rfl | rfl | rfl <;> rfl))
              clear hbk
              have SQ := Lib.hid (SA51.out.re (show _ = Asn.vec 80 4 (.slice Ap ps.length cp) ps.length (poL ps) * (Asn.blk gq 80 #[.int .i64 2, .int .i64 p1, .string (ofL p2), .int .i64 p3] * (Asn.blk g 30 #[.pointer (some ⟨gs, 0, none⟩), vl, .slice Ap ps.length cp, .int .i64 ((n : Int) + 2)] * (Asn.blk gp 80 #[.int .i64 2, .int .i64 p1, .string (ofL p2), .int .i64 p3] * (Asn.vec 44 3 vl l.length (cells3 l) * (C * aSf gs (puts S cs) V2))))) by ac_rfl))
              clear SA51
              with_reducible refine step_append_vec rfl (.tmp 61) (.tmp 63) 28 28 rfl 80 _ 4 40 Try.underlying28 infoPost rfl (by decide) (.slice Ap ps.length cp) ps.length (poL ps) rfl SQ.out.vec (.slice (some ⟨gq, 0, none⟩) 1 1) rfl 1 [.int .i64 2, .int .i64 p1, .string (ofL p2), .int .i64 p3] CX.out (by unfold maxLen; omega) (by omega) ?_
              intro v2 wb53 hv hc hf
              obtain ⟨A4, c4, hv4⟩ := hv.slice
              subst hv4
              have S7 := Lib.hid (SQ.out.app hv hc hf)
              clear SQ CX hv hc hf
              have SB53 := Lib.hid (S7.out.re (show _ = Asn.blk g 30 #[.pointer (some ⟨gs, 0, none⟩), vl, .slice Ap ps.length cp, .int .i64 ((n : Int) + 2)] * ((Asn.vec 80 4 (.slice A4 (ps.length + 1) c4) (ps.length + 1) (poL ps ++ [.int .i64 2, .int .i64 p1, .string (ofL p2), .int .i64 p3])) * ((Asn.blk gq 80 #[.int .i64 2, .int .i64 p1, .string (ofL p2), .int .i64 p3] * Asn.blk gp 80 #[.int .i64 2, .int .i64 p1, .string (ofL p2), .int .i64 p3]) * (Asn.vec 44 3 vl l.length (cells3 l) * (C * aSf gs (puts S cs) V2)))) by ac_rfl))
              clear S7
              refine hK.out _ _ ?_ (fun hHeld => ?_)
              · trivial
              clear hK K0
              (try simp only [Act.put, List.setIfInBounds_toArray, List.set_cons_zero, List.set_cons_succ])
              (try clear hH2)
              refine' wpAnyH_take (i := 8) (oi := ?ot54z8) (v := ?vt54z8) ?ht54z8 ?st54z8 ?ft54z8 ?zt54z8 ?qt54z8 ?yt54z8 ?at54z8 ?rt54z8
              case ht54z8 => (simp only [List.getElem?_toArray, List.getElem?_cons_succ, List.getElem?_cons_zero]; rfl)
              case st54z8 => kernel_rfl
              case ft54z8 => kernel_rfl
              case zt54z8 => kernel_rfl
              case qt54z8 => exact fun _ _ _ h => h
              case yt54z8 => (refine Or.inl ⟨rfl, ?_⟩; intro w hSw; (try dsimp only at hSw); go_simp; try with_reducible rfl)
              case at54z8 => assumption
              case rt54z8 =>
              simp only [Act.put, List.setIfInBounds_toArray, List.set_cons_zero, List.set_cons_succ]
              refine' wpAnyH_take (i := 9) (oi := ?ot55z9) (v := ?vt55z9) ?ht55z9 ?st55z9 ?ft55z9 ?zt55z9 ?qt55z9 ?yt55z9 ?at55z9 ?rt55z9
              case ht55z9 => (simp only [List.getElem?_toArray, List.getElem?_cons_succ, List.getElem?_cons_zero]; rfl)
              case st55z9 => kernel_rfl
              case ft55z9 => kernel_rfl
              case zt55z9 => kernel_rfl
              case qt55z9 => exact fun _ _ _ h => h
              case yt55z9 => (refine Or.inl ⟨rfl, ?_⟩; intro w hSw; (try dsimp only at hSw); go_simp; try with_reducible rfl)
              case at55z9 => assumption
              case rt55z9 =>
              simp only [Act.put, List.setIfInBounds_toArray, List.set_cons_zero, List.set_cons_succ]
              refine wpAnyH_ready (rs := [10]) (by kernel_rfl) (by simp) ?_
              refine' AllReadyH.cons (o := ?ob56z10) ?hb56z10 ?kb56z10 AllReadyH.nil
              case hb56z10 => (simp only [List.getElem?_toArray, List.getElem?_cons_succ, List.getElem?_cons_zero]; rfl)
              case kb56z10 =>
                intro K0 hK
                have cc := (SB53.out.has (Has.l (has_blk g _ _))).cell 2
                rw [show (#[Value.pointer (some ⟨gs, 0, none⟩), vl, .slice Ap ps.length cp, .int .i64 ((n : Int) + 2)] : Array Value)[2]? = some (.slice Ap ps.length cp) from rfl] at cc
                have f2 := (SB53.out.has (Has.l (has_blk g _ _))).free 2
                go_simp
                clear cc f2
                have SC57 := Lib.hid (SB53.out.set (Sets.l (sets_blk g _ _ 2 (.slice A4 (ps.length + 1) c4))))
                simp only [List.setIfInBounds_toArray, List.set_cons_zero, List.set_cons_succ] at SC57
                clear SB53
                generalize World.setCell wb53 _ _ = wc57 at *
                refine hK.out _ _ ?_ (fun hHeld => ?_)
                · trivial
                clear hK K0
                (try simp only [Act.put, List.setIfInBounds_toArray, List.set_cons_zero, List.set_cons_succ])
                (try clear hH2)
                refine wpAnyH_done (by kernel_rfl) ?_ _
                go_wp2_with fail
                go_returns
                refine ⟨rfl, V2, .slice A4 (ps.length + 1) c4, ?_⟩
                rw [HE.out, poL_snoc, List.length_append, List.length_singleton]
                exact (SC57.out.re (show _ = (Asn.blk gq 80 #[.int .i64 2, .int .i64 p1, .string (ofL p2), .int .i64 p3] * Asn.blk gp 80 #[.int .i64 2, .int .i64 p1, .string (ofL p2), .int .i64 p3]) * ((Asn.blk g 30 #[.pointer (some ⟨gs, 0, none⟩), vl, .slice A4 (ps.length + 1) c4, .int .i64 ((n : Int) + 2)] * (Asn.vec 44 3 vl l.length (cells3 l) * ((Asn.vec 80 4 (.slice A4 (ps.length + 1) c4) (ps.length + 1) (poL ps ++ [.int .i64 2, .int .i64 p1, .string (ofL p2), .int .i64 p3])) * aSf gs (puts S cs) V2))) * C) by ac_rfl)).right
      case mb46z4 =>
      refine' AllReadyH.cons (o := ?ob58z5) ?hb58z5 ?kb58z5 AllReadyH.nil
      case hb58z5 => (simp only [List.getElem?_toArray, List.getElem?_cons_succ, List.getElem?_cons_zero]; rfl)
      case kb58z5 =>
        intro K0 hK
        obtain ⟨d0, d1, d2, d3⟩ := post_cellsB (S5.out.has (Has.r (Has.l (has_blk gp _ _))))
        go_simp
        clear d0 d1 d2 d3
        refine hK.out _ _ ?_ (fun hHeld => ?_)
        · trivial
        clear hK K0
        (try simp only [Act.put, List.setIfInBounds_toArray, List.set_cons_zero, List.set_cons_succ])
        (try clear hH2)
        refine wpAnyH_ready (rs := [4, 6]) (by kernel_rfl) (by simp) ?_
        refine' AllReadyH.cons (o := ?ob60z4) ?hb60z4 ?kb60z4 ?mb60z4
        case hb60z4 => (simp only [List.getElem?_toArray, List.getElem?_cons_succ, List.getElem?_cons_zero]; rfl)
        case kb60z4 =>
          intro K0 hK
          have cc := (S5.out.has (Has.l (has_blk g _ _))).cell 2
          rw [show (#[Value.pointer (some ⟨gs, 0, none⟩), vl, .slice Ap ps.length cp, .int .i64 ((n : Int) + 2)] : Array Value)[2]? = some (.slice Ap ps.length cp) from rfl] at cc
          go_simp
          clear cc
          refine hK.out _ _ ?_ (fun hHeld => ?_)
          · trivial
          clear hK K0
          (try simp only [Act.put, List.setIfInBounds_toArray, List.set_cons_zero, List.set_cons_succ])
          (try clear hH2)
          refine wpAnyH_ready (rs := [6]) (by kernel_rfl) (by simp) ?_
          refine' AllReadyH.cons (o := ?ob62z6) ?hb62z6 ?kb62z6 AllReadyH.nil
          case hb62z6 => (simp only [List.getElem?_toArray, List.getElem?_cons_succ, List.getElem?_cons_zero]; rfl)
          case kb62z6 =>
            intro K0 hK
            go_simp
            obtain ⟨gq, hgz⟩ : ∃ g, g = w6.heap.size := ⟨_, rfl⟩
            have SA63 := Lib.hid ((S5.out.alloc #[.int .i64 2, .int .i64 p1, .string (ofL p2), .int .i64 p3] 80).re (show _ = Asn.blk g 30 #[.pointer (some ⟨gs, 0, none⟩), vl, .slice Ap ps.length cp, .int .i64 ((n : Int) + 2)] * (Asn.blk gp 80 #[.int .i64 2, .int .i64 p1, .string (ofL p2), .int .i64 p3] * (Asn.blk w6.heap.size 80 #[.int .i64 2, .int .i64 p1, .string (ofL p2), .int .i64 p3] * (Asn.vec 80 4 (.slice Ap ps.length cp) ps.length (poL ps) * (Asn.vec 44 3 vl l.length (cells3 l) * (C * aSf gs (puts S cs) V2))))) by ac_rfl))
            rw [← hgz] at SA63 ⊢
            clear hgz S5
            generalize World.alloc w6 _ = wa63 at *
            refine hK.out _ _ ?_ (fun hHeld => ?_)
            · trivial
            clear hK K0
            (try simp only [Act.put, List.setIfInBounds_toArray, List.set_cons_zero, List.set_cons_succ])
            (try clear hH2)
            refine wpAnyH_ready (rs := [7]) (by kernel_rfl) (by simp) ?_
            refine' AllReadyH.cons (o := ?ob64z7) ?hb64z7 ?kb64z7 AllReadyH.nil
            case hb64z7 => (simp only [List.getElem?_toArray, List.getElem?_cons_succ, List.getElem?_cons_zero]; rfl)
            case kb64z7 =>
              intro K0 hK
              have hbk := SA63.out.has (Has.r (Has.r (Has.l (has_blk gq _ _))))
              have CX : Hid (Src Try.prog 4 28 (.slice (some ⟨gq, 0, none⟩) 1 1) 1 [.int .i64 2, .int .i64 p1, .string (ofL p2), .int .i64 p3] wa63) := Lib.hid (Src.ofSlice _ Try.underlying28 ⟨gq, 0, none⟩ 1 1 [.int .i64 2, .int .i64 p1, .string (ofL p2), .int .i64 p3] rfl (fun j u hj => by
                rw [Addr.add_lit, Nat.zero_add, hbk.cell]
                simpa using hj) (fun u hu => by
                simp only [List.mem_cons, List.not_mem_nil, or_false] at hu
                rcases hu with rfl | rfl | rfl | rfl <;> rfl))
              clear hbk
              have SQ := Lib.hid (SA63.out.re (show _ = Asn.vec 80 4 (.slice Ap ps.length cp) ps.length (poL ps) * (Asn.blk gq 80 #[.int .i64 2, .int .i64 p1, .string (ofL p2), .int .i64 p3] * (Asn.blk g 30 #[.pointer (some ⟨gs, 0, none⟩), vl, .slice Ap ps.length cp, .int .i64 ((n : Int) + 2)] * (Asn.blk gp 80 #[.int .i64 2, .int .i64 p1, .string (ofL p2), .int .i64 p3] * (Asn.vec 44 3 vl l.length (cells3 l) * (C * aSf gs (puts S cs) V2))))) by ac_rfl))
              clear SA63
              with_reducible refine step_append_vec rfl (.tmp 61) (.tmp 63) 28 28 rfl 80 _ 4 40 Try.underlying28 infoPost rfl (by decide) (.slice Ap ps.length cp) ps.length (poL ps) rfl SQ.out.vec (.slice (some ⟨gq, 0, none⟩) 1 1) rfl 1 [.int .i64 2, .int .i64 p1, .string (ofL p2), .int .i64 p3] CX.out (by unfold maxLen; omega) (by omega) ?_
              intro v2 wb65 hv hc hf
              obtain ⟨A4, c4, hv4⟩ := hv.slice
              subst hv4
              have S7 := Lib.hid (SQ.out.app hv hc hf)
              clear SQ CX hv hc hf
              have SB65 := Lib.hid (S7.out.re (show _ = Asn.blk g 30 #[.pointer (some ⟨gs, 0, none⟩), vl, .slice Ap ps.length cp, .int .i64 ((n : Int) + 2)] * ((Asn.vec 80 4 (.slice A4 (ps.length + 1) c4) (ps.length + 1) (poL ps ++ [.int .i64 2, .int .i64 p1, .string (ofL p2), .int .i64 p3])) * ((Asn.blk gq 80 #[.int .i64 2, .int .i64 p1, .string (ofL p2), .int .i64 p3] * Asn.blk gp 80 #[.int .i64 2, .int .i64 p1, .string (ofL p2), .int .i64 p3]) * (Asn.vec 44 3 vl l.length (cells3 l) * (C * aSf gs (puts S cs) V2)))) by ac_rfl))
              clear S7
              refine hK.out _ _ ?_ (fun hHeld => ?_)
              · trivial
              clear hK K0
              (try simp only [Act.put, List.setIfInBounds_toArray, List.set_cons_zero, List.set_cons_succ])
              (try clear hH2)
              refine' wpAnyH_take (i := 8) (oi := ?ot66z8) (v := ?vt66z8) ?ht66z8 ?st66z8 ?ft66z8 ?zt66z8 ?qt66z8 ?yt66z8 ?at66z8 ?rt66z8
              case ht66z8 => (simp only [List.getElem?_toArray, List.getElem?_cons_succ, List.getElem?_cons_zero]; rfl)
              case st66z8 => kernel_rfl
              case ft66z8 => kernel_rfl
              case zt66z8 => kernel_rfl
              case qt66z8 => exact fun _ _ _ h => h
              case yt66z8 => (refine Or.inl ⟨rfl, ?_⟩; intro w hSw; (try dsimp only at hSw); go_simp; try with_reducible rfl)
              case at66z8 => assumption
              case rt66z8 =>
              simp only [Act.put, List.setIfInBounds_toArray, List.set_cons_zero, List.set_cons_succ]
              refine' wpAnyH_take (i := 9) (oi := ?ot67z9) (v := ?vt67z9) ?ht67z9 ?st67z9 ?ft67z9 ?zt67z9 ?qt67z9 ?yt67z9 ?at67z9 ?rt67z9
              case ht67z9 => (simp only [List.getElem?_toArray, List.getElem?_cons_succ, List.getElem?_cons_zero]; rfl)
              case st67z9 => kernel_rfl
              case ft67z9 => kernel_rfl
              case zt67z9 => kernel_rfl
              case qt67z9 => exact fun _ _ _ h => h
              case yt67z9 => (refine Or.inl ⟨rfl, ?_⟩; intro w hSw; (try dsimp only at hSw); go_simp; try with_reducible rfl)
              case at67z9 => assumption
              case rt67z9 =>
              simp only [Act.put, List.setIfInBounds_toArray, List.set_cons_zero, List.set_cons_succ]
              refine wpAnyH_ready (rs := [10]) (by kernel_rfl) (by simp) ?_
              refine' AllReadyH.cons (o := ?ob68z10) ?hb68z10 ?kb68z10 AllReadyH.nil
              case hb68z10 => (simp only [List.getElem?_toArray, List.getElem?_cons_succ, List.getElem?_cons_zero]; rfl)
              case kb68z10 =>
                intro K0 hK
                have cc := (SB65.out.has (Has.l (has_blk g _ _))).cell 2
                rw [show (#[Value.pointer (some ⟨gs, 0, none⟩), vl, .slice Ap ps.length cp, .int .i64 ((n : Int) + 2)] : Array Value)[2]? = some (.slice Ap ps.length cp) from rfl] at cc
                have f2 := (SB65.out.has (Has.l (has_blk g _ _))).free 2
                go_simp
                clear cc f2
                have SC69 := Lib.hid (SB65.out.set (Sets.l (sets_blk g _ _ 2 (.slice A4 (ps.length + 1) c4))))
                simp only [List.setIfInBounds_toArray, List.set_cons_zero, List.set_cons_succ] at SC69
                clear SB65
                generalize World.setCell wb65 _ _ = wc69 at *
                refine hK.out _ _ ?_ (fun hHeld => ?_)
                · trivial
                clear hK K0
                (try simp only [Act.put, List.setIfInBounds_toArray, List.set_cons_zero, List.set_cons_succ])
                (try clear hH2)
                refine wpAnyH_done (by kernel_rfl) ?_ _
                go_wp2_with fail
                go_returns
                refine ⟨rfl, V2, .slice A4 (ps.length + 1) c4, ?_⟩
                rw [HE.out, poL_snoc, List.length_append, List.length_singleton]
                exact (SC69.out.re (show _ = (Asn.blk gq 80 #[.int .i64 2, .int .i64 p1, .string (ofL p2), .int .i64 p3] * Asn.blk gp 80 #[.int .i64 2, .int .i64 p1, .string (ofL p2), .int .i64 p3]) * ((Asn.blk g 30 #[.pointer (some ⟨gs, 0, none⟩), vl, .slice A4 (ps.length + 1) c4, .int .i64 ((n : Int) + 2)] * (Asn.vec 44 3 vl l.length (cells3 l) * ((Asn.vec 80 4 (.slice A4 (ps.length + 1) c4) (ps.length + 1) (poL ps ++ [.int .i64 2, .int .i64 p1, .string (ofL p2), .int .i64 p3])) * aSf gs (puts S cs) V2))) * C) by ac_rfl)).right
        case mb60z4 =>
        refine' AllReadyH.cons (o := ?ob70z6) ?hb70z6 ?kb70z6 AllReadyH.nil
        case hb70z6 => (simp only [List.getElem?_toArray, List.getElem?_cons_succ, List.getElem?_cons_zero]; rfl)
        case kb70z6 =>
          intro K0 hK
          go_simp
          obtain ⟨gq, hgz⟩ : ∃ g, g = w6.heap.size := ⟨_, rfl⟩
          have SA71 := Lib.hid ((S5.out.alloc #[.int .i64 2, .int .i64 p1, .string (ofL p2), .int .i64 p3] 80).re (show _ = Asn.blk g 30 #[.pointer (some ⟨gs, 0, none⟩), vl, .slice Ap ps.length cp, .int .i64 ((n : Int) + 2)] * (Asn.blk gp 80 #[.int .i64 2, .int .i64 p1, .string (ofL p2), .int .i64 p3] * (Asn.blk w6.heap.size 80 #[.int .i64 2, .int .i64 p1, .string (ofL p2), .int .i64 p3] * (Asn.vec 80 4 (.slice Ap ps.length cp) ps.length (poL ps) * (Asn.vec 44 3 vl l.length (cells3 l) * (C * aSf gs (puts S cs) V2))))) by ac_rfl))
          rw [← hgz] at SA71 ⊢
          clear hgz S5
          generalize World.alloc w6 _ = wa71 at *
          refine hK.out _ _ ?_ (fun hHeld => ?_)
          · trivial
          clear hK K0
          (try simp only [Act.put, List.setIfInBounds_toArray, List.set_cons_zero, List.set_cons_succ])
          (try clear hH2)
          refine wpAnyH_ready (rs := [4]) (by kernel_rfl) (by simp) ?_
          refine' AllReadyH.cons (o := ?ob72z4) ?hb72z4 ?kb72z4 AllReadyH.nil
          case hb72z4 => (simp only [List.getElem?_toArray, List.getElem?_cons_succ, List.getElem?_cons_zero]; rfl)
          case kb72z4 =>
            intro K0 hK
            have cc := (SA71.out.has (Has.l (has_blk g _ _))).cell 2
            rw [show (#[Value.pointer (some ⟨gs, 0, none⟩), vl, .slice Ap ps.length cp, .int .i64 ((n : Int) + 2)] : Array Value)[2]? = some (.slice Ap ps.length cp) from rfl] at cc
            go_simp
            clear cc
            refine hK.out _ _ ?_ (fun hHeld => ?_)
            · trivial
            clear hK K0
            (try simp only [Act.put, List.setIfInBounds_toArray, List.set_cons_zero, List.set_cons_succ])
            (try clear hH2)
            refine wpAnyH_ready (rs := [7]) (by kernel_rfl) (by simp) ?_
            refine' AllReadyH.cons (o := ?ob74z7) ?hb74z7 ?kb74z7 AllReadyH.nil
            case hb74z7 => (simp only [List.getElem?_toArray, List.getElem?_cons_succ, List.getElem?_cons_zero]; rfl)
            case kb74z7 =>
              intro K0 hK
              have hbk := SA71.out.has (Has.r (Has.r (Has.l (has_blk gq _ _))))
              have CX : Hid (Src Try.prog 4 28 (.slice (some ⟨gq, 0, none⟩) 1 1) 1 [.int .i64 2, .int .i64 p1, .string (ofL p2), .int .i64 p3] wa71) := Lib.hid (Src.ofSlice _ Try.underlying28 ⟨gq, 0, none⟩ 1 1 [.int .i64 2, .int .i64 p1, .string (ofL p2), .int .i64 p3] rfl (fun j u hj => by
                rw [Addr.add_lit, Nat.zero_add, hbk.cell]
                simpa using hj) (fun u hu => by
                simp only [List.mem_cons, List.not_mem_nil, or_false] at hu
                rcases hu with rfl | rfl | rfl | rfl <;> rfl))
              clear hbk
              have SQ := Lib.hid (SA71.out.re (show _ = Asn.vec 80 4 (.slice Ap ps.length cp) ps.length (poL ps) * (Asn.blk gq 80 #[.int .i64 2, .int .i64 p1, .string (ofL p2), .int .i64 p3] * (Asn.blk g 30 #[.pointer (some ⟨gs, 0, none⟩), vl, .slice Ap ps.length cp, .int .i64 ((n : Int) + 2)] * (Asn.blk gp 80 #[.int .i64 2, .int .i64 p1, .string (ofL p2), .int .i64 p3] * (Asn.vec 44 3 vl l.length (cells3 l) * (C * aSf gs (puts S cs) V2))))) by ac_rfl))
              clear SA71
              with_reducible refine step_append_vec rfl (.tmp 61) (.tmp 63) 28 28 rfl 80 _ 4 40 Try.underlying28 infoPost rfl (by decide) (.slice Ap ps.length cp) ps.length (poL ps) rfl SQ.out.vec (.slice (some ⟨gq, 0, none⟩) 1 1) rfl 1 [.int .i64 2, .int .i64 p1, .string (ofL p2), .int .i64 p3] CX.out (by unfold maxLen; omega) (by omega) ?_
              intro v2 wb75 hv hc hf
              obtain ⟨A4, c4, hv4⟩ := hv.slice
              subst hv4
              have S7 := Lib.hid (SQ.out.app hv hc hf)
              clear SQ CX hv hc hf
              have SB75 := Lib.hid (S7.out.re (show _ = Asn.blk g 30 #[.pointer (some ⟨gs, 0, none⟩), vl, .slice Ap ps.length cp, .int .i64 ((n : Int) + 2)] * ((Asn.vec 80 4 (.slice A4 (ps.length + 1) c4) (ps.length + 1) (poL ps ++ [.int .i64 2, .int .i64 p1, .string (ofL p2), .int .i64 p3])) * ((Asn.blk gq 80 #[.int .i64 2, .int .i64 p1, .string (ofL p2), .int .i64 p3] * Asn.blk gp 80 #[.int .i64 2, .int .i64 p1, .string (ofL p2), .int .i64 p3]) * (Asn.vec 44 3 vl l.length (cells3 l) * (C * aSf gs (puts S cs) V2)))) by ac_rfl))
              clear S7
              refine hK.out _ _ ?_ (fun hHeld => ?_)
              · trivial
              clear hK K0
              (try simp only [Act.put, List.setIfInBounds_toArray, List.set_cons_zero, List.set_cons_succ])
              (try clear hH2)
              refine' wpAnyH_take (i := 8) (oi := ?ot76z8) (v := ?vt76z8) ?ht76z8 ?st76z8 ?ft76z8 ?zt76z8 ?qt76z8 ?yt76z8 ?at76z8 ?rt76z8
              case ht76z8 => (simp only [List.getElem?_toArray, List.getElem?_cons_succ, List.getElem?_cons_zero]; rfl)
              case st76z8 => kernel_rfl
              case ft76z8 => kernel_rfl
              case zt76z8 => kernel_rfl
              case qt76z8 => exact fun _ _ _ h => h
              case yt76z8 => (refine Or.inl ⟨rfl, ?_⟩; intro w hSw; (try dsimp only at hSw); go_simp; try with_reducible rfl)
              case at76z8 => assumption
              case rt76z8 =>
              simp only [Act.put, List.setIfInBounds_toArray, List.set_cons_zero, List.set_cons_succ]
              refine' wpAnyH_take (i := 9) (oi := ?ot77z9) (v := ?vt77z9) ?ht77z9 ?st77z9 ?ft77z9 ?zt77z9 ?qt77z9 ?yt77z9 ?at77z9 ?rt77z9
              case ht77z9 => (simp only [List.getElem?_toArray, List.getElem?_cons_succ, List.getElem?_cons_zero]; rfl)
              case st77z9 => kernel_rfl
              case ft77z9 => kernel_rfl
              case zt77z9 => kernel_rfl
              case qt77z9 => exact fun _ _ _ h => h
              case yt77z9 => (refine Or.inl ⟨rfl, ?_⟩; intro w hSw; (try dsimp only at hSw); go_simp; try with_reducible rfl)
              case at77z9 => assumption
              case rt77z9 =>
              simp only [Act.put, List.setIfInBounds_toArray, List.set_cons_zero, List.set_cons_succ]
              refine wpAnyH_ready (rs := [10]) (by kernel_rfl) (by simp) ?_
              refine' AllReadyH.cons (o := ?ob78z10) ?hb78z10 ?kb78z10 AllReadyH.nil
              case hb78z10 => (simp only [List.getElem?_toArray, List.getElem?_cons_succ, List.getElem?_cons_zero]; rfl)
              case kb78z10 =>
                intro K0 hK
                have cc := (SB75.out.has (Has.l (has_blk g _ _))).cell 2
                rw [show (#[Value.pointer (some ⟨gs, 0, none⟩), vl, .slice Ap ps.length cp, .int .i64 ((n : Int) + 2)] : Array Value)[2]? = some (.slice Ap ps.length cp) from rfl] at cc
                have f2 := (SB75.out.has (Has.l (has_blk g _ _))).free 2
                go_simp
                clear cc f2
                have SC79 := Lib.hid (SB75.out.set (Sets.l (sets_blk g _ _ 2 (.slice A4 (ps.length + 1) c4))))
                simp only [List.setIfInBounds_toArray, List.set_cons_zero, List.set_cons_succ] at SC79
                clear SB75
                generalize World.setCell wb75 _ _ = wc79 at *
                refine hK.out _ _ ?_ (fun hHeld => ?_)
                · trivial
                clear hK K0
                (try simp only [Act.put, List.setIfInBounds_toArray, List.set_cons_zero, List.set_cons_succ])
                (try clear hH2)
                refine wpAnyH_done (by kernel_rfl) ?_ _
                go_wp2_with fail
                go_returns
                refine ⟨rfl, V2, .slice A4 (ps.length + 1) c4, ?_⟩
                rw [HE.out, poL_snoc, List.length_append, List.length_singleton]
                exact (SC79.out.re (show _ = (Asn.blk gq 80 #[.int .i64 2, .int .i64 p1, .string (ofL p2), .int .i64 p3] * Asn.blk gp 80 #[.int .i64 2, .int .i64 p1, .string (ofL p2), .int .i64 p3]) * ((Asn.blk g 30 #[.pointer (some ⟨gs, 0, none⟩), vl, .slice A4 (ps.length + 1) c4, .int .i64 ((n : Int) + 2)] * (Asn.vec 44 3 vl l.length (cells3 l) * ((Asn.vec 80 4 (.slice A4 (ps.length + 1) c4) (ps.length + 1) (poL ps ++ [.int .i64 2, .int .i64 p1, .string (ofL p2), .int .i64 p3])) * aSf gs (puts S cs) V2))) * C) by ac_rfl)).right
end Go.Proofs.Ythoaangmekkcmaa.Bk
