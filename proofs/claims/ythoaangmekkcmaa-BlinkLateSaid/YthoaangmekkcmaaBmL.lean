/- The law's world: what was left to do is hung. -/
import Derived.Test.YthoaangmekkcmaaBmK
namespace Go.Proofs.Ythoaangmekkcmaa.Bk
open Go.ChangeShapes Go.WideShapes Go.ChangeAt Go.RowKit Go.PlainAid Aid Nt Nd Tr
set_option linter.unusedVariables false
set_option linter.unusedSimpArgs false
set_option linter.unusedSectionVars false
theorem poL_at (ps : List Po) (k : Nat) (x : Po) (h : ps[k]? = some x) (j : Nat) (hj : j < 4) : (poL ps)[k * 4 + j]? = (poC x)[j]? := by
  unfold poL
  rw [flatMap_at _ 4 (fun _ => rfl) ps k j x h hj, Array.getElem?_toList]
theorem poL_len (ps : List Po) : (poL ps).length = ps.length * 4 := by
  induction ps with
  | nil => rfl
  | cons a l ih => unfold poL at ih ⊢; rw [List.flatMap_cons, List.length_append, ih, List.length_cons]; show 4 + _ = _; omega
theorem poL_app (a b : List Po) : poL (a ++ b) = poL a ++ poL b := List.flatMap_append
theorem poL_one (ps : List Po) (u : Value) (h : u ∈ poL ps) : u.oneCell' = true := by
  unfold poL at h
  obtain ⟨x, -, hx⟩ := List.mem_flatMap.1 h
  unfold poC at hx
  simp only [List.mem_cons, List.not_mem_nil, or_false] at hx
  rcases hx with rfl | rfl | rfl | rfl <;> rfl
set_option maxRecDepth 100000 in
set_option maxHeartbeats 16000000 in
theorem hang_law (g gs : Nat) (S : Sf) (V : Nat → Value) (vl : Value) (l : List Ent) (vp : Value) (P Q : List Du) (x : Du) (n top : Nat) (ch : Nat → List Nat) (at_ : Int) (hW : WS S l (P ++ x :: Q) n top ch) (hn : n + 8 < 256)
    (hat : (IntKind.i64.wrap ((IntKind.u64.wrap at_).tmod (IntKind.u64.wrap (((P ++ x :: Q).length : Nat) : Int)))) = (P.length : Int))
    (w0 w : World) (C : Asn) (hS : Own w0 No w (aWd g gs S V vl l vp ((P ++ x :: Q).map du) n * C)) :
    Calls Try.prog 25 #[.pointer (some ⟨g, 0, none⟩), .int .i64 at_] w fun r w' => r = .returned (.bool true) ∧ ∃ S' V' vp' Q' n' top' ch', WS S' l (P ++ Q') n' top' ch' ∧ n' ≤ n + 2 ∧ 2 * Q'.length ≤ 2 * Q.length + (n' - n) ∧ n ≤ n' ∧ Own w0 No w' (aWd g gs S' V' vl l vp' ((P ++ Q').map du) n' * C) := by
  have HW := Lib.hid hW
  have HL : Hid ((S (fnd S x.key (ch (x.lv + 1)))).list.length ≤ 21) := Lib.hid (hW.wg.len x.key (hW.wg.po x (by simp)).2.1 (x.lv + 1) (by have := (hW.wg.po x (by simp)).1; omega))
  have hlen : (P ++ x :: Q).length = P.length + (Q.length + 1) := by simp
  have hpl := hW.pl
  unfold aWd sPtr at hS
  have hvec := hS.re (show _ = Asn.vec 80 4 vp ((P ++ x :: Q).map du).length (poL ((P ++ x :: Q).map du)) * (Asn.blk g 30 #[.pointer (some ⟨gs, 0, none⟩), vl, vp, .int .i64 n] * (Asn.vec 44 3 vl l.length (cells3 l) * (aSf gs S V * C))) by ac_rfl)
  have S0 := Lib.hid hvec
  rcases hvec.vec.forms with ⟨-, hz⟩ | ⟨b, cap, hvp, hc1, hc2, hc3⟩
  · rw [List.length_map, hlen] at hz; omega
  subst hvp
  have hcell : ∀ j, j < 4 → w.cell? ⟨b, P.length * 4 + j, none⟩ = (poC (du x))[j]? := fun j hj => by
    have h1 := poL_at ((P ++ x :: Q).map du) P.length (du x) (by rw [List.map_append, List.getElem?_append_right (by simp)]; simp) j hj
    have h2 : ∃ u, (poC (du x))[j]? = some u := ⟨(poC (du x))[j]'(by simpa [poC] using hj), Array.getElem?_eq_getElem _⟩
    obtain ⟨u, hu⟩ := h2
    rw [hu] at h1 ⊢
    exact hvec.vec.cell h1
  have h0 := hcell 0 (by decide)
  have h1 := hcell 1 (by decide)
  have h2 := hcell 2 (by decide)
  have h3 := hcell 3 (by decide)
  simp only [Nat.add_zero] at h0
  rw [show (poC (du x))[0]? = some (.int .i64 2) from rfl] at h0
  rw [show (poC (du x))[1]? = some (.int .i64 ((x.lv : Int) + 1)) from rfl] at h1
  rw [show (poC (du x))[2]? = some (.string (ofL x.key)) from rfl] at h2
  rw [show (poC (du x))[3]? = some (.int .i64 x.page) from rfl] at h3
  clear hcell hvec
  obtain ⟨c0, c1, c2, c3⟩ := post_cellsB (S0.out.has (Has.r (Has.l (has_blk g _ _))))
  clear c1 c3
  rw [List.length_map] at c2
  have hne : ¬ (((P ++ x :: Q).length : Nat) : Int) = 0 := by omega
  have hlt1 : (P.length : Int) < ((P ++ x :: Q).length : Int) := by omega
  have hL64 : ((P ++ x :: Q).length : Int) ≤ 256 := by have := hW.pl; omega
  have hu : IntKind.u64.wrap ((P ++ x :: Q).length : Int) = ((P ++ x :: Q).length : Int) := by
    rw [IntKind.wrap_u64]
    omega
  rw [hu] at hat
  clear hW hS hlen
  generalize hM : (P ++ x :: Q).length = M at *
  go_enter Try.func25, Try.ntmps25
  go_upto_region 5 with fail
  have S1 := Lib.hid ((S0.out.re (show _ = aWd g gs S V vl l (.slice (some ⟨b, 0, none⟩) ((P ++ x :: Q).map du).length cap) ((P ++ x :: Q).map du) n * C by unfold aWd sPtr; ac_rfl)).alloc #[.int .i64 2, .int .i64 ((x.lv : Int) + 1), .string (ofL x.key), .int .i64 x.page] 80)
  obtain ⟨ge, hgz⟩ : ∃ g, g = w.heap.size := ⟨_, rfl⟩
  rw [← hgz] at S1 ⊢
  clear hgz S0 h0 h1 h2 h3 c0 c2 hc1 hc2 hc3
  generalize World.alloc w _ = w1 at *
  go_wp2_with fail
  have hb0 : ((M : Int) == 0) = false := by simpa using hne
  rw [hb0]
  clear hb0
  go_loopw [7] (fun i wr => ∃ (k : Nat) (S : Sf) (Q2 : List Du) (m top : Nat) (ch : Nat → List Nat) (V : Nat → Value) (vp : Value), k ≤ 1 ∧ i = .int .i64 k ∧ n ≤ m ∧ m ≤ n + 2 * k ∧ 2 * Q2.length ≤ 2 * Q.length + (m - n) ∧ Hid (WS S l (P ++ x :: Q2) m top ch) ∧ Hid (2 * (S (fnd S x.key (ch (x.lv + 1)))).list.length ≤ 42 - 20 * k) ∧
    Hid (Own w0 No wr (Asn.blk ge 80 #[.int .i64 2, .int .i64 ((x.lv : Int) + 1), .string (ofL x.key), .int .i64 x.page] * (aWd g gs S V vl l vp ((P ++ x :: Q2).map du) m * C)))) (fun i _ => 5 - (intOf i).toNat)
  case atStart => exact ⟨0, S, Q, n, top, ch, V, _, by omega, rfl, by omega, by omega, by omega, HW, Lib.hid (by have := HL.out; omega), S1⟩
  case round =>
    clear S1 HL HW
    obtain ⟨k, S, Q2, m, top, ch, V, vp, hk1, rfl, hnm, hm, hq2, HW, HL, S1⟩ := hrel
    unfold aWd sPtr at S1
    have hk5 : (k : Int) < 5 := by omega
    have hhang := HW.out.wg.hang
    have hmd := Wk.hang_md HW.out.sm HW.out.lo 3 ((x.lv + 1 : Nat) : Int) x.key x.page
    have HPt := Lib.hid (fun W C h => Hang_any gs S V HW.out.sm HW.out.lo 3 2 ((x.lv + 1 : Nat) : Int) x.page x.key w0 W C h)
    have hps2 := Wk.puts_md HW.out.sm HW.out.lo hmd.2
    unfold pgs at HPt
    generalize hr : hangR S 3 ((x.lv + 1 : Nat) : Int) x.key x.page = r at *
    obtain ⟨re, rc⟩ := r
    dsimp only at hhang hmd HPt hps2
    rw [show ((x.lv + 1 : Nat) : Int) = (x.lv : Int) + 1 from rfl] at HPt
    have HM := Lib.hid hmd
    have HPL := Lib.hid hhang
    have HPS := Lib.hid hps2
    clear hmd hhang hr hps2
    obtain ⟨e0, e1, e2, e3⟩ := post_cellsB (S1.out.has (Has.l (has_blk ge _ _)))
    have c0 := (S1.out.has (Has.r (Has.l (Has.l (has_blk g _ _))))).cell 0
    rw [show (#[Value.pointer (some ⟨gs, 0, none⟩), vl, vp, .int .i64 (m : Int)] : Array Value)[0]? = some (.pointer (some ⟨gs, 0, none⟩)) from rfl] at c0
    go_upto_region 8 with fail
    obtain ⟨R, hR⟩ : ∃ R : Asn, R = Asn.vec 44 3 vl l.length (cells3 l) * (Asn.vec 80 4 vp ((P ++ x :: Q2).map du).length (poL ((P ++ x :: Q2).map du)) * C) := ⟨_, rfl⟩
    have S2 := Lib.hid (S1.out.drew.re (show _ = aSf gs S V * (Asn.blk ge 80 #[.int .i64 2, .int .i64 ((x.lv : Int) + 1), .string (ofL x.key), .int .i64 x.page] * (Asn.blk g 30 #[.pointer (some ⟨gs, 0, none⟩), vl, vp, .int .i64 m] * (Asn.vec 44 3 vl l.length (cells3 l) * (Asn.vec 80 4 vp ((P ++ x :: Q2).map du).length (poL ((P ++ x :: Q2).map du)) * C)))) by ac_rfl))
    rw [← hR] at S2
    clear S1
    refine wp_region_held_drew (S := fun W : World => W.cell? ⟨g, 0, none⟩ = some (.pointer (some ⟨gs, 0, none⟩)) ∧ W.cell? ⟨ge, 0, none⟩ = some (.int .i64 2) ∧ W.cell? ⟨ge, 1, none⟩ = some (.int .i64 ((x.lv : Int) + 1)) ∧ W.cell? ⟨ge, 2, none⟩ = some (.string (ofL x.key)) ∧ W.cell? ⟨ge, 3, none⟩ = some (.int .i64 x.page)) (by kernel_rfl) ⟨c0, e0, e1, e2, e3⟩ (fun hHeld => ?_)
    clear c0 e0 e1 e2 e3
    generalize wr.drew = w2 at *
    refine' wpAnyH_take (i := 0) (oi := ?ot121z0) (v := ?vt121z0) ?ht121z0 ?st121z0 ?ft121z0 ?zt121z0 ?qt121z0 ?yt121z0 ?at121z0 ?rt121z0
    case ht121z0 => (simp only [List.getElem?_toArray, List.getElem?_cons_succ, List.getElem?_cons_zero]; rfl)
    case st121z0 => kernel_rfl
    case ft121z0 => kernel_rfl
    case zt121z0 => kernel_rfl
    case qt121z0 => exact fun _ _ _ h => h
    case yt121z0 => (refine Or.inl ⟨rfl, ?_⟩; intro w hSw; (try dsimp only at hSw); go_simp; try with_reducible rfl)
    case at121z0 => assumption
    case rt121z0 =>
    simp only [Act.put, List.setIfInBounds_toArray, List.set_cons_zero, List.set_cons_succ]
    refine' wpAnyH_take (i := 1) (oi := ?ot122z1) (v := ?vt122z1) ?ht122z1 ?st122z1 ?ft122z1 ?zt122z1 ?qt122z1 ?yt122z1 ?at122z1 ?rt122z1
    case ht122z1 => (simp only [List.getElem?_toArray, List.getElem?_cons_succ, List.getElem?_cons_zero]; rfl)
    case st122z1 => kernel_rfl
    case ft122z1 => kernel_rfl
    case zt122z1 => kernel_rfl
    case qt122z1 => exact fun _ _ _ h => h
    case yt122z1 => (refine Or.inl ⟨rfl, ?_⟩; intro w hSw; (try dsimp only at hSw); go_simp; try with_reducible rfl)
    case at122z1 => assumption
    case rt122z1 =>
    simp only [Act.put, List.setIfInBounds_toArray, List.set_cons_zero, List.set_cons_succ]
    refine' wpAnyH_take (i := 2) (oi := ?ot123z2) (v := ?vt123z2) ?ht123z2 ?st123z2 ?ft123z2 ?zt123z2 ?qt123z2 ?yt123z2 ?at123z2 ?rt123z2
    case ht123z2 => (simp only [List.getElem?_toArray, List.getElem?_cons_succ, List.getElem?_cons_zero]; rfl)
    case st123z2 => kernel_rfl
    case ft123z2 => kernel_rfl
    case zt123z2 => kernel_rfl
    case qt123z2 => exact fun _ _ _ h => h
    case yt123z2 => (refine Or.inl ⟨rfl, ?_⟩; intro w hSw; (try dsimp only at hSw); go_simp; try with_reducible rfl)
    case at123z2 => assumption
    case rt123z2 =>
    simp only [Act.put, List.setIfInBounds_toArray, List.set_cons_zero, List.set_cons_succ]
    refine' wpAnyH_take (i := 3) (oi := ?ot124z3) (v := ?vt124z3) ?ht124z3 ?st124z3 ?ft124z3 ?zt124z3 ?qt124z3 ?yt124z3 ?at124z3 ?rt124z3
    case ht124z3 => (simp only [List.getElem?_toArray, List.getElem?_cons_succ, List.getElem?_cons_zero]; rfl)
    case st124z3 => kernel_rfl
    case ft124z3 => kernel_rfl
    case zt124z3 => kernel_rfl
    case qt124z3 => exact fun _ _ _ h => h
    case yt124z3 => (refine Or.inl ⟨rfl, ?_⟩; intro w hSw; obtain ⟨hS1, hS2, hS3, hS4, hS5⟩ := hSw; go_simp; try with_reducible rfl)
    case at124z3 => assumption
    case rt124z3 =>
    simp only [Act.put, List.setIfInBounds_toArray, List.set_cons_zero, List.set_cons_succ]
    refine' wpAnyH_take (i := 4) (oi := ?ot125z4) (v := ?vt125z4) ?ht125z4 ?st125z4 ?ft125z4 ?zt125z4 ?qt125z4 ?yt125z4 ?at125z4 ?rt125z4
    case ht125z4 => (simp only [List.getElem?_toArray, List.getElem?_cons_succ, List.getElem?_cons_zero]; rfl)
    case st125z4 => kernel_rfl
    case ft125z4 => kernel_rfl
    case zt125z4 => kernel_rfl
    case qt125z4 => exact fun _ _ _ h => h
    case yt125z4 => (refine Or.inl ⟨rfl, ?_⟩; intro w hSw; (try dsimp only at hSw); go_simp; try with_reducible rfl)
    case at125z4 => assumption
    case rt125z4 =>
    simp only [Act.put, List.setIfInBounds_toArray, List.set_cons_zero, List.set_cons_succ]
    refine' wpAnyH_take (i := 5) (oi := ?ot126z5) (v := ?vt126z5) ?ht126z5 ?st126z5 ?ft126z5 ?zt126z5 ?qt126z5 ?yt126z5 ?at126z5 ?rt126z5
    case ht126z5 => (simp only [List.getElem?_toArray, List.getElem?_cons_succ, List.getElem?_cons_zero]; rfl)
    case st126z5 => kernel_rfl
    case ft126z5 => kernel_rfl
    case zt126z5 => kernel_rfl
    case qt126z5 => exact fun _ _ _ h => h
    case yt126z5 => (refine Or.inl ⟨rfl, ?_⟩; intro w hSw; obtain ⟨hS1, hS2, hS3, hS4, hS5⟩ := hSw; go_simp; try with_reducible rfl)
    case at126z5 => assumption
    case rt126z5 =>
    simp only [Act.put, List.setIfInBounds_toArray, List.set_cons_zero, List.set_cons_succ]
    refine wpAnyH_ready (rs := [6]) (by kernel_rfl) (by simp) ?_
    refine' AllReadyH.cons (o := ?ob127z6) ?hb127z6 ?kb127z6 AllReadyH.nil
    case hb127z6 => (simp only [List.getElem?_toArray, List.getElem?_cons_succ, List.getElem?_cons_zero]; rfl)
    case kb127z6 =>
      intro K0 hK
      go_simp
      refine (HPt.out w2 _ S2.out).mono ?_
      rintro r w3 ⟨v, L, rfl, hpc, hX⟩
      obtain ⟨A, c, hvs⟩ := hX.vec.slice
      subst hvs
      have S3 := Lib.hid hX
      clear hX S2 HPt
      have hL3 : L.length ≤ 3 := by
        have h1 := congrArg List.length hpc
        have h2 := HM.out.1
        simp only [plain, List.length_map] at h1
        omega
      refine hK.out _ _ ?_ (fun hHeld => ?_)
      · obtain ⟨q0, q1, q2, q3⟩ := post_cellsB (S3.out.has (Has.r (Has.r (Has.r (Has.l (has_blk ge _ _))))))
        exact ⟨(S3.out.has (Has.r (Has.r (Has.r (Has.r (Has.l (has_blk g _ _))))))).cell 0, q0, q1, q2, q3⟩
      clear hK K0
      (try simp only [Act.put, List.setIfInBounds_toArray, List.set_cons_zero, List.set_cons_succ])
      (try clear hH2)
      refine' wpAnyH_take (i := 7) (oi := ?ot129z7) (v := ?vt129z7) ?ht129z7 ?st129z7 ?ft129z7 ?zt129z7 ?qt129z7 ?yt129z7 ?at129z7 ?rt129z7
      case ht129z7 => (simp only [List.getElem?_toArray, List.getElem?_cons_succ, List.getElem?_cons_zero]; rfl)
      case st129z7 => kernel_rfl
      case ft129z7 => kernel_rfl
      case zt129z7 => kernel_rfl
      case qt129z7 => exact fun _ _ _ h => h
      case yt129z7 => (refine Or.inl ⟨rfl, ?_⟩; intro w hSw; (try dsimp only at hSw); go_simp; try with_reducible rfl)
      case at129z7 => assumption
      case rt129z7 =>
      simp only [Act.put, List.setIfInBounds_toArray, List.set_cons_zero, List.set_cons_succ]
      refine' wpAnyH_take (i := 8) (oi := ?ot130z8) (v := ?vt130z8) ?ht130z8 ?st130z8 ?ft130z8 ?zt130z8 ?qt130z8 ?yt130z8 ?at130z8 ?rt130z8
      case ht130z8 => (simp only [List.getElem?_toArray, List.getElem?_cons_succ, List.getElem?_cons_zero]; rfl)
      case st130z8 => kernel_rfl
      case ft130z8 => kernel_rfl
      case zt130z8 => kernel_rfl
      case qt130z8 => exact fun _ _ _ h => h
      case yt130z8 => (refine Or.inl ⟨rfl, ?_⟩; intro w hSw; (try dsimp only at hSw); go_simp; try with_reducible rfl)
      case at130z8 => assumption
      case rt130z8 =>
      simp only [Act.put, List.setIfInBounds_toArray, List.set_cons_zero, List.set_cons_succ]
      refine' wpAnyH_take (i := 9) (oi := ?ot131z9) (v := ?vt131z9) ?ht131z9 ?st131z9 ?ft131z9 ?zt131z9 ?qt131z9 ?yt131z9 ?at131z9 ?rt131z9
      case ht131z9 => (simp only [List.getElem?_toArray, List.getElem?_cons_succ, List.getElem?_cons_zero]; rfl)
      case st131z9 => kernel_rfl
      case ft131z9 => kernel_rfl
      case zt131z9 => kernel_rfl
      case qt131z9 => exact fun _ _ _ h => h
      case yt131z9 => (refine Or.inl ⟨rfl, ?_⟩; intro w hSw; (try dsimp only at hSw); go_simp; try with_reducible rfl)
      case at131z9 => assumption
      case rt131z9 =>
      simp only [Act.put, List.setIfInBounds_toArray, List.set_cons_zero, List.set_cons_succ]
      refine' wpAnyH_take (i := 10) (oi := ?ot132z10) (v := ?vt132z10) ?ht132z10 ?st132z10 ?ft132z10 ?zt132z10 ?qt132z10 ?yt132z10 ?at132z10 ?rt132z10
      case ht132z10 => (simp only [List.getElem?_toArray, List.getElem?_cons_succ, List.getElem?_cons_zero]; rfl)
      case st132z10 => kernel_rfl
      case ft132z10 => kernel_rfl
      case zt132z10 => kernel_rfl
      case qt132z10 => exact fun _ _ _ h => h
      case yt132z10 => (refine Or.inl ⟨rfl, ?_⟩; intro w hSw; (try dsimp only at hSw); go_simp; try with_reducible rfl)
      case at132z10 => assumption
      case rt132z10 =>
      simp only [Act.put, List.setIfInBounds_toArray, List.set_cons_zero, List.set_cons_succ]
      refine' wpAnyH_take (i := 11) (oi := ?ot133z11) (v := ?vt133z11) ?ht133z11 ?st133z11 ?ft133z11 ?zt133z11 ?qt133z11 ?yt133z11 ?at133z11 ?rt133z11
      case ht133z11 => (simp only [List.getElem?_toArray, List.getElem?_cons_succ, List.getElem?_cons_zero]; rfl)
      case st133z11 => kernel_rfl
      case ft133z11 => kernel_rfl
      case zt133z11 => kernel_rfl
      case qt133z11 => exact fun _ _ _ h => h
      case yt133z11 => (refine Or.inl ⟨rfl, ?_⟩; intro w hSw; (try dsimp only at hSw); go_simp; try with_reducible rfl)
      case at133z11 => assumption
      case rt133z11 =>
      simp only [Act.put, List.setIfInBounds_toArray, List.set_cons_zero, List.set_cons_succ]
      refine wpAnyH_done (by kernel_rfl) ?_ _
      rcases HPL.out with ⟨rfl, hwg⟩ | ⟨rfl, h17⟩
      · as_aux_lemma =>
          have HN := Lib.hid (show WS (puts S rc) l (P ++ Q2) m top ch from ⟨hwg, HPS.out.1, HPS.out.2, by have := HW.out.pl; simp at this ⊢; omega⟩)
          have hpl3 := HW.out.pl
          rw [List.length_append, List.length_cons] at hpl3
          have HPu := Lib.hid (ShPut_own gs S V L L.length rfl (.slice A L.length c) w0 w3 _ (by omega) (by rw [hpc]; exact fun x hx => (HM.out.2 x hx).1) S3.out)
          rw [hpc] at HPu
          have c0 := (S3.out.has (Has.r (Has.r (Has.r (Has.r (Has.l (has_blk g _ _))))))).cell 0
          rw [show (#[Value.pointer (some ⟨gs, 0, none⟩), vl, vp, .int .i64 (m : Int)] : Array Value)[0]? = some (.pointer (some ⟨gs, 0, none⟩)) from rfl] at c0
          unfold sPtr at HPu
          clear S3 hpc hwg HPL HW HL hL3 HM HPS
          go_wp2_with fail
          refine HPu.out.mono ?_
          rintro r w4 ⟨rfl, V2, hX⟩
          rw [hR] at hX
          have S4 := Lib.hid (hX.re (show _ = Asn.vec 80 4 vp ((P ++ x :: Q2).map du).length (poL ((P ++ x :: Q2).map du)) * (Asn.blk g 30 #[.pointer (some ⟨gs, 0, none⟩), vl, vp, .int .i64 m] * (Asn.blk ge 80 #[.int .i64 2, .int .i64 ((x.lv : Int) + 1), .string (ofL x.key), .int .i64 x.page] * (Asn.vec 44 3 vl l.length (cells3 l) * (aSf gs (puts S rc) V2 * C)))) by ac_rfl))
          clear hX HPu c0 hR
          obtain ⟨N, hNe⟩ : ∃ N, N = ((P ++ x :: Q2).map du).length := ⟨_, rfl⟩
          have hNl : N = P.length + (Q2.length + 1) := by rw [hNe]; simp
          rw [← hNe] at S4
          have HNE := Lib.hid hNe
          clear hNe
          rcases S4.out.vec.forms with ⟨-, hz⟩ | ⟨b2, cap2, hvp, -, hc2, hc3⟩
          · omega
          subst hvp
          have hle1 : (P.length : Int) ≤ cap2 := by omega
          have hle2 : (P.length : Int) + 1 ≤ N := by omega
          have hle3 : (N : Int) ≤ cap2 := by omega
          have hle0 : (0 : Int) ≤ (P.length : Int) + 1 := by omega
          have hwk : IntKind.i64.wrap ((P.length : Int) + 1) = (P.length : Int) + 1 := by rw [i64_is]; exact IntWalk.wrap64_in _ ⟨by omega, by omega⟩
          have htk : ((P.length : Int) + 1).toNat = P.length + 1 := by omega
          obtain ⟨pa, hpa, hpa2⟩ : ∃ pa : Addr, (if cap2 = P.length + 1 then some (⟨b2, 0, none⟩ : Addr) else some ⟨b2, (P.length + 1) * 4, none⟩) = some pa ∧ (0 < N - (P.length + 1) → pa = ⟨b2, (P.length + 1) * 4, none⟩) := by
            by_cases hcp : cap2 = P.length + 1
            · exact ⟨_, if_pos hcp, fun h => by omega⟩
            · exact ⟨_, if_neg hcp, fun _ => rfl⟩
          have HNL := Lib.hid hNl
          have HPA := Lib.hid hpa2
          clear hNl hpa2
          go_upto_region 15 with fail
          refine wp_region_held_drew (S := fun W : World => True) (by kernel_rfl) trivial (fun hHeld => ?_)
          have S5 := Lib.hid S4.out.drew
          clear S4
          generalize w4.drew = w5 at *
          refine' wpAnyH_take (i := 0) (oi := ?ot1z0) (v := ?vt1z0) ?ht1z0 ?st1z0 ?ft1z0 ?zt1z0 ?qt1z0 ?yt1z0 ?at1z0 ?rt1z0
          case ht1z0 => (simp only [List.getElem?_toArray, List.getElem?_cons_succ, List.getElem?_cons_zero]; rfl)
          case st1z0 => kernel_rfl
          case ft1z0 => kernel_rfl
          case zt1z0 => kernel_rfl
          case qt1z0 => exact fun _ _ _ h => h
          case yt1z0 => (refine Or.inl ⟨rfl, ?_⟩; intro w hSw; (try dsimp only at hSw); go_simp; try with_reducible rfl)
          case at1z0 => assumption
          case rt1z0 =>
          simp only [Act.put, List.setIfInBounds_toArray, List.set_cons_zero, List.set_cons_succ]
          refine' wpAnyH_take (i := 2) (oi := ?ot2z2) (v := ?vt2z2) ?ht2z2 ?st2z2 ?ft2z2 ?zt2z2 ?qt2z2 ?yt2z2 ?at2z2 ?rt2z2
          case ht2z2 => (simp only [List.getElem?_toArray, List.getElem?_cons_succ, List.getElem?_cons_zero]; rfl)
          case st2z2 => kernel_rfl
          case ft2z2 => kernel_rfl
          case zt2z2 => kernel_rfl
          case qt2z2 => exact fun _ _ _ h => h
          case yt2z2 => (refine Or.inl ⟨rfl, ?_⟩; intro w hSw; (try dsimp only at hSw); go_simp; try with_reducible rfl)
          case at2z2 => assumption
          case rt2z2 =>
          simp only [Act.put, List.setIfInBounds_toArray, List.set_cons_zero, List.set_cons_succ]
          refine' wpAnyH_take (i := 3) (oi := ?ot3z3) (v := ?vt3z3) ?ht3z3 ?st3z3 ?ft3z3 ?zt3z3 ?qt3z3 ?yt3z3 ?at3z3 ?rt3z3
          case ht3z3 => (simp only [List.getElem?_toArray, List.getElem?_cons_succ, List.getElem?_cons_zero]; rfl)
          case st3z3 => kernel_rfl
          case ft3z3 => kernel_rfl
          case zt3z3 => kernel_rfl
          case qt3z3 => exact fun _ _ _ h => h
          case yt3z3 => (refine Or.inl ⟨rfl, ?_⟩; intro w hSw; (try dsimp only at hSw); go_simp; try with_reducible rfl)
          case at3z3 => assumption
          case rt3z3 =>
          simp only [Act.put, List.setIfInBounds_toArray, List.set_cons_zero, List.set_cons_succ]
          refine' wpAnyH_take (i := 4) (oi := ?ot4z4) (v := ?vt4z4) ?ht4z4 ?st4z4 ?ft4z4 ?zt4z4 ?qt4z4 ?yt4z4 ?at4z4 ?rt4z4
          case ht4z4 => (simp only [List.getElem?_toArray, List.getElem?_cons_succ, List.getElem?_cons_zero]; rfl)
          case st4z4 => kernel_rfl
          case ft4z4 => kernel_rfl
          case zt4z4 => kernel_rfl
          case qt4z4 => exact fun _ _ _ h => h
          case yt4z4 => (refine Or.inl ⟨rfl, ?_⟩; intro w hSw; (try dsimp only at hSw); go_simp; try with_reducible rfl)
          case at4z4 => assumption
          case rt4z4 =>
          simp only [Act.put, List.setIfInBounds_toArray, List.set_cons_zero, List.set_cons_succ]
          refine' wpAnyH_take (i := 6) (oi := ?ot5z6) (v := ?vt5z6) ?ht5z6 ?st5z6 ?ft5z6 ?zt5z6 ?qt5z6 ?yt5z6 ?at5z6 ?rt5z6
          case ht5z6 => (simp only [List.getElem?_toArray, List.getElem?_cons_succ, List.getElem?_cons_zero]; rfl)
          case st5z6 => kernel_rfl
          case ft5z6 => kernel_rfl
          case zt5z6 => kernel_rfl
          case qt5z6 => exact fun _ _ _ h => h
          case yt5z6 => (refine Or.inl ⟨rfl, ?_⟩; intro w hSw; (try dsimp only at hSw); go_simp; try with_reducible rfl)
          case at5z6 => assumption
          case rt5z6 =>
          simp only [Act.put, List.setIfInBounds_toArray, List.set_cons_zero, List.set_cons_succ]
          refine' wpAnyH_take (i := 9) (oi := ?ot6z9) (v := ?vt6z9) ?ht6z9 ?st6z9 ?ft6z9 ?zt6z9 ?qt6z9 ?yt6z9 ?at6z9 ?rt6z9
          case ht6z9 => (simp only [List.getElem?_toArray, List.getElem?_cons_succ, List.getElem?_cons_zero]; rfl)
          case st6z9 => kernel_rfl
          case ft6z9 => kernel_rfl
          case zt6z9 => kernel_rfl
          case qt6z9 => exact fun _ _ _ h => h
          case yt6z9 => (refine Or.inl ⟨rfl, ?_⟩; intro w hSw; (try dsimp only at hSw); go_simp; try with_reducible rfl)
          case at6z9 => assumption
          case rt6z9 =>
          simp only [Act.put, List.setIfInBounds_toArray, List.set_cons_zero, List.set_cons_succ]
          refine' wpAnyH_take (i := 10) (oi := ?ot7z10) (v := ?vt7z10) ?ht7z10 ?st7z10 ?ft7z10 ?zt7z10 ?qt7z10 ?yt7z10 ?at7z10 ?rt7z10
          case ht7z10 => (simp only [List.getElem?_toArray, List.getElem?_cons_succ, List.getElem?_cons_zero]; rfl)
          case st7z10 => kernel_rfl
          case ft7z10 => kernel_rfl
          case zt7z10 => kernel_rfl
          case qt7z10 => exact fun _ _ _ h => h
          case yt7z10 => (refine Or.inl ⟨rfl, ?_⟩; intro w hSw; (try dsimp only at hSw); go_simp; try with_reducible rfl)
          case at7z10 => assumption
          case rt7z10 =>
          simp only [Act.put, List.setIfInBounds_toArray, List.set_cons_zero, List.set_cons_succ]
          refine' wpAnyH_take (i := 11) (oi := ?ot8z11) (v := ?vt8z11) ?ht8z11 ?st8z11 ?ft8z11 ?zt8z11 ?qt8z11 ?yt8z11 ?at8z11 ?rt8z11
          case ht8z11 => (simp only [List.getElem?_toArray, List.getElem?_cons_succ, List.getElem?_cons_zero]; rfl)
          case st8z11 => kernel_rfl
          case ft8z11 => kernel_rfl
          case zt8z11 => kernel_rfl
          case qt8z11 => exact fun _ _ _ h => h
          case yt8z11 => (refine Or.inl ⟨rfl, ?_⟩; intro w hSw; (try dsimp only at hSw); go_simp; try with_reducible rfl)
          case at8z11 => assumption
          case rt8z11 =>
          simp only [Act.put, List.setIfInBounds_toArray, List.set_cons_zero, List.set_cons_succ]
          refine' wpAnyH_take (i := 13) (oi := ?ot9z13) (v := ?vt9z13) ?ht9z13 ?st9z13 ?ft9z13 ?zt9z13 ?qt9z13 ?yt9z13 ?at9z13 ?rt9z13
          case ht9z13 => (simp only [List.getElem?_toArray, List.getElem?_cons_succ, List.getElem?_cons_zero]; rfl)
          case st9z13 => kernel_rfl
          case ft9z13 => kernel_rfl
          case zt9z13 => kernel_rfl
          case qt9z13 => exact fun _ _ _ h => h
          case yt9z13 => (refine Or.inl ⟨rfl, ?_⟩; intro w hSw; (try dsimp only at hSw); go_simp; try with_reducible rfl)
          case at9z13 => assumption
          case rt9z13 =>
          simp only [Act.put, List.setIfInBounds_toArray, List.set_cons_zero, List.set_cons_succ]
          refine' wpAnyH_take (i := 14) (oi := ?ot10z14) (v := ?vt10z14) ?ht10z14 ?st10z14 ?ft10z14 ?zt10z14 ?qt10z14 ?yt10z14 ?at10z14 ?rt10z14
          case ht10z14 => (simp only [List.getElem?_toArray, List.getElem?_cons_succ, List.getElem?_cons_zero]; rfl)
          case st10z14 => kernel_rfl
          case ft10z14 => kernel_rfl
          case zt10z14 => kernel_rfl
          case qt10z14 => exact fun _ _ _ h => h
          case yt10z14 => (refine Or.inl ⟨rfl, ?_⟩; intro w hSw; (try dsimp only at hSw); go_simp; try with_reducible rfl)
          case at10z14 => assumption
          case rt10z14 =>
          simp only [Act.put, List.setIfInBounds_toArray, List.set_cons_zero, List.set_cons_succ]
          refine wpAnyH_ready (rs := [1, 5, 12]) (by kernel_rfl) (by simp) ?_
          refine' AllReadyH.cons (o := ?ob11z1) ?hb11z1 ?kb11z1 ?mb11z1
          case hb11z1 => (simp only [List.getElem?_toArray, List.getElem?_cons_succ, List.getElem?_cons_zero]; rfl)
          case kb11z1 =>
            intro K0 hK
            go_simp
            obtain ⟨gz, hgz⟩ : ∃ g, g = w5.heap.size := ⟨_, rfl⟩
            have SA12 := Lib.hid (((S5.out.alloc #[] 80).imp (Imp.l (blk_vec (cs := []) 0 4 rfl (by decide)))))
            rw [← hgz] at SA12 ⊢
            clear hgz S5
            generalize World.alloc w5 _ = wa12 at *
            have SA12 := Lib.hid (SA12.out.re (show _ = Asn.vec 80 4 (.slice (some ⟨b2, 0, none⟩) N cap2) N (poL ((P ++ x :: Q2).map du)) * (Asn.blk g 30 #[.pointer (some ⟨gs, 0, none⟩), vl, .slice (some ⟨b2, 0, none⟩) N cap2, .int .i64 m] * (Asn.vec 80 4 (.slice (some ⟨gz, 0, none⟩) 0 0) 0 [] * ((Asn.blk ge 80 #[.int .i64 2, .int .i64 ((x.lv : Int) + 1), .string (ofL x.key), .int .i64 x.page] * (Asn.vec 44 3 vl l.length (cells3 l) * (aSf gs (puts S rc) V2 * C)))))) by ac_rfl))
            refine hK.out _ _ ?_ (fun hHeld => ?_)
            · trivial
            clear hK K0
            (try simp only [Act.put, List.setIfInBounds_toArray, List.set_cons_zero, List.set_cons_succ])
            (try clear hH2)
            refine wpAnyH_ready (rs := [5, 12]) (by kernel_rfl) (by simp) ?_
            refine' AllReadyH.cons (o := ?ob13z5) ?hb13z5 ?kb13z5 ?mb13z5
            case hb13z5 => (simp only [List.getElem?_toArray, List.getElem?_cons_succ, List.getElem?_cons_zero]; rfl)
            case kb13z5 =>
              intro K0 hK
              have cc := (SA12.out.has (Has.r (Has.l (has_blk g _ _)))).cell 2
              rw [show (#[Value.pointer (some ⟨gs, 0, none⟩), vl, .slice (some ⟨b2, 0, none⟩) N cap2, .int .i64 (m : Int)] : Array Value)[2]? = some (.slice (some ⟨b2, 0, none⟩) N cap2) from rfl] at cc
              go_simp
              clear cc
              refine hK.out _ _ ?_ (fun hHeld => ?_)
              · trivial
              clear hK K0
              (try simp only [Act.put, List.setIfInBounds_toArray, List.set_cons_zero, List.set_cons_succ])
              (try clear hH2)
              refine' wpAnyH_take (i := 7) (oi := ?ot15z7) (v := ?vt15z7) ?ht15z7 ?st15z7 ?ft15z7 ?zt15z7 ?qt15z7 ?yt15z7 ?at15z7 ?rt15z7
              case ht15z7 => (simp only [List.getElem?_toArray, List.getElem?_cons_succ, List.getElem?_cons_zero]; rfl)
              case st15z7 => kernel_rfl
              case ft15z7 => kernel_rfl
              case zt15z7 => kernel_rfl
              case qt15z7 => exact fun _ _ _ h => h
              case yt15z7 => (refine Or.inl ⟨rfl, ?_⟩; intro w hSw; (try dsimp only at hSw); go_simp; try with_reducible rfl)
              case at15z7 => assumption
              case rt15z7 =>
              simp only [Act.put, List.setIfInBounds_toArray, List.set_cons_zero, List.set_cons_succ]
              refine wpAnyH_ready (rs := [8, 12]) (by kernel_rfl) (by simp) ?_
              refine' AllReadyH.cons (o := ?ob16z8) ?hb16z8 ?kb16z8 ?mb16z8
              case hb16z8 => (simp only [List.getElem?_toArray, List.getElem?_cons_succ, List.getElem?_cons_zero]; rfl)
              case kb16z8 =>
                intro K0 hK
                have hvc := SA12.out.vec
                have CX : Hid (Src Try.prog 4 28 (.slice (some ⟨b2, 0, none⟩) P.length cap2) P.length (poL (P.map du)) wa12) := Lib.hid (Src.ofSlice _ Try.underlying28 ⟨b2, 0, none⟩ P.length cap2 (poL (P.map du)) (by rw [poL_len, List.length_map]) (fun j u hj => by
                  rw [Addr.add_lit, Nat.zero_add]
                  refine hvc.cell ?_
                  rw [List.map_append, poL_app, List.getElem?_append_left (List.getElem?_eq_some_iff.1 hj).1]
                  exact hj) (fun u hu => poL_one _ u hu))
                clear hvc
                have SQ := Lib.hid (SA12.out.re (show _ = Asn.vec 80 4 (.slice (some ⟨gz, 0, none⟩) 0 0) 0 [] * (Asn.vec 80 4 (.slice (some ⟨b2, 0, none⟩) N cap2) N (poL ((P ++ x :: Q2).map du)) * (Asn.blk g 30 #[.pointer (some ⟨gs, 0, none⟩), vl, .slice (some ⟨b2, 0, none⟩) N cap2, .int .i64 m] * (Asn.blk ge 80 #[.int .i64 2, .int .i64 ((x.lv : Int) + 1), .string (ofL x.key), .int .i64 x.page] * (Asn.vec 44 3 vl l.length (cells3 l) * (aSf gs (puts S rc) V2 * C))))) by ac_rfl))
                clear SA12
                with_reducible refine step_append_vec rfl (.tmp 65) (.tmp 71) 28 28 rfl 80 _ 4 40 Try.underlying28 infoPost rfl (by decide) (.slice (some ⟨gz, 0, none⟩) 0 0) (0) ([]) rfl SQ.out.vec (.slice (some ⟨b2, 0, none⟩) P.length cap2) rfl (P.length) (poL (P.map du)) CX.out (by  have := HNL.out; unfold maxLen; omega) (by  have := HNL.out; omega) ?_
                intro v2 wb17 hv hc hf
                obtain ⟨A4, c4, hv4⟩ := hv.slice
                subst hv4
                have S7 := Lib.hid (SQ.out.app hv hc hf)
                clear SQ CX hv hc hf
                obtain ⟨N1, hN1⟩ : ∃ N1, N1 = 0 + P.length := ⟨_, rfl⟩
                rw [← hN1] at S7 ⊢
                have HN1 := Lib.hid hN1
                clear hN1
                have SB17 := Lib.hid (S7.out.re (show _ = Asn.vec 80 4 (.slice (some ⟨b2, 0, none⟩) N cap2) N (poL ((P ++ x :: Q2).map du)) * (Asn.blk g 30 #[.pointer (some ⟨gs, 0, none⟩), vl, .slice (some ⟨b2, 0, none⟩) N cap2, .int .i64 m] * (Asn.vec 80 4 (.slice A4 N1 c4) N1 ([] ++ poL (P.map du)) * (Asn.blk ge 80 #[.int .i64 2, .int .i64 ((x.lv : Int) + 1), .string (ofL x.key), .int .i64 x.page] * (Asn.vec 44 3 vl l.length (cells3 l) * (aSf gs (puts S rc) V2 * C))))) by ac_rfl))
                clear S7
                refine hK.out _ _ ?_ (fun hHeld => ?_)
                · trivial
                clear hK K0
                (try simp only [Act.put, List.setIfInBounds_toArray, List.set_cons_zero, List.set_cons_succ])
                (try clear hH2)
                refine wpAnyH_ready (rs := [12]) (by kernel_rfl) (by simp) ?_
                refine' AllReadyH.cons (o := ?ob18z12) ?hb18z12 ?kb18z12 AllReadyH.nil
                case hb18z12 => (simp only [List.getElem?_toArray, List.getElem?_cons_succ, List.getElem?_cons_zero]; rfl)
                case kb18z12 =>
                  intro K0 hK
                  have cc := (SB17.out.has (Has.r (Has.l (has_blk g _ _)))).cell 2
                  rw [show (#[Value.pointer (some ⟨gs, 0, none⟩), vl, .slice (some ⟨b2, 0, none⟩) N cap2, .int .i64 (m : Int)] : Array Value)[2]? = some (.slice (some ⟨b2, 0, none⟩) N cap2) from rfl] at cc
                  go_simp
                  clear cc
                  refine hK.out _ _ ?_ (fun hHeld => ?_)
                  · trivial
                  clear hK K0
                  (try simp only [Act.put, List.setIfInBounds_toArray, List.set_cons_zero, List.set_cons_succ])
                  (try clear hH2)
                  refine' wpAnyH_take (i := 15) (oi := ?ot20z15) (v := ?vt20z15) ?ht20z15 ?st20z15 ?ft20z15 ?zt20z15 ?qt20z15 ?yt20z15 ?at20z15 ?rt20z15
                  case ht20z15 => (simp only [List.getElem?_toArray, List.getElem?_cons_succ, List.getElem?_cons_zero]; rfl)
                  case st20z15 => kernel_rfl
                  case ft20z15 => kernel_rfl
                  case zt20z15 => kernel_rfl
                  case qt20z15 => exact fun _ _ _ h => h
                  case yt20z15 => (refine Or.inl ⟨rfl, ?_⟩; intro w hSw; (try dsimp only at hSw); go_simp; try with_reducible rfl)
                  case at20z15 => assumption
                  case rt20z15 =>
                  simp only [Act.put, List.setIfInBounds_toArray, List.set_cons_zero, List.set_cons_succ]
                  refine wpAnyH_ready (rs := [16]) (by kernel_rfl) (by simp) ?_
                  refine' AllReadyH.cons (o := ?ob21z16) ?hb21z16 ?kb21z16 AllReadyH.nil
                  case hb21z16 => (simp only [List.getElem?_toArray, List.getElem?_cons_succ, List.getElem?_cons_zero]; rfl)
                  case kb21z16 =>
                    intro K0 hK
                    have hvc := SB17.out.vec
                    have CX : Hid (Src Try.prog 4 28 (.slice (some pa) (N - (P.length + 1)) (cap2 - (P.length + 1))) (N - (P.length + 1)) (poL (Q2.map du)) wb17) := Lib.hid (Src.ofSlice _ Try.underlying28 pa (N - (P.length + 1)) (cap2 - (P.length + 1)) (poL (Q2.map du)) (by rw [poL_len, List.length_map, HNL.out]; omega) (fun j u hj => by
                      have hjl := (List.getElem?_eq_some_iff.1 hj).1
                      rw [poL_len, List.length_map] at hjl
                      rw [HPA.out (by have := HNL.out; omega), Addr.add_lit]
                      refine hvc.cell ?_
                      have e1 : (P ++ x :: Q2).map du = (P ++ [x]).map du ++ Q2.map du := by simp
                      have e2 : (poL ((P ++ [x]).map du)).length = (P.length + 1) * 4 := by rw [poL_len]; simp
                      rw [e1, poL_app, List.getElem?_append_right (by omega), e2, Nat.add_sub_cancel_left]
                      exact hj) (fun u hu => poL_one _ u hu))
                    clear hvc
                    have SQ := Lib.hid (SB17.out.re (show _ = Asn.vec 80 4 (.slice A4 N1 c4) N1 ([] ++ poL (P.map du)) * (Asn.vec 80 4 (.slice (some ⟨b2, 0, none⟩) N cap2) N (poL ((P ++ x :: Q2).map du)) * (Asn.blk g 30 #[.pointer (some ⟨gs, 0, none⟩), vl, .slice (some ⟨b2, 0, none⟩) N cap2, .int .i64 m] * (Asn.blk ge 80 #[.int .i64 2, .int .i64 ((x.lv : Int) + 1), .string (ofL x.key), .int .i64 x.page] * (Asn.vec 44 3 vl l.length (cells3 l) * (aSf gs (puts S rc) V2 * C))))) by ac_rfl))
                    clear SB17
                    with_reducible refine step_append_vec rfl (.tmp 72) (.tmp 79) 28 28 rfl 80 _ 4 40 Try.underlying28 infoPost rfl (by decide) (.slice A4 N1 c4) (N1) ([] ++ poL (P.map du)) rfl SQ.out.vec (.slice (some pa) (N - (P.length + 1)) (cap2 - (P.length + 1))) rfl (N - (P.length + 1)) (poL (Q2.map du)) CX.out (by have := HN1.out; have := HNL.out; unfold maxLen; omega) (by have := HN1.out; have := HNL.out; omega) ?_
                    intro v2 wc22 hv hc hf
                    obtain ⟨A5, c5, hv4⟩ := hv.slice
                    subst hv4
                    have S7 := Lib.hid (SQ.out.app hv hc hf)
                    clear SQ CX hv hc hf
                    obtain ⟨N2, hN2⟩ : ∃ N2, N2 = N1 + (N - (P.length + 1)) := ⟨_, rfl⟩
                    rw [← hN2] at S7 ⊢
                    have HN2 := Lib.hid hN2
                    clear hN2
                    have SC22 := Lib.hid (S7.out.re (show _ = Asn.blk g 30 #[.pointer (some ⟨gs, 0, none⟩), vl, .slice (some ⟨b2, 0, none⟩) N cap2, .int .i64 m] * (Asn.vec 80 4 (.slice A5 N2 c5) N2 (([] ++ poL (P.map du)) ++ poL (Q2.map du)) * (Asn.vec 80 4 (.slice (some ⟨b2, 0, none⟩) N cap2) N (poL ((P ++ x :: Q2).map du)) * (Asn.blk ge 80 #[.int .i64 2, .int .i64 ((x.lv : Int) + 1), .string (ofL x.key), .int .i64 x.page] * (Asn.vec 44 3 vl l.length (cells3 l) * (aSf gs (puts S rc) V2 * C))))) by ac_rfl))
                    clear S7
                    refine hK.out _ _ ?_ (fun hHeld => ?_)
                    · trivial
                    clear hK K0
                    (try simp only [Act.put, List.setIfInBounds_toArray, List.set_cons_zero, List.set_cons_succ])
                    (try clear hH2)
                    refine' wpAnyH_take (i := 17) (oi := ?ot23z17) (v := ?vt23z17) ?ht23z17 ?st23z17 ?ft23z17 ?zt23z17 ?qt23z17 ?yt23z17 ?at23z17 ?rt23z17
                    case ht23z17 => (simp only [List.getElem?_toArray, List.getElem?_cons_succ, List.getElem?_cons_zero]; rfl)
                    case st23z17 => kernel_rfl
                    case ft23z17 => kernel_rfl
                    case zt23z17 => kernel_rfl
                    case qt23z17 => exact fun _ _ _ h => h
                    case yt23z17 => (refine Or.inl ⟨rfl, ?_⟩; intro w hSw; (try dsimp only at hSw); go_simp; try with_reducible rfl)
                    case at23z17 => assumption
                    case rt23z17 =>
                    simp only [Act.put, List.setIfInBounds_toArray, List.set_cons_zero, List.set_cons_succ]
                    refine' wpAnyH_take (i := 18) (oi := ?ot24z18) (v := ?vt24z18) ?ht24z18 ?st24z18 ?ft24z18 ?zt24z18 ?qt24z18 ?yt24z18 ?at24z18 ?rt24z18
                    case ht24z18 => (simp only [List.getElem?_toArray, List.getElem?_cons_succ, List.getElem?_cons_zero]; rfl)
                    case st24z18 => kernel_rfl
                    case ft24z18 => kernel_rfl
                    case zt24z18 => kernel_rfl
                    case qt24z18 => exact fun _ _ _ h => h
                    case yt24z18 => (refine Or.inl ⟨rfl, ?_⟩; intro w hSw; (try dsimp only at hSw); go_simp; try with_reducible rfl)
                    case at24z18 => assumption
                    case rt24z18 =>
                    simp only [Act.put, List.setIfInBounds_toArray, List.set_cons_zero, List.set_cons_succ]
                    refine wpAnyH_ready (rs := [19]) (by kernel_rfl) (by simp) ?_
                    refine' AllReadyH.cons (o := ?ob25z19) ?hb25z19 ?kb25z19 AllReadyH.nil
                    case hb25z19 => (simp only [List.getElem?_toArray, List.getElem?_cons_succ, List.getElem?_cons_zero]; rfl)
                    case kb25z19 =>
                      intro K0 hK
                      have cc := (SC22.out.has (Has.l (has_blk g _ _))).cell 2
                      rw [show (#[Value.pointer (some ⟨gs, 0, none⟩), vl, .slice (some ⟨b2, 0, none⟩) N cap2, .int .i64 (m : Int)] : Array Value)[2]? = some (.slice (some ⟨b2, 0, none⟩) N cap2) from rfl] at cc
                      have f2 := (SC22.out.has (Has.l (has_blk g _ _))).free 2
                      go_simp
                      clear cc f2
                      have SD26 := Lib.hid (SC22.out.set (Sets.l (sets_blk g _ _ 2 (.slice A5 N2 c5))))
                      simp only [List.setIfInBounds_toArray, List.set_cons_zero, List.set_cons_succ] at SD26
                      clear SC22
                      generalize World.setCell wc22 _ _ = wd26 at *
                      refine hK.out _ _ ?_ (fun hHeld => ?_)
                      · trivial
                      clear hK K0
                      (try simp only [Act.put, List.setIfInBounds_toArray, List.set_cons_zero, List.set_cons_succ])
                      (try clear hH2)
                      refine wpAnyH_done (by kernel_rfl) ?_ _
                      go_wp2_with fail
                      go_returns
                      refine ⟨rfl, puts S rc, V2, .slice A5 N2 c5, Q2, m, top, ch, HN.out, by omega, hq2, hnm, ?_⟩
                      have eN : N2 = ((P ++ Q2).map du).length := by rw [HN2.out, HN1.out, HNL.out]; simp; omega
                      have eL : ([] ++ poL (P.map du)) ++ poL (Q2.map du) = poL ((P ++ Q2).map du) := by rw [List.map_append, poL_app, List.nil_append]
                      have S9 := SD26.out
                      rw [eL] at S9
                      unfold aWd sPtr
                      rw [← eN]
                      exact (S9.re (show _ = (Asn.vec 80 4 (.slice (some ⟨b2, 0, none⟩) N cap2) N (poL ((P ++ x :: Q2).map du)) * Asn.blk ge 80 #[.int .i64 2, .int .i64 ((x.lv : Int) + 1), .string (ofL x.key), .int .i64 x.page]) * ((Asn.blk g 30 #[.pointer (some ⟨gs, 0, none⟩), vl, .slice A5 N2 c5, .int .i64 m] * (Asn.vec 44 3 vl l.length (cells3 l) * (Asn.vec 80 4 (.slice A5 N2 c5) N2 (poL ((P ++ Q2).map du)) * aSf gs (puts S rc) V2))) * C) by ac_rfl)).right
              case mb16z8 =>
              refine' AllReadyH.cons (o := ?ob27z12) ?hb27z12 ?kb27z12 AllReadyH.nil
              case hb27z12 => (simp only [List.getElem?_toArray, List.getElem?_cons_succ, List.getElem?_cons_zero]; rfl)
              case kb27z12 =>
                intro K0 hK
                have cc := (SA12.out.has (Has.r (Has.l (has_blk g _ _)))).cell 2
                rw [show (#[Value.pointer (some ⟨gs, 0, none⟩), vl, .slice (some ⟨b2, 0, none⟩) N cap2, .int .i64 (m : Int)] : Array Value)[2]? = some (.slice (some ⟨b2, 0, none⟩) N cap2) from rfl] at cc
                go_simp
                clear cc
                refine hK.out _ _ ?_ (fun hHeld => ?_)
                · trivial
                clear hK K0
                (try simp only [Act.put, List.setIfInBounds_toArray, List.set_cons_zero, List.set_cons_succ])
                (try clear hH2)
                refine' wpAnyH_take (i := 15) (oi := ?ot29z15) (v := ?vt29z15) ?ht29z15 ?st29z15 ?ft29z15 ?zt29z15 ?qt29z15 ?yt29z15 ?at29z15 ?rt29z15
                case ht29z15 => (simp only [List.getElem?_toArray, List.getElem?_cons_succ, List.getElem?_cons_zero]; rfl)
                case st29z15 => kernel_rfl
                case ft29z15 => kernel_rfl
                case zt29z15 => kernel_rfl
                case qt29z15 => exact fun _ _ _ h => h
                case yt29z15 => (refine Or.inl ⟨rfl, ?_⟩; intro w hSw; (try dsimp only at hSw); go_simp; try with_reducible rfl)
                case at29z15 => assumption
                case rt29z15 =>
                simp only [Act.put, List.setIfInBounds_toArray, List.set_cons_zero, List.set_cons_succ]
                refine wpAnyH_ready (rs := [8]) (by kernel_rfl) (by simp) ?_
                refine' AllReadyH.cons (o := ?ob30z8) ?hb30z8 ?kb30z8 AllReadyH.nil
                case hb30z8 => (simp only [List.getElem?_toArray, List.getElem?_cons_succ, List.getElem?_cons_zero]; rfl)
                case kb30z8 =>
                  intro K0 hK
                  have hvc := SA12.out.vec
                  have CX : Hid (Src Try.prog 4 28 (.slice (some ⟨b2, 0, none⟩) P.length cap2) P.length (poL (P.map du)) wa12) := Lib.hid (Src.ofSlice _ Try.underlying28 ⟨b2, 0, none⟩ P.length cap2 (poL (P.map du)) (by rw [poL_len, List.length_map]) (fun j u hj => by
                    rw [Addr.add_lit, Nat.zero_add]
                    refine hvc.cell ?_
                    rw [List.map_append, poL_app, List.getElem?_append_left (List.getElem?_eq_some_iff.1 hj).1]
                    exact hj) (fun u hu => poL_one _ u hu))
                  clear hvc
                  have SQ := Lib.hid (SA12.out.re (show _ = Asn.vec 80 4 (.slice (some ⟨gz, 0, none⟩) 0 0) 0 [] * (Asn.vec 80 4 (.slice (some ⟨b2, 0, none⟩) N cap2) N (poL ((P ++ x :: Q2).map du)) * (Asn.blk g 30 #[.pointer (some ⟨gs, 0, none⟩), vl, .slice (some ⟨b2, 0, none⟩) N cap2, .int .i64 m] * (Asn.blk ge 80 #[.int .i64 2, .int .i64 ((x.lv : Int) + 1), .string (ofL x.key), .int .i64 x.page] * (Asn.vec 44 3 vl l.length (cells3 l) * (aSf gs (puts S rc) V2 * C))))) by ac_rfl))
                  clear SA12
                  with_reducible refine step_append_vec rfl (.tmp 65) (.tmp 71) 28 28 rfl 80 _ 4 40 Try.underlying28 infoPost rfl (by decide) (.slice (some ⟨gz, 0, none⟩) 0 0) (0) ([]) rfl SQ.out.vec (.slice (some ⟨b2, 0, none⟩) P.length cap2) rfl (P.length) (poL (P.map du)) CX.out (by  have := HNL.out; unfold maxLen; omega) (by  have := HNL.out; omega) ?_
                  intro v2 wb31 hv hc hf
                  obtain ⟨A4, c4, hv4⟩ := hv.slice
                  subst hv4
                  have S7 := Lib.hid (SQ.out.app hv hc hf)
                  clear SQ CX hv hc hf
                  obtain ⟨N1, hN1⟩ : ∃ N1, N1 = 0 + P.length := ⟨_, rfl⟩
                  rw [← hN1] at S7 ⊢
                  have HN1 := Lib.hid hN1
                  clear hN1
                  have SB31 := Lib.hid (S7.out.re (show _ = Asn.vec 80 4 (.slice (some ⟨b2, 0, none⟩) N cap2) N (poL ((P ++ x :: Q2).map du)) * (Asn.blk g 30 #[.pointer (some ⟨gs, 0, none⟩), vl, .slice (some ⟨b2, 0, none⟩) N cap2, .int .i64 m] * (Asn.vec 80 4 (.slice A4 N1 c4) N1 ([] ++ poL (P.map du)) * (Asn.blk ge 80 #[.int .i64 2, .int .i64 ((x.lv : Int) + 1), .string (ofL x.key), .int .i64 x.page] * (Asn.vec 44 3 vl l.length (cells3 l) * (aSf gs (puts S rc) V2 * C))))) by ac_rfl))
                  clear S7
                  refine hK.out _ _ ?_ (fun hHeld => ?_)
                  · trivial
                  clear hK K0
                  (try simp only [Act.put, List.setIfInBounds_toArray, List.set_cons_zero, List.set_cons_succ])
                  (try clear hH2)
                  refine wpAnyH_ready (rs := [16]) (by kernel_rfl) (by simp) ?_
                  refine' AllReadyH.cons (o := ?ob32z16) ?hb32z16 ?kb32z16 AllReadyH.nil
                  case hb32z16 => (simp only [List.getElem?_toArray, List.getElem?_cons_succ, List.getElem?_cons_zero]; rfl)
                  case kb32z16 =>
                    intro K0 hK
                    have hvc := SB31.out.vec
                    have CX : Hid (Src Try.prog 4 28 (.slice (some pa) (N - (P.length + 1)) (cap2 - (P.length + 1))) (N - (P.length + 1)) (poL (Q2.map du)) wb31) := Lib.hid (Src.ofSlice _ Try.underlying28 pa (N - (P.length + 1)) (cap2 - (P.length + 1)) (poL (Q2.map du)) (by rw [poL_len, List.length_map, HNL.out]; omega) (fun j u hj => by
                      have hjl := (List.getElem?_eq_some_iff.1 hj).1
                      rw [poL_len, List.length_map] at hjl
                      rw [HPA.out (by have := HNL.out; omega), Addr.add_lit]
                      refine hvc.cell ?_
                      have e1 : (P ++ x :: Q2).map du = (P ++ [x]).map du ++ Q2.map du := by simp
                      have e2 : (poL ((P ++ [x]).map du)).length = (P.length + 1) * 4 := by rw [poL_len]; simp
                      rw [e1, poL_app, List.getElem?_append_right (by omega), e2, Nat.add_sub_cancel_left]
                      exact hj) (fun u hu => poL_one _ u hu))
                    clear hvc
                    have SQ := Lib.hid (SB31.out.re (show _ = Asn.vec 80 4 (.slice A4 N1 c4) N1 ([] ++ poL (P.map du)) * (Asn.vec 80 4 (.slice (some ⟨b2, 0, none⟩) N cap2) N (poL ((P ++ x :: Q2).map du)) * (Asn.blk g 30 #[.pointer (some ⟨gs, 0, none⟩), vl, .slice (some ⟨b2, 0, none⟩) N cap2, .int .i64 m] * (Asn.blk ge 80 #[.int .i64 2, .int .i64 ((x.lv : Int) + 1), .string (ofL x.key), .int .i64 x.page] * (Asn.vec 44 3 vl l.length (cells3 l) * (aSf gs (puts S rc) V2 * C))))) by ac_rfl))
                    clear SB31
                    with_reducible refine step_append_vec rfl (.tmp 72) (.tmp 79) 28 28 rfl 80 _ 4 40 Try.underlying28 infoPost rfl (by decide) (.slice A4 N1 c4) (N1) ([] ++ poL (P.map du)) rfl SQ.out.vec (.slice (some pa) (N - (P.length + 1)) (cap2 - (P.length + 1))) rfl (N - (P.length + 1)) (poL (Q2.map du)) CX.out (by have := HN1.out; have := HNL.out; unfold maxLen; omega) (by have := HN1.out; have := HNL.out; omega) ?_
                    intro v2 wc33 hv hc hf
                    obtain ⟨A5, c5, hv4⟩ := hv.slice
                    subst hv4
                    have S7 := Lib.hid (SQ.out.app hv hc hf)
                    clear SQ CX hv hc hf
                    obtain ⟨N2, hN2⟩ : ∃ N2, N2 = N1 + (N - (P.length + 1)) := ⟨_, rfl⟩
                    rw [← hN2] at S7 ⊢
                    have HN2 := Lib.hid hN2
                    clear hN2
                    have SC33 := Lib.hid (S7.out.re (show _ = Asn.blk g 30 #[.pointer (some ⟨gs, 0, none⟩), vl, .slice (some ⟨b2, 0, none⟩) N cap2, .int .i64 m] * (Asn.vec 80 4 (.slice A5 N2 c5) N2 (([] ++ poL (P.map du)) ++ poL (Q2.map du)) * (Asn.vec 80 4 (.slice (some ⟨b2, 0, none⟩) N cap2) N (poL ((P ++ x :: Q2).map du)) * (Asn.blk ge 80 #[.int .i64 2, .int .i64 ((x.lv : Int) + 1), .string (ofL x.key), .int .i64 x.page] * (Asn.vec 44 3 vl l.length (cells3 l) * (aSf gs (puts S rc) V2 * C))))) by ac_rfl))
                    clear S7
                    refine hK.out _ _ ?_ (fun hHeld => ?_)
                    · trivial
                    clear hK K0
                    (try simp only [Act.put, List.setIfInBounds_toArray, List.set_cons_zero, List.set_cons_succ])
                    (try clear hH2)
                    refine' wpAnyH_take (i := 17) (oi := ?ot34z17) (v := ?vt34z17) ?ht34z17 ?st34z17 ?ft34z17 ?zt34z17 ?qt34z17 ?yt34z17 ?at34z17 ?rt34z17
                    case ht34z17 => (simp only [List.getElem?_toArray, List.getElem?_cons_succ, List.getElem?_cons_zero]; rfl)
                    case st34z17 => kernel_rfl
                    case ft34z17 => kernel_rfl
                    case zt34z17 => kernel_rfl
                    case qt34z17 => exact fun _ _ _ h => h
                    case yt34z17 => (refine Or.inl ⟨rfl, ?_⟩; intro w hSw; (try dsimp only at hSw); go_simp; try with_reducible rfl)
                    case at34z17 => assumption
                    case rt34z17 =>
                    simp only [Act.put, List.setIfInBounds_toArray, List.set_cons_zero, List.set_cons_succ]
                    refine' wpAnyH_take (i := 18) (oi := ?ot35z18) (v := ?vt35z18) ?ht35z18 ?st35z18 ?ft35z18 ?zt35z18 ?qt35z18 ?yt35z18 ?at35z18 ?rt35z18
                    case ht35z18 => (simp only [List.getElem?_toArray, List.getElem?_cons_succ, List.getElem?_cons_zero]; rfl)
                    case st35z18 => kernel_rfl
                    case ft35z18 => kernel_rfl
                    case zt35z18 => kernel_rfl
                    case qt35z18 => exact fun _ _ _ h => h
                    case yt35z18 => (refine Or.inl ⟨rfl, ?_⟩; intro w hSw; (try dsimp only at hSw); go_simp; try with_reducible rfl)
                    case at35z18 => assumption
                    case rt35z18 =>
                    simp only [Act.put, List.setIfInBounds_toArray, List.set_cons_zero, List.set_cons_succ]
                    refine wpAnyH_ready (rs := [19]) (by kernel_rfl) (by simp) ?_
                    refine' AllReadyH.cons (o := ?ob36z19) ?hb36z19 ?kb36z19 AllReadyH.nil
                    case hb36z19 => (simp only [List.getElem?_toArray, List.getElem?_cons_succ, List.getElem?_cons_zero]; rfl)
                    case kb36z19 =>
                      intro K0 hK
                      have cc := (SC33.out.has (Has.l (has_blk g _ _))).cell 2
                      rw [show (#[Value.pointer (some ⟨gs, 0, none⟩), vl, .slice (some ⟨b2, 0, none⟩) N cap2, .int .i64 (m : Int)] : Array Value)[2]? = some (.slice (some ⟨b2, 0, none⟩) N cap2) from rfl] at cc
                      have f2 := (SC33.out.has (Has.l (has_blk g _ _))).free 2
                      go_simp
                      clear cc f2
                      have SD37 := Lib.hid (SC33.out.set (Sets.l (sets_blk g _ _ 2 (.slice A5 N2 c5))))
                      simp only [List.setIfInBounds_toArray, List.set_cons_zero, List.set_cons_succ] at SD37
                      clear SC33
                      generalize World.setCell wc33 _ _ = wd37 at *
                      refine hK.out _ _ ?_ (fun hHeld => ?_)
                      · trivial
                      clear hK K0
                      (try simp only [Act.put, List.setIfInBounds_toArray, List.set_cons_zero, List.set_cons_succ])
                      (try clear hH2)
                      refine wpAnyH_done (by kernel_rfl) ?_ _
                      go_wp2_with fail
                      go_returns
                      refine ⟨rfl, puts S rc, V2, .slice A5 N2 c5, Q2, m, top, ch, HN.out, by omega, hq2, hnm, ?_⟩
                      have eN : N2 = ((P ++ Q2).map du).length := by rw [HN2.out, HN1.out, HNL.out]; simp; omega
                      have eL : ([] ++ poL (P.map du)) ++ poL (Q2.map du) = poL ((P ++ Q2).map du) := by rw [List.map_append, poL_app, List.nil_append]
                      have S9 := SD37.out
                      rw [eL] at S9
                      unfold aWd sPtr
                      rw [← eN]
                      exact (S9.re (show _ = (Asn.vec 80 4 (.slice (some ⟨b2, 0, none⟩) N cap2) N (poL ((P ++ x :: Q2).map du)) * Asn.blk ge 80 #[.int .i64 2, .int .i64 ((x.lv : Int) + 1), .string (ofL x.key), .int .i64 x.page]) * ((Asn.blk g 30 #[.pointer (some ⟨gs, 0, none⟩), vl, .slice A5 N2 c5, .int .i64 m] * (Asn.vec 44 3 vl l.length (cells3 l) * (Asn.vec 80 4 (.slice A5 N2 c5) N2 (poL ((P ++ Q2).map du)) * aSf gs (puts S rc) V2))) * C) by ac_rfl)).right
            case mb13z5 =>
            refine' AllReadyH.cons (o := ?ob38z12) ?hb38z12 ?kb38z12 AllReadyH.nil
            case hb38z12 => (simp only [List.getElem?_toArray, List.getElem?_cons_succ, List.getElem?_cons_zero]; rfl)
            case kb38z12 =>
              intro K0 hK
              have cc := (SA12.out.has (Has.r (Has.l (has_blk g _ _)))).cell 2
              rw [show (#[Value.pointer (some ⟨gs, 0, none⟩), vl, .slice (some ⟨b2, 0, none⟩) N cap2, .int .i64 (m : Int)] : Array Value)[2]? = some (.slice (some ⟨b2, 0, none⟩) N cap2) from rfl] at cc
              go_simp
              clear cc
              refine hK.out _ _ ?_ (fun hHeld => ?_)
              · trivial
              clear hK K0
              (try simp only [Act.put, List.setIfInBounds_toArray, List.set_cons_zero, List.set_cons_succ])
              (try clear hH2)
              refine' wpAnyH_take (i := 15) (oi := ?ot40z15) (v := ?vt40z15) ?ht40z15 ?st40z15 ?ft40z15 ?zt40z15 ?qt40z15 ?yt40z15 ?at40z15 ?rt40z15
              case ht40z15 => (simp only [List.getElem?_toArray, List.getElem?_cons_succ, List.getElem?_cons_zero]; rfl)
              case st40z15 => kernel_rfl
              case ft40z15 => kernel_rfl
              case zt40z15 => kernel_rfl
              case qt40z15 => exact fun _ _ _ h => h
              case yt40z15 => (refine Or.inl ⟨rfl, ?_⟩; intro w hSw; (try dsimp only at hSw); go_simp; try with_reducible rfl)
              case at40z15 => assumption
              case rt40z15 =>
              simp only [Act.put, List.setIfInBounds_toArray, List.set_cons_zero, List.set_cons_succ]
              refine wpAnyH_ready (rs := [5]) (by kernel_rfl) (by simp) ?_
              refine' AllReadyH.cons (o := ?ob41z5) ?hb41z5 ?kb41z5 AllReadyH.nil
              case hb41z5 => (simp only [List.getElem?_toArray, List.getElem?_cons_succ, List.getElem?_cons_zero]; rfl)
              case kb41z5 =>
                intro K0 hK
                have cc := (SA12.out.has (Has.r (Has.l (has_blk g _ _)))).cell 2
                rw [show (#[Value.pointer (some ⟨gs, 0, none⟩), vl, .slice (some ⟨b2, 0, none⟩) N cap2, .int .i64 (m : Int)] : Array Value)[2]? = some (.slice (some ⟨b2, 0, none⟩) N cap2) from rfl] at cc
                go_simp
                clear cc
                refine hK.out _ _ ?_ (fun hHeld => ?_)
                · trivial
                clear hK K0
                (try simp only [Act.put, List.setIfInBounds_toArray, List.set_cons_zero, List.set_cons_succ])
                (try clear hH2)
                refine' wpAnyH_take (i := 7) (oi := ?ot43z7) (v := ?vt43z7) ?ht43z7 ?st43z7 ?ft43z7 ?zt43z7 ?qt43z7 ?yt43z7 ?at43z7 ?rt43z7
                case ht43z7 => (simp only [List.getElem?_toArray, List.getElem?_cons_succ, List.getElem?_cons_zero]; rfl)
                case st43z7 => kernel_rfl
                case ft43z7 => kernel_rfl
                case zt43z7 => kernel_rfl
                case qt43z7 => exact fun _ _ _ h => h
                case yt43z7 => (refine Or.inl ⟨rfl, ?_⟩; intro w hSw; (try dsimp only at hSw); go_simp; try with_reducible rfl)
                case at43z7 => assumption
                case rt43z7 =>
                simp only [Act.put, List.setIfInBounds_toArray, List.set_cons_zero, List.set_cons_succ]
                refine wpAnyH_ready (rs := [8]) (by kernel_rfl) (by simp) ?_
                refine' AllReadyH.cons (o := ?ob44z8) ?hb44z8 ?kb44z8 AllReadyH.nil
                case hb44z8 => (simp only [List.getElem?_toArray, List.getElem?_cons_succ, List.getElem?_cons_zero]; rfl)
                case kb44z8 =>
                  intro K0 hK
                  have hvc := SA12.out.vec
                  have CX : Hid (Src Try.prog 4 28 (.slice (some ⟨b2, 0, none⟩) P.length cap2) P.length (poL (P.map du)) wa12) := Lib.hid (Src.ofSlice _ Try.underlying28 ⟨b2, 0, none⟩ P.length cap2 (poL (P.map du)) (by rw [poL_len, List.length_map]) (fun j u hj => by
                    rw [Addr.add_lit, Nat.zero_add]
                    refine hvc.cell ?_
                    rw [List.map_append, poL_app, List.getElem?_append_left (List.getElem?_eq_some_iff.1 hj).1]
                    exact hj) (fun u hu => poL_one _ u hu))
                  clear hvc
                  have SQ := Lib.hid (SA12.out.re (show _ = Asn.vec 80 4 (.slice (some ⟨gz, 0, none⟩) 0 0) 0 [] * (Asn.vec 80 4 (.slice (some ⟨b2, 0, none⟩) N cap2) N (poL ((P ++ x :: Q2).map du)) * (Asn.blk g 30 #[.pointer (some ⟨gs, 0, none⟩), vl, .slice (some ⟨b2, 0, none⟩) N cap2, .int .i64 m] * (Asn.blk ge 80 #[.int .i64 2, .int .i64 ((x.lv : Int) + 1), .string (ofL x.key), .int .i64 x.page] * (Asn.vec 44 3 vl l.length (cells3 l) * (aSf gs (puts S rc) V2 * C))))) by ac_rfl))
                  clear SA12
                  with_reducible refine step_append_vec rfl (.tmp 65) (.tmp 71) 28 28 rfl 80 _ 4 40 Try.underlying28 infoPost rfl (by decide) (.slice (some ⟨gz, 0, none⟩) 0 0) (0) ([]) rfl SQ.out.vec (.slice (some ⟨b2, 0, none⟩) P.length cap2) rfl (P.length) (poL (P.map du)) CX.out (by  have := HNL.out; unfold maxLen; omega) (by  have := HNL.out; omega) ?_
                  intro v2 wb45 hv hc hf
                  obtain ⟨A4, c4, hv4⟩ := hv.slice
                  subst hv4
                  have S7 := Lib.hid (SQ.out.app hv hc hf)
                  clear SQ CX hv hc hf
                  obtain ⟨N1, hN1⟩ : ∃ N1, N1 = 0 + P.length := ⟨_, rfl⟩
                  rw [← hN1] at S7 ⊢
                  have HN1 := Lib.hid hN1
                  clear hN1
                  have SB45 := Lib.hid (S7.out.re (show _ = Asn.vec 80 4 (.slice (some ⟨b2, 0, none⟩) N cap2) N (poL ((P ++ x :: Q2).map du)) * (Asn.blk g 30 #[.pointer (some ⟨gs, 0, none⟩), vl, .slice (some ⟨b2, 0, none⟩) N cap2, .int .i64 m] * (Asn.vec 80 4 (.slice A4 N1 c4) N1 ([] ++ poL (P.map du)) * (Asn.blk ge 80 #[.int .i64 2, .int .i64 ((x.lv : Int) + 1), .string (ofL x.key), .int .i64 x.page] * (Asn.vec 44 3 vl l.length (cells3 l) * (aSf gs (puts S rc) V2 * C))))) by ac_rfl))
                  clear S7
                  refine hK.out _ _ ?_ (fun hHeld => ?_)
                  · trivial
                  clear hK K0
                  (try simp only [Act.put, List.setIfInBounds_toArray, List.set_cons_zero, List.set_cons_succ])
                  (try clear hH2)
                  refine wpAnyH_ready (rs := [16]) (by kernel_rfl) (by simp) ?_
                  refine' AllReadyH.cons (o := ?ob46z16) ?hb46z16 ?kb46z16 AllReadyH.nil
                  case hb46z16 => (simp only [List.getElem?_toArray, List.getElem?_cons_succ, List.getElem?_cons_zero]; rfl)
                  case kb46z16 =>
                    intro K0 hK
                    have hvc := SB45.out.vec
                    have CX : Hid (Src Try.prog 4 28 (.slice (some pa) (N - (P.length + 1)) (cap2 - (P.length + 1))) (N - (P.length + 1)) (poL (Q2.map du)) wb45) := Lib.hid (Src.ofSlice _ Try.underlying28 pa (N - (P.length + 1)) (cap2 - (P.length + 1)) (poL (Q2.map du)) (by rw [poL_len, List.length_map, HNL.out]; omega) (fun j u hj => by
                      have hjl := (List.getElem?_eq_some_iff.1 hj).1
                      rw [poL_len, List.length_map] at hjl
                      rw [HPA.out (by have := HNL.out; omega), Addr.add_lit]
                      refine hvc.cell ?_
                      have e1 : (P ++ x :: Q2).map du = (P ++ [x]).map du ++ Q2.map du := by simp
                      have e2 : (poL ((P ++ [x]).map du)).length = (P.length + 1) * 4 := by rw [poL_len]; simp
                      rw [e1, poL_app, List.getElem?_append_right (by omega), e2, Nat.add_sub_cancel_left]
                      exact hj) (fun u hu => poL_one _ u hu))
                    clear hvc
                    have SQ := Lib.hid (SB45.out.re (show _ = Asn.vec 80 4 (.slice A4 N1 c4) N1 ([] ++ poL (P.map du)) * (Asn.vec 80 4 (.slice (some ⟨b2, 0, none⟩) N cap2) N (poL ((P ++ x :: Q2).map du)) * (Asn.blk g 30 #[.pointer (some ⟨gs, 0, none⟩), vl, .slice (some ⟨b2, 0, none⟩) N cap2, .int .i64 m] * (Asn.blk ge 80 #[.int .i64 2, .int .i64 ((x.lv : Int) + 1), .string (ofL x.key), .int .i64 x.page] * (Asn.vec 44 3 vl l.length (cells3 l) * (aSf gs (puts S rc) V2 * C))))) by ac_rfl))
                    clear SB45
                    with_reducible refine step_append_vec rfl (.tmp 72) (.tmp 79) 28 28 rfl 80 _ 4 40 Try.underlying28 infoPost rfl (by decide) (.slice A4 N1 c4) (N1) ([] ++ poL (P.map du)) rfl SQ.out.vec (.slice (some pa) (N - (P.length + 1)) (cap2 - (P.length + 1))) rfl (N - (P.length + 1)) (poL (Q2.map du)) CX.out (by have := HN1.out; have := HNL.out; unfold maxLen; omega) (by have := HN1.out; have := HNL.out; omega) ?_
                    intro v2 wc47 hv hc hf
                    obtain ⟨A5, c5, hv4⟩ := hv.slice
                    subst hv4
                    have S7 := Lib.hid (SQ.out.app hv hc hf)
                    clear SQ CX hv hc hf
                    obtain ⟨N2, hN2⟩ : ∃ N2, N2 = N1 + (N - (P.length + 1)) := ⟨_, rfl⟩
                    rw [← hN2] at S7 ⊢
                    have HN2 := Lib.hid hN2
                    clear hN2
                    have SC47 := Lib.hid (S7.out.re (show _ = Asn.blk g 30 #[.pointer (some ⟨gs, 0, none⟩), vl, .slice (some ⟨b2, 0, none⟩) N cap2, .int .i64 m] * (Asn.vec 80 4 (.slice A5 N2 c5) N2 (([] ++ poL (P.map du)) ++ poL (Q2.map du)) * (Asn.vec 80 4 (.slice (some ⟨b2, 0, none⟩) N cap2) N (poL ((P ++ x :: Q2).map du)) * (Asn.blk ge 80 #[.int .i64 2, .int .i64 ((x.lv : Int) + 1), .string (ofL x.key), .int .i64 x.page] * (Asn.vec 44 3 vl l.length (cells3 l) * (aSf gs (puts S rc) V2 * C))))) by ac_rfl))
                    clear S7
                    refine hK.out _ _ ?_ (fun hHeld => ?_)
                    · trivial
                    clear hK K0
                    (try simp only [Act.put, List.setIfInBounds_toArray, List.set_cons_zero, List.set_cons_succ])
                    (try clear hH2)
                    refine' wpAnyH_take (i := 17) (oi := ?ot48z17) (v := ?vt48z17) ?ht48z17 ?st48z17 ?ft48z17 ?zt48z17 ?qt48z17 ?yt48z17 ?at48z17 ?rt48z17
                    case ht48z17 => (simp only [List.getElem?_toArray, List.getElem?_cons_succ, List.getElem?_cons_zero]; rfl)
                    case st48z17 => kernel_rfl
                    case ft48z17 => kernel_rfl
                    case zt48z17 => kernel_rfl
                    case qt48z17 => exact fun _ _ _ h => h
                    case yt48z17 => (refine Or.inl ⟨rfl, ?_⟩; intro w hSw; (try dsimp only at hSw); go_simp; try with_reducible rfl)
                    case at48z17 => assumption
                    case rt48z17 =>
                    simp only [Act.put, List.setIfInBounds_toArray, List.set_cons_zero, List.set_cons_succ]
                    refine' wpAnyH_take (i := 18) (oi := ?ot49z18) (v := ?vt49z18) ?ht49z18 ?st49z18 ?ft49z18 ?zt49z18 ?qt49z18 ?yt49z18 ?at49z18 ?rt49z18
                    case ht49z18 => (simp only [List.getElem?_toArray, List.getElem?_cons_succ, List.getElem?_cons_zero]; rfl)
                    case st49z18 => kernel_rfl
                    case ft49z18 => kernel_rfl
                    case zt49z18 => kernel_rfl
                    case qt49z18 => exact fun _ _ _ h => h
                    case yt49z18 => (refine Or.inl ⟨rfl, ?_⟩; intro w hSw; (try dsimp only at hSw); go_simp; try with_reducible rfl)
                    case at49z18 => assumption
                    case rt49z18 =>
                    simp only [Act.put, List.setIfInBounds_toArray, List.set_cons_zero, List.set_cons_succ]
                    refine wpAnyH_ready (rs := [19]) (by kernel_rfl) (by simp) ?_
                    refine' AllReadyH.cons (o := ?ob50z19) ?hb50z19 ?kb50z19 AllReadyH.nil
                    case hb50z19 => (simp only [List.getElem?_toArray, List.getElem?_cons_succ, List.getElem?_cons_zero]; rfl)
                    case kb50z19 =>
                      intro K0 hK
                      have cc := (SC47.out.has (Has.l (has_blk g _ _))).cell 2
                      rw [show (#[Value.pointer (some ⟨gs, 0, none⟩), vl, .slice (some ⟨b2, 0, none⟩) N cap2, .int .i64 (m : Int)] : Array Value)[2]? = some (.slice (some ⟨b2, 0, none⟩) N cap2) from rfl] at cc
                      have f2 := (SC47.out.has (Has.l (has_blk g _ _))).free 2
                      go_simp
                      clear cc f2
                      have SD51 := Lib.hid (SC47.out.set (Sets.l (sets_blk g _ _ 2 (.slice A5 N2 c5))))
                      simp only [List.setIfInBounds_toArray, List.set_cons_zero, List.set_cons_succ] at SD51
                      clear SC47
                      generalize World.setCell wc47 _ _ = wd51 at *
                      refine hK.out _ _ ?_ (fun hHeld => ?_)
                      · trivial
                      clear hK K0
                      (try simp only [Act.put, List.setIfInBounds_toArray, List.set_cons_zero, List.set_cons_succ])
                      (try clear hH2)
                      refine wpAnyH_done (by kernel_rfl) ?_ _
                      go_wp2_with fail
                      go_returns
                      refine ⟨rfl, puts S rc, V2, .slice A5 N2 c5, Q2, m, top, ch, HN.out, by omega, hq2, hnm, ?_⟩
                      have eN : N2 = ((P ++ Q2).map du).length := by rw [HN2.out, HN1.out, HNL.out]; simp; omega
                      have eL : ([] ++ poL (P.map du)) ++ poL (Q2.map du) = poL ((P ++ Q2).map du) := by rw [List.map_append, poL_app, List.nil_append]
                      have S9 := SD51.out
                      rw [eL] at S9
                      unfold aWd sPtr
                      rw [← eN]
                      exact (S9.re (show _ = (Asn.vec 80 4 (.slice (some ⟨b2, 0, none⟩) N cap2) N (poL ((P ++ x :: Q2).map du)) * Asn.blk ge 80 #[.int .i64 2, .int .i64 ((x.lv : Int) + 1), .string (ofL x.key), .int .i64 x.page]) * ((Asn.blk g 30 #[.pointer (some ⟨gs, 0, none⟩), vl, .slice A5 N2 c5, .int .i64 m] * (Asn.vec 44 3 vl l.length (cells3 l) * (Asn.vec 80 4 (.slice A5 N2 c5) N2 (poL ((P ++ Q2).map du)) * aSf gs (puts S rc) V2))) * C) by ac_rfl)).right
          case mb11z1 =>
          refine' AllReadyH.cons (o := ?ob52z5) ?hb52z5 ?kb52z5 ?mb52z5
          case hb52z5 => (simp only [List.getElem?_toArray, List.getElem?_cons_succ, List.getElem?_cons_zero]; rfl)
          case kb52z5 =>
            intro K0 hK
            have cc := (S5.out.has (Has.r (Has.l (has_blk g _ _)))).cell 2
            rw [show (#[Value.pointer (some ⟨gs, 0, none⟩), vl, .slice (some ⟨b2, 0, none⟩) N cap2, .int .i64 (m : Int)] : Array Value)[2]? = some (.slice (some ⟨b2, 0, none⟩) N cap2) from rfl] at cc
            go_simp
            clear cc
            refine hK.out _ _ ?_ (fun hHeld => ?_)
            · trivial
            clear hK K0
            (try simp only [Act.put, List.setIfInBounds_toArray, List.set_cons_zero, List.set_cons_succ])
            (try clear hH2)
            refine' wpAnyH_take (i := 7) (oi := ?ot54z7) (v := ?vt54z7) ?ht54z7 ?st54z7 ?ft54z7 ?zt54z7 ?qt54z7 ?yt54z7 ?at54z7 ?rt54z7
            case ht54z7 => (simp only [List.getElem?_toArray, List.getElem?_cons_succ, List.getElem?_cons_zero]; rfl)
            case st54z7 => kernel_rfl
            case ft54z7 => kernel_rfl
            case zt54z7 => kernel_rfl
            case qt54z7 => exact fun _ _ _ h => h
            case yt54z7 => (refine Or.inl ⟨rfl, ?_⟩; intro w hSw; (try dsimp only at hSw); go_simp; try with_reducible rfl)
            case at54z7 => assumption
            case rt54z7 =>
            simp only [Act.put, List.setIfInBounds_toArray, List.set_cons_zero, List.set_cons_succ]
            refine wpAnyH_ready (rs := [1, 12]) (by kernel_rfl) (by simp) ?_
            refine' AllReadyH.cons (o := ?ob55z1) ?hb55z1 ?kb55z1 ?mb55z1
            case hb55z1 => (simp only [List.getElem?_toArray, List.getElem?_cons_succ, List.getElem?_cons_zero]; rfl)
            case kb55z1 =>
              intro K0 hK
              go_simp
              obtain ⟨gz, hgz⟩ : ∃ g, g = w5.heap.size := ⟨_, rfl⟩
              have SA56 := Lib.hid (((S5.out.alloc #[] 80).imp (Imp.l (blk_vec (cs := []) 0 4 rfl (by decide)))))
              rw [← hgz] at SA56 ⊢
              clear hgz S5
              generalize World.alloc w5 _ = wa56 at *
              have SA56 := Lib.hid (SA56.out.re (show _ = Asn.vec 80 4 (.slice (some ⟨b2, 0, none⟩) N cap2) N (poL ((P ++ x :: Q2).map du)) * (Asn.blk g 30 #[.pointer (some ⟨gs, 0, none⟩), vl, .slice (some ⟨b2, 0, none⟩) N cap2, .int .i64 m] * (Asn.vec 80 4 (.slice (some ⟨gz, 0, none⟩) 0 0) 0 [] * ((Asn.blk ge 80 #[.int .i64 2, .int .i64 ((x.lv : Int) + 1), .string (ofL x.key), .int .i64 x.page] * (Asn.vec 44 3 vl l.length (cells3 l) * (aSf gs (puts S rc) V2 * C)))))) by ac_rfl))
              refine hK.out _ _ ?_ (fun hHeld => ?_)
              · trivial
              clear hK K0
              (try simp only [Act.put, List.setIfInBounds_toArray, List.set_cons_zero, List.set_cons_succ])
              (try clear hH2)
              refine wpAnyH_ready (rs := [8, 12]) (by kernel_rfl) (by simp) ?_
              refine' AllReadyH.cons (o := ?ob57z8) ?hb57z8 ?kb57z8 ?mb57z8
              case hb57z8 => (simp only [List.getElem?_toArray, List.getElem?_cons_succ, List.getElem?_cons_zero]; rfl)
              case kb57z8 =>
                intro K0 hK
                have hvc := SA56.out.vec
                have CX : Hid (Src Try.prog 4 28 (.slice (some ⟨b2, 0, none⟩) P.length cap2) P.length (poL (P.map du)) wa56) := Lib.hid (Src.ofSlice _ Try.underlying28 ⟨b2, 0, none⟩ P.length cap2 (poL (P.map du)) (by rw [poL_len, List.length_map]) (fun j u hj => by
                  rw [Addr.add_lit, Nat.zero_add]
                  refine hvc.cell ?_
                  rw [List.map_append, poL_app, List.getElem?_append_left (List.getElem?_eq_some_iff.1 hj).1]
                  exact hj) (fun u hu => poL_one _ u hu))
                clear hvc
                have SQ := Lib.hid (SA56.out.re (show _ = Asn.vec 80 4 (.slice (some ⟨gz, 0, none⟩) 0 0) 0 [] * (Asn.vec 80 4 (.slice (some ⟨b2, 0, none⟩) N cap2) N (poL ((P ++ x :: Q2).map du)) * (Asn.blk g 30 #[.pointer (some ⟨gs, 0, none⟩), vl, .slice (some ⟨b2, 0, none⟩) N cap2, .int .i64 m] * (Asn.blk ge 80 #[.int .i64 2, .int .i64 ((x.lv : Int) + 1), .string (ofL x.key), .int .i64 x.page] * (Asn.vec 44 3 vl l.length (cells3 l) * (aSf gs (puts S rc) V2 * C))))) by ac_rfl))
                clear SA56
                with_reducible refine step_append_vec rfl (.tmp 65) (.tmp 71) 28 28 rfl 80 _ 4 40 Try.underlying28 infoPost rfl (by decide) (.slice (some ⟨gz, 0, none⟩) 0 0) (0) ([]) rfl SQ.out.vec (.slice (some ⟨b2, 0, none⟩) P.length cap2) rfl (P.length) (poL (P.map du)) CX.out (by  have := HNL.out; unfold maxLen; omega) (by  have := HNL.out; omega) ?_
                intro v2 wb58 hv hc hf
                obtain ⟨A4, c4, hv4⟩ := hv.slice
                subst hv4
                have S7 := Lib.hid (SQ.out.app hv hc hf)
                clear SQ CX hv hc hf
                obtain ⟨N1, hN1⟩ : ∃ N1, N1 = 0 + P.length := ⟨_, rfl⟩
                rw [← hN1] at S7 ⊢
                have HN1 := Lib.hid hN1
                clear hN1
                have SB58 := Lib.hid (S7.out.re (show _ = Asn.vec 80 4 (.slice (some ⟨b2, 0, none⟩) N cap2) N (poL ((P ++ x :: Q2).map du)) * (Asn.blk g 30 #[.pointer (some ⟨gs, 0, none⟩), vl, .slice (some ⟨b2, 0, none⟩) N cap2, .int .i64 m] * (Asn.vec 80 4 (.slice A4 N1 c4) N1 ([] ++ poL (P.map du)) * (Asn.blk ge 80 #[.int .i64 2, .int .i64 ((x.lv : Int) + 1), .string (ofL x.key), .int .i64 x.page] * (Asn.vec 44 3 vl l.length (cells3 l) * (aSf gs (puts S rc) V2 * C))))) by ac_rfl))
                clear S7
                refine hK.out _ _ ?_ (fun hHeld => ?_)
                · trivial
                clear hK K0
                (try simp only [Act.put, List.setIfInBounds_toArray, List.set_cons_zero, List.set_cons_succ])
                (try clear hH2)
                refine wpAnyH_ready (rs := [12]) (by kernel_rfl) (by simp) ?_
                refine' AllReadyH.cons (o := ?ob59z12) ?hb59z12 ?kb59z12 AllReadyH.nil
                case hb59z12 => (simp only [List.getElem?_toArray, List.getElem?_cons_succ, List.getElem?_cons_zero]; rfl)
                case kb59z12 =>
                  intro K0 hK
                  have cc := (SB58.out.has (Has.r (Has.l (has_blk g _ _)))).cell 2
                  rw [show (#[Value.pointer (some ⟨gs, 0, none⟩), vl, .slice (some ⟨b2, 0, none⟩) N cap2, .int .i64 (m : Int)] : Array Value)[2]? = some (.slice (some ⟨b2, 0, none⟩) N cap2) from rfl] at cc
                  go_simp
                  clear cc
                  refine hK.out _ _ ?_ (fun hHeld => ?_)
                  · trivial
                  clear hK K0
                  (try simp only [Act.put, List.setIfInBounds_toArray, List.set_cons_zero, List.set_cons_succ])
                  (try clear hH2)
                  refine' wpAnyH_take (i := 15) (oi := ?ot61z15) (v := ?vt61z15) ?ht61z15 ?st61z15 ?ft61z15 ?zt61z15 ?qt61z15 ?yt61z15 ?at61z15 ?rt61z15
                  case ht61z15 => (simp only [List.getElem?_toArray, List.getElem?_cons_succ, List.getElem?_cons_zero]; rfl)
                  case st61z15 => kernel_rfl
                  case ft61z15 => kernel_rfl
                  case zt61z15 => kernel_rfl
                  case qt61z15 => exact fun _ _ _ h => h
                  case yt61z15 => (refine Or.inl ⟨rfl, ?_⟩; intro w hSw; (try dsimp only at hSw); go_simp; try with_reducible rfl)
                  case at61z15 => assumption
                  case rt61z15 =>
                  simp only [Act.put, List.setIfInBounds_toArray, List.set_cons_zero, List.set_cons_succ]
                  refine wpAnyH_ready (rs := [16]) (by kernel_rfl) (by simp) ?_
                  refine' AllReadyH.cons (o := ?ob62z16) ?hb62z16 ?kb62z16 AllReadyH.nil
                  case hb62z16 => (simp only [List.getElem?_toArray, List.getElem?_cons_succ, List.getElem?_cons_zero]; rfl)
                  case kb62z16 =>
                    intro K0 hK
                    have hvc := SB58.out.vec
                    have CX : Hid (Src Try.prog 4 28 (.slice (some pa) (N - (P.length + 1)) (cap2 - (P.length + 1))) (N - (P.length + 1)) (poL (Q2.map du)) wb58) := Lib.hid (Src.ofSlice _ Try.underlying28 pa (N - (P.length + 1)) (cap2 - (P.length + 1)) (poL (Q2.map du)) (by rw [poL_len, List.length_map, HNL.out]; omega) (fun j u hj => by
                      have hjl := (List.getElem?_eq_some_iff.1 hj).1
                      rw [poL_len, List.length_map] at hjl
                      rw [HPA.out (by have := HNL.out; omega), Addr.add_lit]
                      refine hvc.cell ?_
                      have e1 : (P ++ x :: Q2).map du = (P ++ [x]).map du ++ Q2.map du := by simp
                      have e2 : (poL ((P ++ [x]).map du)).length = (P.length + 1) * 4 := by rw [poL_len]; simp
                      rw [e1, poL_app, List.getElem?_append_right (by omega), e2, Nat.add_sub_cancel_left]
                      exact hj) (fun u hu => poL_one _ u hu))
                    clear hvc
                    have SQ := Lib.hid (SB58.out.re (show _ = Asn.vec 80 4 (.slice A4 N1 c4) N1 ([] ++ poL (P.map du)) * (Asn.vec 80 4 (.slice (some ⟨b2, 0, none⟩) N cap2) N (poL ((P ++ x :: Q2).map du)) * (Asn.blk g 30 #[.pointer (some ⟨gs, 0, none⟩), vl, .slice (some ⟨b2, 0, none⟩) N cap2, .int .i64 m] * (Asn.blk ge 80 #[.int .i64 2, .int .i64 ((x.lv : Int) + 1), .string (ofL x.key), .int .i64 x.page] * (Asn.vec 44 3 vl l.length (cells3 l) * (aSf gs (puts S rc) V2 * C))))) by ac_rfl))
                    clear SB58
                    with_reducible refine step_append_vec rfl (.tmp 72) (.tmp 79) 28 28 rfl 80 _ 4 40 Try.underlying28 infoPost rfl (by decide) (.slice A4 N1 c4) (N1) ([] ++ poL (P.map du)) rfl SQ.out.vec (.slice (some pa) (N - (P.length + 1)) (cap2 - (P.length + 1))) rfl (N - (P.length + 1)) (poL (Q2.map du)) CX.out (by have := HN1.out; have := HNL.out; unfold maxLen; omega) (by have := HN1.out; have := HNL.out; omega) ?_
                    intro v2 wc63 hv hc hf
                    obtain ⟨A5, c5, hv4⟩ := hv.slice
                    subst hv4
                    have S7 := Lib.hid (SQ.out.app hv hc hf)
                    clear SQ CX hv hc hf
                    obtain ⟨N2, hN2⟩ : ∃ N2, N2 = N1 + (N - (P.length + 1)) := ⟨_, rfl⟩
                    rw [← hN2] at S7 ⊢
                    have HN2 := Lib.hid hN2
                    clear hN2
                    have SC63 := Lib.hid (S7.out.re (show _ = Asn.blk g 30 #[.pointer (some ⟨gs, 0, none⟩), vl, .slice (some ⟨b2, 0, none⟩) N cap2, .int .i64 m] * (Asn.vec 80 4 (.slice A5 N2 c5) N2 (([] ++ poL (P.map du)) ++ poL (Q2.map du)) * (Asn.vec 80 4 (.slice (some ⟨b2, 0, none⟩) N cap2) N (poL ((P ++ x :: Q2).map du)) * (Asn.blk ge 80 #[.int .i64 2, .int .i64 ((x.lv : Int) + 1), .string (ofL x.key), .int .i64 x.page] * (Asn.vec 44 3 vl l.length (cells3 l) * (aSf gs (puts S rc) V2 * C))))) by ac_rfl))
                    clear S7
                    refine hK.out _ _ ?_ (fun hHeld => ?_)
                    · trivial
                    clear hK K0
                    (try simp only [Act.put, List.setIfInBounds_toArray, List.set_cons_zero, List.set_cons_succ])
                    (try clear hH2)
                    refine' wpAnyH_take (i := 17) (oi := ?ot64z17) (v := ?vt64z17) ?ht64z17 ?st64z17 ?ft64z17 ?zt64z17 ?qt64z17 ?yt64z17 ?at64z17 ?rt64z17
                    case ht64z17 => (simp only [List.getElem?_toArray, List.getElem?_cons_succ, List.getElem?_cons_zero]; rfl)
                    case st64z17 => kernel_rfl
                    case ft64z17 => kernel_rfl
                    case zt64z17 => kernel_rfl
                    case qt64z17 => exact fun _ _ _ h => h
                    case yt64z17 => (refine Or.inl ⟨rfl, ?_⟩; intro w hSw; (try dsimp only at hSw); go_simp; try with_reducible rfl)
                    case at64z17 => assumption
                    case rt64z17 =>
                    simp only [Act.put, List.setIfInBounds_toArray, List.set_cons_zero, List.set_cons_succ]
                    refine' wpAnyH_take (i := 18) (oi := ?ot65z18) (v := ?vt65z18) ?ht65z18 ?st65z18 ?ft65z18 ?zt65z18 ?qt65z18 ?yt65z18 ?at65z18 ?rt65z18
                    case ht65z18 => (simp only [List.getElem?_toArray, List.getElem?_cons_succ, List.getElem?_cons_zero]; rfl)
                    case st65z18 => kernel_rfl
                    case ft65z18 => kernel_rfl
                    case zt65z18 => kernel_rfl
                    case qt65z18 => exact fun _ _ _ h => h
                    case yt65z18 => (refine Or.inl ⟨rfl, ?_⟩; intro w hSw; (try dsimp only at hSw); go_simp; try with_reducible rfl)
                    case at65z18 => assumption
                    case rt65z18 =>
                    simp only [Act.put, List.setIfInBounds_toArray, List.set_cons_zero, List.set_cons_succ]
                    refine wpAnyH_ready (rs := [19]) (by kernel_rfl) (by simp) ?_
                    refine' AllReadyH.cons (o := ?ob66z19) ?hb66z19 ?kb66z19 AllReadyH.nil
                    case hb66z19 => (simp only [List.getElem?_toArray, List.getElem?_cons_succ, List.getElem?_cons_zero]; rfl)
                    case kb66z19 =>
                      intro K0 hK
                      have cc := (SC63.out.has (Has.l (has_blk g _ _))).cell 2
                      rw [show (#[Value.pointer (some ⟨gs, 0, none⟩), vl, .slice (some ⟨b2, 0, none⟩) N cap2, .int .i64 (m : Int)] : Array Value)[2]? = some (.slice (some ⟨b2, 0, none⟩) N cap2) from rfl] at cc
                      have f2 := (SC63.out.has (Has.l (has_blk g _ _))).free 2
                      go_simp
                      clear cc f2
                      have SD67 := Lib.hid (SC63.out.set (Sets.l (sets_blk g _ _ 2 (.slice A5 N2 c5))))
                      simp only [List.setIfInBounds_toArray, List.set_cons_zero, List.set_cons_succ] at SD67
                      clear SC63
                      generalize World.setCell wc63 _ _ = wd67 at *
                      refine hK.out _ _ ?_ (fun hHeld => ?_)
                      · trivial
                      clear hK K0
                      (try simp only [Act.put, List.setIfInBounds_toArray, List.set_cons_zero, List.set_cons_succ])
                      (try clear hH2)
                      refine wpAnyH_done (by kernel_rfl) ?_ _
                      go_wp2_with fail
                      go_returns
                      refine ⟨rfl, puts S rc, V2, .slice A5 N2 c5, Q2, m, top, ch, HN.out, by omega, hq2, hnm, ?_⟩
                      have eN : N2 = ((P ++ Q2).map du).length := by rw [HN2.out, HN1.out, HNL.out]; simp; omega
                      have eL : ([] ++ poL (P.map du)) ++ poL (Q2.map du) = poL ((P ++ Q2).map du) := by rw [List.map_append, poL_app, List.nil_append]
                      have S9 := SD67.out
                      rw [eL] at S9
                      unfold aWd sPtr
                      rw [← eN]
                      exact (S9.re (show _ = (Asn.vec 80 4 (.slice (some ⟨b2, 0, none⟩) N cap2) N (poL ((P ++ x :: Q2).map du)) * Asn.blk ge 80 #[.int .i64 2, .int .i64 ((x.lv : Int) + 1), .string (ofL x.key), .int .i64 x.page]) * ((Asn.blk g 30 #[.pointer (some ⟨gs, 0, none⟩), vl, .slice A5 N2 c5, .int .i64 m] * (Asn.vec 44 3 vl l.length (cells3 l) * (Asn.vec 80 4 (.slice A5 N2 c5) N2 (poL ((P ++ Q2).map du)) * aSf gs (puts S rc) V2))) * C) by ac_rfl)).right
              case mb57z8 =>
              refine' AllReadyH.cons (o := ?ob68z12) ?hb68z12 ?kb68z12 AllReadyH.nil
              case hb68z12 => (simp only [List.getElem?_toArray, List.getElem?_cons_succ, List.getElem?_cons_zero]; rfl)
              case kb68z12 =>
                intro K0 hK
                have cc := (SA56.out.has (Has.r (Has.l (has_blk g _ _)))).cell 2
                rw [show (#[Value.pointer (some ⟨gs, 0, none⟩), vl, .slice (some ⟨b2, 0, none⟩) N cap2, .int .i64 (m : Int)] : Array Value)[2]? = some (.slice (some ⟨b2, 0, none⟩) N cap2) from rfl] at cc
                go_simp
                clear cc
                refine hK.out _ _ ?_ (fun hHeld => ?_)
                · trivial
                clear hK K0
                (try simp only [Act.put, List.setIfInBounds_toArray, List.set_cons_zero, List.set_cons_succ])
                (try clear hH2)
                refine' wpAnyH_take (i := 15) (oi := ?ot70z15) (v := ?vt70z15) ?ht70z15 ?st70z15 ?ft70z15 ?zt70z15 ?qt70z15 ?yt70z15 ?at70z15 ?rt70z15
                case ht70z15 => (simp only [List.getElem?_toArray, List.getElem?_cons_succ, List.getElem?_cons_zero]; rfl)
                case st70z15 => kernel_rfl
                case ft70z15 => kernel_rfl
                case zt70z15 => kernel_rfl
                case qt70z15 => exact fun _ _ _ h => h
                case yt70z15 => (refine Or.inl ⟨rfl, ?_⟩; intro w hSw; (try dsimp only at hSw); go_simp; try with_reducible rfl)
                case at70z15 => assumption
                case rt70z15 =>
                simp only [Act.put, List.setIfInBounds_toArray, List.set_cons_zero, List.set_cons_succ]
                refine wpAnyH_ready (rs := [8]) (by kernel_rfl) (by simp) ?_
                refine' AllReadyH.cons (o := ?ob71z8) ?hb71z8 ?kb71z8 AllReadyH.nil
                case hb71z8 => (simp only [List.getElem?_toArray, List.getElem?_cons_succ, List.getElem?_cons_zero]; rfl)
                case kb71z8 =>
                  intro K0 hK
                  have hvc := SA56.out.vec
                  have CX : Hid (Src Try.prog 4 28 (.slice (some ⟨b2, 0, none⟩) P.length cap2) P.length (poL (P.map du)) wa56) := Lib.hid (Src.ofSlice _ Try.underlying28 ⟨b2, 0, none⟩ P.length cap2 (poL (P.map du)) (by rw [poL_len, List.length_map]) (fun j u hj => by
                    rw [Addr.add_lit, Nat.zero_add]
                    refine hvc.cell ?_
                    rw [List.map_append, poL_app, List.getElem?_append_left (List.getElem?_eq_some_iff.1 hj).1]
                    exact hj) (fun u hu => poL_one _ u hu))
                  clear hvc
                  have SQ := Lib.hid (SA56.out.re (show _ = Asn.vec 80 4 (.slice (some ⟨gz, 0, none⟩) 0 0) 0 [] * (Asn.vec 80 4 (.slice (some ⟨b2, 0, none⟩) N cap2) N (poL ((P ++ x :: Q2).map du)) * (Asn.blk g 30 #[.pointer (some ⟨gs, 0, none⟩), vl, .slice (some ⟨b2, 0, none⟩) N cap2, .int .i64 m] * (Asn.blk ge 80 #[.int .i64 2, .int .i64 ((x.lv : Int) + 1), .string (ofL x.key), .int .i64 x.page] * (Asn.vec 44 3 vl l.length (cells3 l) * (aSf gs (puts S rc) V2 * C))))) by ac_rfl))
                  clear SA56
                  with_reducible refine step_append_vec rfl (.tmp 65) (.tmp 71) 28 28 rfl 80 _ 4 40 Try.underlying28 infoPost rfl (by decide) (.slice (some ⟨gz, 0, none⟩) 0 0) (0) ([]) rfl SQ.out.vec (.slice (some ⟨b2, 0, none⟩) P.length cap2) rfl (P.length) (poL (P.map du)) CX.out (by  have := HNL.out; unfold maxLen; omega) (by  have := HNL.out; omega) ?_
                  intro v2 wb72 hv hc hf
                  obtain ⟨A4, c4, hv4⟩ := hv.slice
                  subst hv4
                  have S7 := Lib.hid (SQ.out.app hv hc hf)
                  clear SQ CX hv hc hf
                  obtain ⟨N1, hN1⟩ : ∃ N1, N1 = 0 + P.length := ⟨_, rfl⟩
                  rw [← hN1] at S7 ⊢
                  have HN1 := Lib.hid hN1
                  clear hN1
                  have SB72 := Lib.hid (S7.out.re (show _ = Asn.vec 80 4 (.slice (some ⟨b2, 0, none⟩) N cap2) N (poL ((P ++ x :: Q2).map du)) * (Asn.blk g 30 #[.pointer (some ⟨gs, 0, none⟩), vl, .slice (some ⟨b2, 0, none⟩) N cap2, .int .i64 m] * (Asn.vec 80 4 (.slice A4 N1 c4) N1 ([] ++ poL (P.map du)) * (Asn.blk ge 80 #[.int .i64 2, .int .i64 ((x.lv : Int) + 1), .string (ofL x.key), .int .i64 x.page] * (Asn.vec 44 3 vl l.length (cells3 l) * (aSf gs (puts S rc) V2 * C))))) by ac_rfl))
                  clear S7
                  refine hK.out _ _ ?_ (fun hHeld => ?_)
                  · trivial
                  clear hK K0
                  (try simp only [Act.put, List.setIfInBounds_toArray, List.set_cons_zero, List.set_cons_succ])
                  (try clear hH2)
                  refine wpAnyH_ready (rs := [16]) (by kernel_rfl) (by simp) ?_
                  refine' AllReadyH.cons (o := ?ob73z16) ?hb73z16 ?kb73z16 AllReadyH.nil
                  case hb73z16 => (simp only [List.getElem?_toArray, List.getElem?_cons_succ, List.getElem?_cons_zero]; rfl)
                  case kb73z16 =>
                    intro K0 hK
                    have hvc := SB72.out.vec
                    have CX : Hid (Src Try.prog 4 28 (.slice (some pa) (N - (P.length + 1)) (cap2 - (P.length + 1))) (N - (P.length + 1)) (poL (Q2.map du)) wb72) := Lib.hid (Src.ofSlice _ Try.underlying28 pa (N - (P.length + 1)) (cap2 - (P.length + 1)) (poL (Q2.map du)) (by rw [poL_len, List.length_map, HNL.out]; omega) (fun j u hj => by
                      have hjl := (List.getElem?_eq_some_iff.1 hj).1
                      rw [poL_len, List.length_map] at hjl
                      rw [HPA.out (by have := HNL.out; omega), Addr.add_lit]
                      refine hvc.cell ?_
                      have e1 : (P ++ x :: Q2).map du = (P ++ [x]).map du ++ Q2.map du := by simp
                      have e2 : (poL ((P ++ [x]).map du)).length = (P.length + 1) * 4 := by rw [poL_len]; simp
                      rw [e1, poL_app, List.getElem?_append_right (by omega), e2, Nat.add_sub_cancel_left]
                      exact hj) (fun u hu => poL_one _ u hu))
                    clear hvc
                    have SQ := Lib.hid (SB72.out.re (show _ = Asn.vec 80 4 (.slice A4 N1 c4) N1 ([] ++ poL (P.map du)) * (Asn.vec 80 4 (.slice (some ⟨b2, 0, none⟩) N cap2) N (poL ((P ++ x :: Q2).map du)) * (Asn.blk g 30 #[.pointer (some ⟨gs, 0, none⟩), vl, .slice (some ⟨b2, 0, none⟩) N cap2, .int .i64 m] * (Asn.blk ge 80 #[.int .i64 2, .int .i64 ((x.lv : Int) + 1), .string (ofL x.key), .int .i64 x.page] * (Asn.vec 44 3 vl l.length (cells3 l) * (aSf gs (puts S rc) V2 * C))))) by ac_rfl))
                    clear SB72
                    with_reducible refine step_append_vec rfl (.tmp 72) (.tmp 79) 28 28 rfl 80 _ 4 40 Try.underlying28 infoPost rfl (by decide) (.slice A4 N1 c4) (N1) ([] ++ poL (P.map du)) rfl SQ.out.vec (.slice (some pa) (N - (P.length + 1)) (cap2 - (P.length + 1))) rfl (N - (P.length + 1)) (poL (Q2.map du)) CX.out (by have := HN1.out; have := HNL.out; unfold maxLen; omega) (by have := HN1.out; have := HNL.out; omega) ?_
                    intro v2 wc74 hv hc hf
                    obtain ⟨A5, c5, hv4⟩ := hv.slice
                    subst hv4
                    have S7 := Lib.hid (SQ.out.app hv hc hf)
                    clear SQ CX hv hc hf
                    obtain ⟨N2, hN2⟩ : ∃ N2, N2 = N1 + (N - (P.length + 1)) := ⟨_, rfl⟩
                    rw [← hN2] at S7 ⊢
                    have HN2 := Lib.hid hN2
                    clear hN2
                    have SC74 := Lib.hid (S7.out.re (show _ = Asn.blk g 30 #[.pointer (some ⟨gs, 0, none⟩), vl, .slice (some ⟨b2, 0, none⟩) N cap2, .int .i64 m] * (Asn.vec 80 4 (.slice A5 N2 c5) N2 (([] ++ poL (P.map du)) ++ poL (Q2.map du)) * (Asn.vec 80 4 (.slice (some ⟨b2, 0, none⟩) N cap2) N (poL ((P ++ x :: Q2).map du)) * (Asn.blk ge 80 #[.int .i64 2, .int .i64 ((x.lv : Int) + 1), .string (ofL x.key), .int .i64 x.page] * (Asn.vec 44 3 vl l.length (cells3 l) * (aSf gs (puts S rc) V2 * C))))) by ac_rfl))
                    clear S7
                    refine hK.out _ _ ?_ (fun hHeld => ?_)
                    · trivial
                    clear hK K0
                    (try simp only [Act.put, List.setIfInBounds_toArray, List.set_cons_zero, List.set_cons_succ])
                    (try clear hH2)
                    refine' wpAnyH_take (i := 17) (oi := ?ot75z17) (v := ?vt75z17) ?ht75z17 ?st75z17 ?ft75z17 ?zt75z17 ?qt75z17 ?yt75z17 ?at75z17 ?rt75z17
                    case ht75z17 => (simp only [List.getElem?_toArray, List.getElem?_cons_succ, List.getElem?_cons_zero]; rfl)
                    case st75z17 => kernel_rfl
                    case ft75z17 => kernel_rfl
                    case zt75z17 => kernel_rfl
                    case qt75z17 => exact fun _ _ _ h => h
                    case yt75z17 => (refine Or.inl ⟨rfl, ?_⟩; intro w hSw; (try dsimp only at hSw); go_simp; try with_reducible rfl)
                    case at75z17 => assumption
                    case rt75z17 =>
                    simp only [Act.put, List.setIfInBounds_toArray, List.set_cons_zero, List.set_cons_succ]
                    refine' wpAnyH_take (i := 18) (oi := ?ot76z18) (v := ?vt76z18) ?ht76z18 ?st76z18 ?ft76z18 ?zt76z18 ?qt76z18 ?yt76z18 ?at76z18 ?rt76z18
                    case ht76z18 => (simp only [List.getElem?_toArray, List.getElem?_cons_succ, List.getElem?_cons_zero]; rfl)
                    case st76z18 => kernel_rfl
                    case ft76z18 => kernel_rfl
                    case zt76z18 => kernel_rfl
                    case qt76z18 => exact fun _ _ _ h => h
                    case yt76z18 => (refine Or.inl ⟨rfl, ?_⟩; intro w hSw; (try dsimp only at hSw); go_simp; try with_reducible rfl)
                    case at76z18 => assumption
                    case rt76z18 =>
                    simp only [Act.put, List.setIfInBounds_toArray, List.set_cons_zero, List.set_cons_succ]
                    refine wpAnyH_ready (rs := [19]) (by kernel_rfl) (by simp) ?_
                    refine' AllReadyH.cons (o := ?ob77z19) ?hb77z19 ?kb77z19 AllReadyH.nil
                    case hb77z19 => (simp only [List.getElem?_toArray, List.getElem?_cons_succ, List.getElem?_cons_zero]; rfl)
                    case kb77z19 =>
                      intro K0 hK
                      have cc := (SC74.out.has (Has.l (has_blk g _ _))).cell 2
                      rw [show (#[Value.pointer (some ⟨gs, 0, none⟩), vl, .slice (some ⟨b2, 0, none⟩) N cap2, .int .i64 (m : Int)] : Array Value)[2]? = some (.slice (some ⟨b2, 0, none⟩) N cap2) from rfl] at cc
                      have f2 := (SC74.out.has (Has.l (has_blk g _ _))).free 2
                      go_simp
                      clear cc f2
                      have SD78 := Lib.hid (SC74.out.set (Sets.l (sets_blk g _ _ 2 (.slice A5 N2 c5))))
                      simp only [List.setIfInBounds_toArray, List.set_cons_zero, List.set_cons_succ] at SD78
                      clear SC74
                      generalize World.setCell wc74 _ _ = wd78 at *
                      refine hK.out _ _ ?_ (fun hHeld => ?_)
                      · trivial
                      clear hK K0
                      (try simp only [Act.put, List.setIfInBounds_toArray, List.set_cons_zero, List.set_cons_succ])
                      (try clear hH2)
                      refine wpAnyH_done (by kernel_rfl) ?_ _
                      go_wp2_with fail
                      go_returns
                      refine ⟨rfl, puts S rc, V2, .slice A5 N2 c5, Q2, m, top, ch, HN.out, by omega, hq2, hnm, ?_⟩
                      have eN : N2 = ((P ++ Q2).map du).length := by rw [HN2.out, HN1.out, HNL.out]; simp; omega
                      have eL : ([] ++ poL (P.map du)) ++ poL (Q2.map du) = poL ((P ++ Q2).map du) := by rw [List.map_append, poL_app, List.nil_append]
                      have S9 := SD78.out
                      rw [eL] at S9
                      unfold aWd sPtr
                      rw [← eN]
                      exact (S9.re (show _ = (Asn.vec 80 4 (.slice (some ⟨b2, 0, none⟩) N cap2) N (poL ((P ++ x :: Q2).map du)) * Asn.blk ge 80 #[.int .i64 2, .int .i64 ((x.lv : Int) + 1), .string (ofL x.key), .int .i64 x.page]) * ((Asn.blk g 30 #[.pointer (some ⟨gs, 0, none⟩), vl, .slice A5 N2 c5, .int .i64 m] * (Asn.vec 44 3 vl l.length (cells3 l) * (Asn.vec 80 4 (.slice A5 N2 c5) N2 (poL ((P ++ Q2).map du)) * aSf gs (puts S rc) V2))) * C) by ac_rfl)).right
            case mb55z1 =>
            refine' AllReadyH.cons (o := ?ob79z12) ?hb79z12 ?kb79z12 AllReadyH.nil
            case hb79z12 => (simp only [List.getElem?_toArray, List.getElem?_cons_succ, List.getElem?_cons_zero]; rfl)
            case kb79z12 =>
              intro K0 hK
              have cc := (S5.out.has (Has.r (Has.l (has_blk g _ _)))).cell 2
              rw [show (#[Value.pointer (some ⟨gs, 0, none⟩), vl, .slice (some ⟨b2, 0, none⟩) N cap2, .int .i64 (m : Int)] : Array Value)[2]? = some (.slice (some ⟨b2, 0, none⟩) N cap2) from rfl] at cc
              go_simp
              clear cc
              refine hK.out _ _ ?_ (fun hHeld => ?_)
              · trivial
              clear hK K0
              (try simp only [Act.put, List.setIfInBounds_toArray, List.set_cons_zero, List.set_cons_succ])
              (try clear hH2)
              refine' wpAnyH_take (i := 15) (oi := ?ot81z15) (v := ?vt81z15) ?ht81z15 ?st81z15 ?ft81z15 ?zt81z15 ?qt81z15 ?yt81z15 ?at81z15 ?rt81z15
              case ht81z15 => (simp only [List.getElem?_toArray, List.getElem?_cons_succ, List.getElem?_cons_zero]; rfl)
              case st81z15 => kernel_rfl
              case ft81z15 => kernel_rfl
              case zt81z15 => kernel_rfl
              case qt81z15 => exact fun _ _ _ h => h
              case yt81z15 => (refine Or.inl ⟨rfl, ?_⟩; intro w hSw; (try dsimp only at hSw); go_simp; try with_reducible rfl)
              case at81z15 => assumption
              case rt81z15 =>
              simp only [Act.put, List.setIfInBounds_toArray, List.set_cons_zero, List.set_cons_succ]
              refine wpAnyH_ready (rs := [1]) (by kernel_rfl) (by simp) ?_
              refine' AllReadyH.cons (o := ?ob82z1) ?hb82z1 ?kb82z1 AllReadyH.nil
              case hb82z1 => (simp only [List.getElem?_toArray, List.getElem?_cons_succ, List.getElem?_cons_zero]; rfl)
              case kb82z1 =>
                intro K0 hK
                go_simp
                obtain ⟨gz, hgz⟩ : ∃ g, g = w5.heap.size := ⟨_, rfl⟩
                have SA83 := Lib.hid (((S5.out.alloc #[] 80).imp (Imp.l (blk_vec (cs := []) 0 4 rfl (by decide)))))
                rw [← hgz] at SA83 ⊢
                clear hgz S5
                generalize World.alloc w5 _ = wa83 at *
                have SA83 := Lib.hid (SA83.out.re (show _ = Asn.vec 80 4 (.slice (some ⟨b2, 0, none⟩) N cap2) N (poL ((P ++ x :: Q2).map du)) * (Asn.blk g 30 #[.pointer (some ⟨gs, 0, none⟩), vl, .slice (some ⟨b2, 0, none⟩) N cap2, .int .i64 m] * (Asn.vec 80 4 (.slice (some ⟨gz, 0, none⟩) 0 0) 0 [] * ((Asn.blk ge 80 #[.int .i64 2, .int .i64 ((x.lv : Int) + 1), .string (ofL x.key), .int .i64 x.page] * (Asn.vec 44 3 vl l.length (cells3 l) * (aSf gs (puts S rc) V2 * C)))))) by ac_rfl))
                refine hK.out _ _ ?_ (fun hHeld => ?_)
                · trivial
                clear hK K0
                (try simp only [Act.put, List.setIfInBounds_toArray, List.set_cons_zero, List.set_cons_succ])
                (try clear hH2)
                refine wpAnyH_ready (rs := [8]) (by kernel_rfl) (by simp) ?_
                refine' AllReadyH.cons (o := ?ob84z8) ?hb84z8 ?kb84z8 AllReadyH.nil
                case hb84z8 => (simp only [List.getElem?_toArray, List.getElem?_cons_succ, List.getElem?_cons_zero]; rfl)
                case kb84z8 =>
                  intro K0 hK
                  have hvc := SA83.out.vec
                  have CX : Hid (Src Try.prog 4 28 (.slice (some ⟨b2, 0, none⟩) P.length cap2) P.length (poL (P.map du)) wa83) := Lib.hid (Src.ofSlice _ Try.underlying28 ⟨b2, 0, none⟩ P.length cap2 (poL (P.map du)) (by rw [poL_len, List.length_map]) (fun j u hj => by
                    rw [Addr.add_lit, Nat.zero_add]
                    refine hvc.cell ?_
                    rw [List.map_append, poL_app, List.getElem?_append_left (List.getElem?_eq_some_iff.1 hj).1]
                    exact hj) (fun u hu => poL_one _ u hu))
                  clear hvc
                  have SQ := Lib.hid (SA83.out.re (show _ = Asn.vec 80 4 (.slice (some ⟨gz, 0, none⟩) 0 0) 0 [] * (Asn.vec 80 4 (.slice (some ⟨b2, 0, none⟩) N cap2) N (poL ((P ++ x :: Q2).map du)) * (Asn.blk g 30 #[.pointer (some ⟨gs, 0, none⟩), vl, .slice (some ⟨b2, 0, none⟩) N cap2, .int .i64 m] * (Asn.blk ge 80 #[.int .i64 2, .int .i64 ((x.lv : Int) + 1), .string (ofL x.key), .int .i64 x.page] * (Asn.vec 44 3 vl l.length (cells3 l) * (aSf gs (puts S rc) V2 * C))))) by ac_rfl))
                  clear SA83
                  with_reducible refine step_append_vec rfl (.tmp 65) (.tmp 71) 28 28 rfl 80 _ 4 40 Try.underlying28 infoPost rfl (by decide) (.slice (some ⟨gz, 0, none⟩) 0 0) (0) ([]) rfl SQ.out.vec (.slice (some ⟨b2, 0, none⟩) P.length cap2) rfl (P.length) (poL (P.map du)) CX.out (by  have := HNL.out; unfold maxLen; omega) (by  have := HNL.out; omega) ?_
                  intro v2 wb85 hv hc hf
                  obtain ⟨A4, c4, hv4⟩ := hv.slice
                  subst hv4
                  have S7 := Lib.hid (SQ.out.app hv hc hf)
                  clear SQ CX hv hc hf
                  obtain ⟨N1, hN1⟩ : ∃ N1, N1 = 0 + P.length := ⟨_, rfl⟩
                  rw [← hN1] at S7 ⊢
                  have HN1 := Lib.hid hN1
                  clear hN1
                  have SB85 := Lib.hid (S7.out.re (show _ = Asn.vec 80 4 (.slice (some ⟨b2, 0, none⟩) N cap2) N (poL ((P ++ x :: Q2).map du)) * (Asn.blk g 30 #[.pointer (some ⟨gs, 0, none⟩), vl, .slice (some ⟨b2, 0, none⟩) N cap2, .int .i64 m] * (Asn.vec 80 4 (.slice A4 N1 c4) N1 ([] ++ poL (P.map du)) * (Asn.blk ge 80 #[.int .i64 2, .int .i64 ((x.lv : Int) + 1), .string (ofL x.key), .int .i64 x.page] * (Asn.vec 44 3 vl l.length (cells3 l) * (aSf gs (puts S rc) V2 * C))))) by ac_rfl))
                  clear S7
                  refine hK.out _ _ ?_ (fun hHeld => ?_)
                  · trivial
                  clear hK K0
                  (try simp only [Act.put, List.setIfInBounds_toArray, List.set_cons_zero, List.set_cons_succ])
                  (try clear hH2)
                  refine wpAnyH_ready (rs := [16]) (by kernel_rfl) (by simp) ?_
                  refine' AllReadyH.cons (o := ?ob86z16) ?hb86z16 ?kb86z16 AllReadyH.nil
                  case hb86z16 => (simp only [List.getElem?_toArray, List.getElem?_cons_succ, List.getElem?_cons_zero]; rfl)
                  case kb86z16 =>
                    intro K0 hK
                    have hvc := SB85.out.vec
                    have CX : Hid (Src Try.prog 4 28 (.slice (some pa) (N - (P.length + 1)) (cap2 - (P.length + 1))) (N - (P.length + 1)) (poL (Q2.map du)) wb85) := Lib.hid (Src.ofSlice _ Try.underlying28 pa (N - (P.length + 1)) (cap2 - (P.length + 1)) (poL (Q2.map du)) (by rw [poL_len, List.length_map, HNL.out]; omega) (fun j u hj => by
                      have hjl := (List.getElem?_eq_some_iff.1 hj).1
                      rw [poL_len, List.length_map] at hjl
                      rw [HPA.out (by have := HNL.out; omega), Addr.add_lit]
                      refine hvc.cell ?_
                      have e1 : (P ++ x :: Q2).map du = (P ++ [x]).map du ++ Q2.map du := by simp
                      have e2 : (poL ((P ++ [x]).map du)).length = (P.length + 1) * 4 := by rw [poL_len]; simp
                      rw [e1, poL_app, List.getElem?_append_right (by omega), e2, Nat.add_sub_cancel_left]
                      exact hj) (fun u hu => poL_one _ u hu))
                    clear hvc
                    have SQ := Lib.hid (SB85.out.re (show _ = Asn.vec 80 4 (.slice A4 N1 c4) N1 ([] ++ poL (P.map du)) * (Asn.vec 80 4 (.slice (some ⟨b2, 0, none⟩) N cap2) N (poL ((P ++ x :: Q2).map du)) * (Asn.blk g 30 #[.pointer (some ⟨gs, 0, none⟩), vl, .slice (some ⟨b2, 0, none⟩) N cap2, .int .i64 m] * (Asn.blk ge 80 #[.int .i64 2, .int .i64 ((x.lv : Int) + 1), .string (ofL x.key), .int .i64 x.page] * (Asn.vec 44 3 vl l.length (cells3 l) * (aSf gs (puts S rc) V2 * C))))) by ac_rfl))
                    clear SB85
                    with_reducible refine step_append_vec rfl (.tmp 72) (.tmp 79) 28 28 rfl 80 _ 4 40 Try.underlying28 infoPost rfl (by decide) (.slice A4 N1 c4) (N1) ([] ++ poL (P.map du)) rfl SQ.out.vec (.slice (some pa) (N - (P.length + 1)) (cap2 - (P.length + 1))) rfl (N - (P.length + 1)) (poL (Q2.map du)) CX.out (by have := HN1.out; have := HNL.out; unfold maxLen; omega) (by have := HN1.out; have := HNL.out; omega) ?_
                    intro v2 wc87 hv hc hf
                    obtain ⟨A5, c5, hv4⟩ := hv.slice
                    subst hv4
                    have S7 := Lib.hid (SQ.out.app hv hc hf)
                    clear SQ CX hv hc hf
                    obtain ⟨N2, hN2⟩ : ∃ N2, N2 = N1 + (N - (P.length + 1)) := ⟨_, rfl⟩
                    rw [← hN2] at S7 ⊢
                    have HN2 := Lib.hid hN2
                    clear hN2
                    have SC87 := Lib.hid (S7.out.re (show _ = Asn.blk g 30 #[.pointer (some ⟨gs, 0, none⟩), vl, .slice (some ⟨b2, 0, none⟩) N cap2, .int .i64 m] * (Asn.vec 80 4 (.slice A5 N2 c5) N2 (([] ++ poL (P.map du)) ++ poL (Q2.map du)) * (Asn.vec 80 4 (.slice (some ⟨b2, 0, none⟩) N cap2) N (poL ((P ++ x :: Q2).map du)) * (Asn.blk ge 80 #[.int .i64 2, .int .i64 ((x.lv : Int) + 1), .string (ofL x.key), .int .i64 x.page] * (Asn.vec 44 3 vl l.length (cells3 l) * (aSf gs (puts S rc) V2 * C))))) by ac_rfl))
                    clear S7
                    refine hK.out _ _ ?_ (fun hHeld => ?_)
                    · trivial
                    clear hK K0
                    (try simp only [Act.put, List.setIfInBounds_toArray, List.set_cons_zero, List.set_cons_succ])
                    (try clear hH2)
                    refine' wpAnyH_take (i := 17) (oi := ?ot88z17) (v := ?vt88z17) ?ht88z17 ?st88z17 ?ft88z17 ?zt88z17 ?qt88z17 ?yt88z17 ?at88z17 ?rt88z17
                    case ht88z17 => (simp only [List.getElem?_toArray, List.getElem?_cons_succ, List.getElem?_cons_zero]; rfl)
                    case st88z17 => kernel_rfl
                    case ft88z17 => kernel_rfl
                    case zt88z17 => kernel_rfl
                    case qt88z17 => exact fun _ _ _ h => h
                    case yt88z17 => (refine Or.inl ⟨rfl, ?_⟩; intro w hSw; (try dsimp only at hSw); go_simp; try with_reducible rfl)
                    case at88z17 => assumption
                    case rt88z17 =>
                    simp only [Act.put, List.setIfInBounds_toArray, List.set_cons_zero, List.set_cons_succ]
                    refine' wpAnyH_take (i := 18) (oi := ?ot89z18) (v := ?vt89z18) ?ht89z18 ?st89z18 ?ft89z18 ?zt89z18 ?qt89z18 ?yt89z18 ?at89z18 ?rt89z18
                    case ht89z18 => (simp only [List.getElem?_toArray, List.getElem?_cons_succ, List.getElem?_cons_zero]; rfl)
                    case st89z18 => kernel_rfl
                    case ft89z18 => kernel_rfl
                    case zt89z18 => kernel_rfl
                    case qt89z18 => exact fun _ _ _ h => h
                    case yt89z18 => (refine Or.inl ⟨rfl, ?_⟩; intro w hSw; (try dsimp only at hSw); go_simp; try with_reducible rfl)
                    case at89z18 => assumption
                    case rt89z18 =>
                    simp only [Act.put, List.setIfInBounds_toArray, List.set_cons_zero, List.set_cons_succ]
                    refine wpAnyH_ready (rs := [19]) (by kernel_rfl) (by simp) ?_
                    refine' AllReadyH.cons (o := ?ob90z19) ?hb90z19 ?kb90z19 AllReadyH.nil
                    case hb90z19 => (simp only [List.getElem?_toArray, List.getElem?_cons_succ, List.getElem?_cons_zero]; rfl)
                    case kb90z19 =>
                      intro K0 hK
                      have cc := (SC87.out.has (Has.l (has_blk g _ _))).cell 2
                      rw [show (#[Value.pointer (some ⟨gs, 0, none⟩), vl, .slice (some ⟨b2, 0, none⟩) N cap2, .int .i64 (m : Int)] : Array Value)[2]? = some (.slice (some ⟨b2, 0, none⟩) N cap2) from rfl] at cc
                      have f2 := (SC87.out.has (Has.l (has_blk g _ _))).free 2
                      go_simp
                      clear cc f2
                      have SD91 := Lib.hid (SC87.out.set (Sets.l (sets_blk g _ _ 2 (.slice A5 N2 c5))))
                      simp only [List.setIfInBounds_toArray, List.set_cons_zero, List.set_cons_succ] at SD91
                      clear SC87
                      generalize World.setCell wc87 _ _ = wd91 at *
                      refine hK.out _ _ ?_ (fun hHeld => ?_)
                      · trivial
                      clear hK K0
                      (try simp only [Act.put, List.setIfInBounds_toArray, List.set_cons_zero, List.set_cons_succ])
                      (try clear hH2)
                      refine wpAnyH_done (by kernel_rfl) ?_ _
                      go_wp2_with fail
                      go_returns
                      refine ⟨rfl, puts S rc, V2, .slice A5 N2 c5, Q2, m, top, ch, HN.out, by omega, hq2, hnm, ?_⟩
                      have eN : N2 = ((P ++ Q2).map du).length := by rw [HN2.out, HN1.out, HNL.out]; simp; omega
                      have eL : ([] ++ poL (P.map du)) ++ poL (Q2.map du) = poL ((P ++ Q2).map du) := by rw [List.map_append, poL_app, List.nil_append]
                      have S9 := SD91.out
                      rw [eL] at S9
                      unfold aWd sPtr
                      rw [← eN]
                      exact (S9.re (show _ = (Asn.vec 80 4 (.slice (some ⟨b2, 0, none⟩) N cap2) N (poL ((P ++ x :: Q2).map du)) * Asn.blk ge 80 #[.int .i64 2, .int .i64 ((x.lv : Int) + 1), .string (ofL x.key), .int .i64 x.page]) * ((Asn.blk g 30 #[.pointer (some ⟨gs, 0, none⟩), vl, .slice A5 N2 c5, .int .i64 m] * (Asn.vec 44 3 vl l.length (cells3 l) * (Asn.vec 80 4 (.slice A5 N2 c5) N2 (poL ((P ++ Q2).map du)) * aSf gs (puts S rc) V2))) * C) by ac_rfl)).right
          case mb52z5 =>
          refine' AllReadyH.cons (o := ?ob92z12) ?hb92z12 ?kb92z12 AllReadyH.nil
          case hb92z12 => (simp only [List.getElem?_toArray, List.getElem?_cons_succ, List.getElem?_cons_zero]; rfl)
          case kb92z12 =>
            intro K0 hK
            have cc := (S5.out.has (Has.r (Has.l (has_blk g _ _)))).cell 2
            rw [show (#[Value.pointer (some ⟨gs, 0, none⟩), vl, .slice (some ⟨b2, 0, none⟩) N cap2, .int .i64 (m : Int)] : Array Value)[2]? = some (.slice (some ⟨b2, 0, none⟩) N cap2) from rfl] at cc
            go_simp
            clear cc
            refine hK.out _ _ ?_ (fun hHeld => ?_)
            · trivial
            clear hK K0
            (try simp only [Act.put, List.setIfInBounds_toArray, List.set_cons_zero, List.set_cons_succ])
            (try clear hH2)
            refine' wpAnyH_take (i := 15) (oi := ?ot94z15) (v := ?vt94z15) ?ht94z15 ?st94z15 ?ft94z15 ?zt94z15 ?qt94z15 ?yt94z15 ?at94z15 ?rt94z15
            case ht94z15 => (simp only [List.getElem?_toArray, List.getElem?_cons_succ, List.getElem?_cons_zero]; rfl)
            case st94z15 => kernel_rfl
            case ft94z15 => kernel_rfl
            case zt94z15 => kernel_rfl
            case qt94z15 => exact fun _ _ _ h => h
            case yt94z15 => (refine Or.inl ⟨rfl, ?_⟩; intro w hSw; (try dsimp only at hSw); go_simp; try with_reducible rfl)
            case at94z15 => assumption
            case rt94z15 =>
            simp only [Act.put, List.setIfInBounds_toArray, List.set_cons_zero, List.set_cons_succ]
            refine wpAnyH_ready (rs := [1, 5]) (by kernel_rfl) (by simp) ?_
            refine' AllReadyH.cons (o := ?ob95z1) ?hb95z1 ?kb95z1 ?mb95z1
            case hb95z1 => (simp only [List.getElem?_toArray, List.getElem?_cons_succ, List.getElem?_cons_zero]; rfl)
            case kb95z1 =>
              intro K0 hK
              go_simp
              obtain ⟨gz, hgz⟩ : ∃ g, g = w5.heap.size := ⟨_, rfl⟩
              have SA96 := Lib.hid (((S5.out.alloc #[] 80).imp (Imp.l (blk_vec (cs := []) 0 4 rfl (by decide)))))
              rw [← hgz] at SA96 ⊢
              clear hgz S5
              generalize World.alloc w5 _ = wa96 at *
              have SA96 := Lib.hid (SA96.out.re (show _ = Asn.vec 80 4 (.slice (some ⟨b2, 0, none⟩) N cap2) N (poL ((P ++ x :: Q2).map du)) * (Asn.blk g 30 #[.pointer (some ⟨gs, 0, none⟩), vl, .slice (some ⟨b2, 0, none⟩) N cap2, .int .i64 m] * (Asn.vec 80 4 (.slice (some ⟨gz, 0, none⟩) 0 0) 0 [] * ((Asn.blk ge 80 #[.int .i64 2, .int .i64 ((x.lv : Int) + 1), .string (ofL x.key), .int .i64 x.page] * (Asn.vec 44 3 vl l.length (cells3 l) * (aSf gs (puts S rc) V2 * C)))))) by ac_rfl))
              refine hK.out _ _ ?_ (fun hHeld => ?_)
              · trivial
              clear hK K0
              (try simp only [Act.put, List.setIfInBounds_toArray, List.set_cons_zero, List.set_cons_succ])
              (try clear hH2)
              refine wpAnyH_ready (rs := [5]) (by kernel_rfl) (by simp) ?_
              refine' AllReadyH.cons (o := ?ob97z5) ?hb97z5 ?kb97z5 AllReadyH.nil
              case hb97z5 => (simp only [List.getElem?_toArray, List.getElem?_cons_succ, List.getElem?_cons_zero]; rfl)
              case kb97z5 =>
                intro K0 hK
                have cc := (SA96.out.has (Has.r (Has.l (has_blk g _ _)))).cell 2
                rw [show (#[Value.pointer (some ⟨gs, 0, none⟩), vl, .slice (some ⟨b2, 0, none⟩) N cap2, .int .i64 (m : Int)] : Array Value)[2]? = some (.slice (some ⟨b2, 0, none⟩) N cap2) from rfl] at cc
                go_simp
                clear cc
                refine hK.out _ _ ?_ (fun hHeld => ?_)
                · trivial
                clear hK K0
                (try simp only [Act.put, List.setIfInBounds_toArray, List.set_cons_zero, List.set_cons_succ])
                (try clear hH2)
                refine' wpAnyH_take (i := 7) (oi := ?ot99z7) (v := ?vt99z7) ?ht99z7 ?st99z7 ?ft99z7 ?zt99z7 ?qt99z7 ?yt99z7 ?at99z7 ?rt99z7
                case ht99z7 => (simp only [List.getElem?_toArray, List.getElem?_cons_succ, List.getElem?_cons_zero]; rfl)
                case st99z7 => kernel_rfl
                case ft99z7 => kernel_rfl
                case zt99z7 => kernel_rfl
                case qt99z7 => exact fun _ _ _ h => h
                case yt99z7 => (refine Or.inl ⟨rfl, ?_⟩; intro w hSw; (try dsimp only at hSw); go_simp; try with_reducible rfl)
                case at99z7 => assumption
                case rt99z7 =>
                simp only [Act.put, List.setIfInBounds_toArray, List.set_cons_zero, List.set_cons_succ]
                refine wpAnyH_ready (rs := [8]) (by kernel_rfl) (by simp) ?_
                refine' AllReadyH.cons (o := ?ob100z8) ?hb100z8 ?kb100z8 AllReadyH.nil
                case hb100z8 => (simp only [List.getElem?_toArray, List.getElem?_cons_succ, List.getElem?_cons_zero]; rfl)
                case kb100z8 =>
                  intro K0 hK
                  have hvc := SA96.out.vec
                  have CX : Hid (Src Try.prog 4 28 (.slice (some ⟨b2, 0, none⟩) P.length cap2) P.length (poL (P.map du)) wa96) := Lib.hid (Src.ofSlice _ Try.underlying28 ⟨b2, 0, none⟩ P.length cap2 (poL (P.map du)) (by rw [poL_len, List.length_map]) (fun j u hj => by
                    rw [Addr.add_lit, Nat.zero_add]
                    refine hvc.cell ?_
                    rw [List.map_append, poL_app, List.getElem?_append_left (List.getElem?_eq_some_iff.1 hj).1]
                    exact hj) (fun u hu => poL_one _ u hu))
                  clear hvc
                  have SQ := Lib.hid (SA96.out.re (show _ = Asn.vec 80 4 (.slice (some ⟨gz, 0, none⟩) 0 0) 0 [] * (Asn.vec 80 4 (.slice (some ⟨b2, 0, none⟩) N cap2) N (poL ((P ++ x :: Q2).map du)) * (Asn.blk g 30 #[.pointer (some ⟨gs, 0, none⟩), vl, .slice (some ⟨b2, 0, none⟩) N cap2, .int .i64 m] * (Asn.blk ge 80 #[.int .i64 2, .int .i64 ((x.lv : Int) + 1), .string (ofL x.key), .int .i64 x.page] * (Asn.vec 44 3 vl l.length (cells3 l) * (aSf gs (puts S rc) V2 * C))))) by ac_rfl))
                  clear SA96
                  with_reducible refine step_append_vec rfl (.tmp 65) (.tmp 71) 28 28 rfl 80 _ 4 40 Try.underlying28 infoPost rfl (by decide) (.slice (some ⟨gz, 0, none⟩) 0 0) (0) ([]) rfl SQ.out.vec (.slice (some ⟨b2, 0, none⟩) P.length cap2) rfl (P.length) (poL (P.map du)) CX.out (by  have := HNL.out; unfold maxLen; omega) (by  have := HNL.out; omega) ?_
                  intro v2 wb101 hv hc hf
                  obtain ⟨A4, c4, hv4⟩ := hv.slice
                  subst hv4
                  have S7 := Lib.hid (SQ.out.app hv hc hf)
                  clear SQ CX hv hc hf
                  obtain ⟨N1, hN1⟩ : ∃ N1, N1 = 0 + P.length := ⟨_, rfl⟩
                  rw [← hN1] at S7 ⊢
                  have HN1 := Lib.hid hN1
                  clear hN1
                  have SB101 := Lib.hid (S7.out.re (show _ = Asn.vec 80 4 (.slice (some ⟨b2, 0, none⟩) N cap2) N (poL ((P ++ x :: Q2).map du)) * (Asn.blk g 30 #[.pointer (some ⟨gs, 0, none⟩), vl, .slice (some ⟨b2, 0, none⟩) N cap2, .int .i64 m] * (Asn.vec 80 4 (.slice A4 N1 c4) N1 ([] ++ poL (P.map du)) * (Asn.blk ge 80 #[.int .i64 2, .int .i64 ((x.lv : Int) + 1), .string (ofL x.key), .int .i64 x.page] * (Asn.vec 44 3 vl l.length (cells3 l) * (aSf gs (puts S rc) V2 * C))))) by ac_rfl))
                  clear S7
                  refine hK.out _ _ ?_ (fun hHeld => ?_)
                  · trivial
                  clear hK K0
                  (try simp only [Act.put, List.setIfInBounds_toArray, List.set_cons_zero, List.set_cons_succ])
                  (try clear hH2)
                  refine wpAnyH_ready (rs := [16]) (by kernel_rfl) (by simp) ?_
                  refine' AllReadyH.cons (o := ?ob102z16) ?hb102z16 ?kb102z16 AllReadyH.nil
                  case hb102z16 => (simp only [List.getElem?_toArray, List.getElem?_cons_succ, List.getElem?_cons_zero]; rfl)
                  case kb102z16 =>
                    intro K0 hK
                    have hvc := SB101.out.vec
                    have CX : Hid (Src Try.prog 4 28 (.slice (some pa) (N - (P.length + 1)) (cap2 - (P.length + 1))) (N - (P.length + 1)) (poL (Q2.map du)) wb101) := Lib.hid (Src.ofSlice _ Try.underlying28 pa (N - (P.length + 1)) (cap2 - (P.length + 1)) (poL (Q2.map du)) (by rw [poL_len, List.length_map, HNL.out]; omega) (fun j u hj => by
                      have hjl := (List.getElem?_eq_some_iff.1 hj).1
                      rw [poL_len, List.length_map] at hjl
                      rw [HPA.out (by have := HNL.out; omega), Addr.add_lit]
                      refine hvc.cell ?_
                      have e1 : (P ++ x :: Q2).map du = (P ++ [x]).map du ++ Q2.map du := by simp
                      have e2 : (poL ((P ++ [x]).map du)).length = (P.length + 1) * 4 := by rw [poL_len]; simp
                      rw [e1, poL_app, List.getElem?_append_right (by omega), e2, Nat.add_sub_cancel_left]
                      exact hj) (fun u hu => poL_one _ u hu))
                    clear hvc
                    have SQ := Lib.hid (SB101.out.re (show _ = Asn.vec 80 4 (.slice A4 N1 c4) N1 ([] ++ poL (P.map du)) * (Asn.vec 80 4 (.slice (some ⟨b2, 0, none⟩) N cap2) N (poL ((P ++ x :: Q2).map du)) * (Asn.blk g 30 #[.pointer (some ⟨gs, 0, none⟩), vl, .slice (some ⟨b2, 0, none⟩) N cap2, .int .i64 m] * (Asn.blk ge 80 #[.int .i64 2, .int .i64 ((x.lv : Int) + 1), .string (ofL x.key), .int .i64 x.page] * (Asn.vec 44 3 vl l.length (cells3 l) * (aSf gs (puts S rc) V2 * C))))) by ac_rfl))
                    clear SB101
                    with_reducible refine step_append_vec rfl (.tmp 72) (.tmp 79) 28 28 rfl 80 _ 4 40 Try.underlying28 infoPost rfl (by decide) (.slice A4 N1 c4) (N1) ([] ++ poL (P.map du)) rfl SQ.out.vec (.slice (some pa) (N - (P.length + 1)) (cap2 - (P.length + 1))) rfl (N - (P.length + 1)) (poL (Q2.map du)) CX.out (by have := HN1.out; have := HNL.out; unfold maxLen; omega) (by have := HN1.out; have := HNL.out; omega) ?_
                    intro v2 wc103 hv hc hf
                    obtain ⟨A5, c5, hv4⟩ := hv.slice
                    subst hv4
                    have S7 := Lib.hid (SQ.out.app hv hc hf)
                    clear SQ CX hv hc hf
                    obtain ⟨N2, hN2⟩ : ∃ N2, N2 = N1 + (N - (P.length + 1)) := ⟨_, rfl⟩
                    rw [← hN2] at S7 ⊢
                    have HN2 := Lib.hid hN2
                    clear hN2
                    have SC103 := Lib.hid (S7.out.re (show _ = Asn.blk g 30 #[.pointer (some ⟨gs, 0, none⟩), vl, .slice (some ⟨b2, 0, none⟩) N cap2, .int .i64 m] * (Asn.vec 80 4 (.slice A5 N2 c5) N2 (([] ++ poL (P.map du)) ++ poL (Q2.map du)) * (Asn.vec 80 4 (.slice (some ⟨b2, 0, none⟩) N cap2) N (poL ((P ++ x :: Q2).map du)) * (Asn.blk ge 80 #[.int .i64 2, .int .i64 ((x.lv : Int) + 1), .string (ofL x.key), .int .i64 x.page] * (Asn.vec 44 3 vl l.length (cells3 l) * (aSf gs (puts S rc) V2 * C))))) by ac_rfl))
                    clear S7
                    refine hK.out _ _ ?_ (fun hHeld => ?_)
                    · trivial
                    clear hK K0
                    (try simp only [Act.put, List.setIfInBounds_toArray, List.set_cons_zero, List.set_cons_succ])
                    (try clear hH2)
                    refine' wpAnyH_take (i := 17) (oi := ?ot104z17) (v := ?vt104z17) ?ht104z17 ?st104z17 ?ft104z17 ?zt104z17 ?qt104z17 ?yt104z17 ?at104z17 ?rt104z17
                    case ht104z17 => (simp only [List.getElem?_toArray, List.getElem?_cons_succ, List.getElem?_cons_zero]; rfl)
                    case st104z17 => kernel_rfl
                    case ft104z17 => kernel_rfl
                    case zt104z17 => kernel_rfl
                    case qt104z17 => exact fun _ _ _ h => h
                    case yt104z17 => (refine Or.inl ⟨rfl, ?_⟩; intro w hSw; (try dsimp only at hSw); go_simp; try with_reducible rfl)
                    case at104z17 => assumption
                    case rt104z17 =>
                    simp only [Act.put, List.setIfInBounds_toArray, List.set_cons_zero, List.set_cons_succ]
                    refine' wpAnyH_take (i := 18) (oi := ?ot105z18) (v := ?vt105z18) ?ht105z18 ?st105z18 ?ft105z18 ?zt105z18 ?qt105z18 ?yt105z18 ?at105z18 ?rt105z18
                    case ht105z18 => (simp only [List.getElem?_toArray, List.getElem?_cons_succ, List.getElem?_cons_zero]; rfl)
                    case st105z18 => kernel_rfl
                    case ft105z18 => kernel_rfl
                    case zt105z18 => kernel_rfl
                    case qt105z18 => exact fun _ _ _ h => h
                    case yt105z18 => (refine Or.inl ⟨rfl, ?_⟩; intro w hSw; (try dsimp only at hSw); go_simp; try with_reducible rfl)
                    case at105z18 => assumption
                    case rt105z18 =>
                    simp only [Act.put, List.setIfInBounds_toArray, List.set_cons_zero, List.set_cons_succ]
                    refine wpAnyH_ready (rs := [19]) (by kernel_rfl) (by simp) ?_
                    refine' AllReadyH.cons (o := ?ob106z19) ?hb106z19 ?kb106z19 AllReadyH.nil
                    case hb106z19 => (simp only [List.getElem?_toArray, List.getElem?_cons_succ, List.getElem?_cons_zero]; rfl)
                    case kb106z19 =>
                      intro K0 hK
                      have cc := (SC103.out.has (Has.l (has_blk g _ _))).cell 2
                      rw [show (#[Value.pointer (some ⟨gs, 0, none⟩), vl, .slice (some ⟨b2, 0, none⟩) N cap2, .int .i64 (m : Int)] : Array Value)[2]? = some (.slice (some ⟨b2, 0, none⟩) N cap2) from rfl] at cc
                      have f2 := (SC103.out.has (Has.l (has_blk g _ _))).free 2
                      go_simp
                      clear cc f2
                      have SD107 := Lib.hid (SC103.out.set (Sets.l (sets_blk g _ _ 2 (.slice A5 N2 c5))))
                      simp only [List.setIfInBounds_toArray, List.set_cons_zero, List.set_cons_succ] at SD107
                      clear SC103
                      generalize World.setCell wc103 _ _ = wd107 at *
                      refine hK.out _ _ ?_ (fun hHeld => ?_)
                      · trivial
                      clear hK K0
                      (try simp only [Act.put, List.setIfInBounds_toArray, List.set_cons_zero, List.set_cons_succ])
                      (try clear hH2)
                      refine wpAnyH_done (by kernel_rfl) ?_ _
                      go_wp2_with fail
                      go_returns
                      refine ⟨rfl, puts S rc, V2, .slice A5 N2 c5, Q2, m, top, ch, HN.out, by omega, hq2, hnm, ?_⟩
                      have eN : N2 = ((P ++ Q2).map du).length := by rw [HN2.out, HN1.out, HNL.out]; simp; omega
                      have eL : ([] ++ poL (P.map du)) ++ poL (Q2.map du) = poL ((P ++ Q2).map du) := by rw [List.map_append, poL_app, List.nil_append]
                      have S9 := SD107.out
                      rw [eL] at S9
                      unfold aWd sPtr
                      rw [← eN]
                      exact (S9.re (show _ = (Asn.vec 80 4 (.slice (some ⟨b2, 0, none⟩) N cap2) N (poL ((P ++ x :: Q2).map du)) * Asn.blk ge 80 #[.int .i64 2, .int .i64 ((x.lv : Int) + 1), .string (ofL x.key), .int .i64 x.page]) * ((Asn.blk g 30 #[.pointer (some ⟨gs, 0, none⟩), vl, .slice A5 N2 c5, .int .i64 m] * (Asn.vec 44 3 vl l.length (cells3 l) * (Asn.vec 80 4 (.slice A5 N2 c5) N2 (poL ((P ++ Q2).map du)) * aSf gs (puts S rc) V2))) * C) by ac_rfl)).right
            case mb95z1 =>
            refine' AllReadyH.cons (o := ?ob108z5) ?hb108z5 ?kb108z5 AllReadyH.nil
            case hb108z5 => (simp only [List.getElem?_toArray, List.getElem?_cons_succ, List.getElem?_cons_zero]; rfl)
            case kb108z5 =>
              intro K0 hK
              have cc := (S5.out.has (Has.r (Has.l (has_blk g _ _)))).cell 2
              rw [show (#[Value.pointer (some ⟨gs, 0, none⟩), vl, .slice (some ⟨b2, 0, none⟩) N cap2, .int .i64 (m : Int)] : Array Value)[2]? = some (.slice (some ⟨b2, 0, none⟩) N cap2) from rfl] at cc
              go_simp
              clear cc
              refine hK.out _ _ ?_ (fun hHeld => ?_)
              · trivial
              clear hK K0
              (try simp only [Act.put, List.setIfInBounds_toArray, List.set_cons_zero, List.set_cons_succ])
              (try clear hH2)
              refine' wpAnyH_take (i := 7) (oi := ?ot110z7) (v := ?vt110z7) ?ht110z7 ?st110z7 ?ft110z7 ?zt110z7 ?qt110z7 ?yt110z7 ?at110z7 ?rt110z7
              case ht110z7 => (simp only [List.getElem?_toArray, List.getElem?_cons_succ, List.getElem?_cons_zero]; rfl)
              case st110z7 => kernel_rfl
              case ft110z7 => kernel_rfl
              case zt110z7 => kernel_rfl
              case qt110z7 => exact fun _ _ _ h => h
              case yt110z7 => (refine Or.inl ⟨rfl, ?_⟩; intro w hSw; (try dsimp only at hSw); go_simp; try with_reducible rfl)
              case at110z7 => assumption
              case rt110z7 =>
              simp only [Act.put, List.setIfInBounds_toArray, List.set_cons_zero, List.set_cons_succ]
              refine wpAnyH_ready (rs := [1]) (by kernel_rfl) (by simp) ?_
              refine' AllReadyH.cons (o := ?ob111z1) ?hb111z1 ?kb111z1 AllReadyH.nil
              case hb111z1 => (simp only [List.getElem?_toArray, List.getElem?_cons_succ, List.getElem?_cons_zero]; rfl)
              case kb111z1 =>
                intro K0 hK
                go_simp
                obtain ⟨gz, hgz⟩ : ∃ g, g = w5.heap.size := ⟨_, rfl⟩
                have SA112 := Lib.hid (((S5.out.alloc #[] 80).imp (Imp.l (blk_vec (cs := []) 0 4 rfl (by decide)))))
                rw [← hgz] at SA112 ⊢
                clear hgz S5
                generalize World.alloc w5 _ = wa112 at *
                have SA112 := Lib.hid (SA112.out.re (show _ = Asn.vec 80 4 (.slice (some ⟨b2, 0, none⟩) N cap2) N (poL ((P ++ x :: Q2).map du)) * (Asn.blk g 30 #[.pointer (some ⟨gs, 0, none⟩), vl, .slice (some ⟨b2, 0, none⟩) N cap2, .int .i64 m] * (Asn.vec 80 4 (.slice (some ⟨gz, 0, none⟩) 0 0) 0 [] * ((Asn.blk ge 80 #[.int .i64 2, .int .i64 ((x.lv : Int) + 1), .string (ofL x.key), .int .i64 x.page] * (Asn.vec 44 3 vl l.length (cells3 l) * (aSf gs (puts S rc) V2 * C)))))) by ac_rfl))
                refine hK.out _ _ ?_ (fun hHeld => ?_)
                · trivial
                clear hK K0
                (try simp only [Act.put, List.setIfInBounds_toArray, List.set_cons_zero, List.set_cons_succ])
                (try clear hH2)
                refine wpAnyH_ready (rs := [8]) (by kernel_rfl) (by simp) ?_
                refine' AllReadyH.cons (o := ?ob113z8) ?hb113z8 ?kb113z8 AllReadyH.nil
                case hb113z8 => (simp only [List.getElem?_toArray, List.getElem?_cons_succ, List.getElem?_cons_zero]; rfl)
                case kb113z8 =>
                  intro K0 hK
                  have hvc := SA112.out.vec
                  have CX : Hid (Src Try.prog 4 28 (.slice (some ⟨b2, 0, none⟩) P.length cap2) P.length (poL (P.map du)) wa112) := Lib.hid (Src.ofSlice _ Try.underlying28 ⟨b2, 0, none⟩ P.length cap2 (poL (P.map du)) (by rw [poL_len, List.length_map]) (fun j u hj => by
                    rw [Addr.add_lit, Nat.zero_add]
                    refine hvc.cell ?_
                    rw [List.map_append, poL_app, List.getElem?_append_left (List.getElem?_eq_some_iff.1 hj).1]
                    exact hj) (fun u hu => poL_one _ u hu))
                  clear hvc
                  have SQ := Lib.hid (SA112.out.re (show _ = Asn.vec 80 4 (.slice (some ⟨gz, 0, none⟩) 0 0) 0 [] * (Asn.vec 80 4 (.slice (some ⟨b2, 0, none⟩) N cap2) N (poL ((P ++ x :: Q2).map du)) * (Asn.blk g 30 #[.pointer (some ⟨gs, 0, none⟩), vl, .slice (some ⟨b2, 0, none⟩) N cap2, .int .i64 m] * (Asn.blk ge 80 #[.int .i64 2, .int .i64 ((x.lv : Int) + 1), .string (ofL x.key), .int .i64 x.page] * (Asn.vec 44 3 vl l.length (cells3 l) * (aSf gs (puts S rc) V2 * C))))) by ac_rfl))
                  clear SA112
                  with_reducible refine step_append_vec rfl (.tmp 65) (.tmp 71) 28 28 rfl 80 _ 4 40 Try.underlying28 infoPost rfl (by decide) (.slice (some ⟨gz, 0, none⟩) 0 0) (0) ([]) rfl SQ.out.vec (.slice (some ⟨b2, 0, none⟩) P.length cap2) rfl (P.length) (poL (P.map du)) CX.out (by  have := HNL.out; unfold maxLen; omega) (by  have := HNL.out; omega) ?_
                  intro v2 wb114 hv hc hf
                  obtain ⟨A4, c4, hv4⟩ := hv.slice
                  subst hv4
                  have S7 := Lib.hid (SQ.out.app hv hc hf)
                  clear SQ CX hv hc hf
                  obtain ⟨N1, hN1⟩ : ∃ N1, N1 = 0 + P.length := ⟨_, rfl⟩
                  rw [← hN1] at S7 ⊢
                  have HN1 := Lib.hid hN1
                  clear hN1
                  have SB114 := Lib.hid (S7.out.re (show _ = Asn.vec 80 4 (.slice (some ⟨b2, 0, none⟩) N cap2) N (poL ((P ++ x :: Q2).map du)) * (Asn.blk g 30 #[.pointer (some ⟨gs, 0, none⟩), vl, .slice (some ⟨b2, 0, none⟩) N cap2, .int .i64 m] * (Asn.vec 80 4 (.slice A4 N1 c4) N1 ([] ++ poL (P.map du)) * (Asn.blk ge 80 #[.int .i64 2, .int .i64 ((x.lv : Int) + 1), .string (ofL x.key), .int .i64 x.page] * (Asn.vec 44 3 vl l.length (cells3 l) * (aSf gs (puts S rc) V2 * C))))) by ac_rfl))
                  clear S7
                  refine hK.out _ _ ?_ (fun hHeld => ?_)
                  · trivial
                  clear hK K0
                  (try simp only [Act.put, List.setIfInBounds_toArray, List.set_cons_zero, List.set_cons_succ])
                  (try clear hH2)
                  refine wpAnyH_ready (rs := [16]) (by kernel_rfl) (by simp) ?_
                  refine' AllReadyH.cons (o := ?ob115z16) ?hb115z16 ?kb115z16 AllReadyH.nil
                  case hb115z16 => (simp only [List.getElem?_toArray, List.getElem?_cons_succ, List.getElem?_cons_zero]; rfl)
                  case kb115z16 =>
                    intro K0 hK
                    have hvc := SB114.out.vec
                    have CX : Hid (Src Try.prog 4 28 (.slice (some pa) (N - (P.length + 1)) (cap2 - (P.length + 1))) (N - (P.length + 1)) (poL (Q2.map du)) wb114) := Lib.hid (Src.ofSlice _ Try.underlying28 pa (N - (P.length + 1)) (cap2 - (P.length + 1)) (poL (Q2.map du)) (by rw [poL_len, List.length_map, HNL.out]; omega) (fun j u hj => by
                      have hjl := (List.getElem?_eq_some_iff.1 hj).1
                      rw [poL_len, List.length_map] at hjl
                      rw [HPA.out (by have := HNL.out; omega), Addr.add_lit]
                      refine hvc.cell ?_
                      have e1 : (P ++ x :: Q2).map du = (P ++ [x]).map du ++ Q2.map du := by simp
                      have e2 : (poL ((P ++ [x]).map du)).length = (P.length + 1) * 4 := by rw [poL_len]; simp
                      rw [e1, poL_app, List.getElem?_append_right (by omega), e2, Nat.add_sub_cancel_left]
                      exact hj) (fun u hu => poL_one _ u hu))
                    clear hvc
                    have SQ := Lib.hid (SB114.out.re (show _ = Asn.vec 80 4 (.slice A4 N1 c4) N1 ([] ++ poL (P.map du)) * (Asn.vec 80 4 (.slice (some ⟨b2, 0, none⟩) N cap2) N (poL ((P ++ x :: Q2).map du)) * (Asn.blk g 30 #[.pointer (some ⟨gs, 0, none⟩), vl, .slice (some ⟨b2, 0, none⟩) N cap2, .int .i64 m] * (Asn.blk ge 80 #[.int .i64 2, .int .i64 ((x.lv : Int) + 1), .string (ofL x.key), .int .i64 x.page] * (Asn.vec 44 3 vl l.length (cells3 l) * (aSf gs (puts S rc) V2 * C))))) by ac_rfl))
                    clear SB114
                    with_reducible refine step_append_vec rfl (.tmp 72) (.tmp 79) 28 28 rfl 80 _ 4 40 Try.underlying28 infoPost rfl (by decide) (.slice A4 N1 c4) (N1) ([] ++ poL (P.map du)) rfl SQ.out.vec (.slice (some pa) (N - (P.length + 1)) (cap2 - (P.length + 1))) rfl (N - (P.length + 1)) (poL (Q2.map du)) CX.out (by have := HN1.out; have := HNL.out; unfold maxLen; omega) (by have := HN1.out; have := HNL.out; omega) ?_
                    intro v2 wc116 hv hc hf
                    obtain ⟨A5, c5, hv4⟩ := hv.slice
                    subst hv4
                    have S7 := Lib.hid (SQ.out.app hv hc hf)
                    clear SQ CX hv hc hf
                    obtain ⟨N2, hN2⟩ : ∃ N2, N2 = N1 + (N - (P.length + 1)) := ⟨_, rfl⟩
                    rw [← hN2] at S7 ⊢
                    have HN2 := Lib.hid hN2
                    clear hN2
                    have SC116 := Lib.hid (S7.out.re (show _ = Asn.blk g 30 #[.pointer (some ⟨gs, 0, none⟩), vl, .slice (some ⟨b2, 0, none⟩) N cap2, .int .i64 m] * (Asn.vec 80 4 (.slice A5 N2 c5) N2 (([] ++ poL (P.map du)) ++ poL (Q2.map du)) * (Asn.vec 80 4 (.slice (some ⟨b2, 0, none⟩) N cap2) N (poL ((P ++ x :: Q2).map du)) * (Asn.blk ge 80 #[.int .i64 2, .int .i64 ((x.lv : Int) + 1), .string (ofL x.key), .int .i64 x.page] * (Asn.vec 44 3 vl l.length (cells3 l) * (aSf gs (puts S rc) V2 * C))))) by ac_rfl))
                    clear S7
                    refine hK.out _ _ ?_ (fun hHeld => ?_)
                    · trivial
                    clear hK K0
                    (try simp only [Act.put, List.setIfInBounds_toArray, List.set_cons_zero, List.set_cons_succ])
                    (try clear hH2)
                    refine' wpAnyH_take (i := 17) (oi := ?ot117z17) (v := ?vt117z17) ?ht117z17 ?st117z17 ?ft117z17 ?zt117z17 ?qt117z17 ?yt117z17 ?at117z17 ?rt117z17
                    case ht117z17 => (simp only [List.getElem?_toArray, List.getElem?_cons_succ, List.getElem?_cons_zero]; rfl)
                    case st117z17 => kernel_rfl
                    case ft117z17 => kernel_rfl
                    case zt117z17 => kernel_rfl
                    case qt117z17 => exact fun _ _ _ h => h
                    case yt117z17 => (refine Or.inl ⟨rfl, ?_⟩; intro w hSw; (try dsimp only at hSw); go_simp; try with_reducible rfl)
                    case at117z17 => assumption
                    case rt117z17 =>
                    simp only [Act.put, List.setIfInBounds_toArray, List.set_cons_zero, List.set_cons_succ]
                    refine' wpAnyH_take (i := 18) (oi := ?ot118z18) (v := ?vt118z18) ?ht118z18 ?st118z18 ?ft118z18 ?zt118z18 ?qt118z18 ?yt118z18 ?at118z18 ?rt118z18
                    case ht118z18 => (simp only [List.getElem?_toArray, List.getElem?_cons_succ, List.getElem?_cons_zero]; rfl)
                    case st118z18 => kernel_rfl
                    case ft118z18 => kernel_rfl
                    case zt118z18 => kernel_rfl
                    case qt118z18 => exact fun _ _ _ h => h
                    case yt118z18 => (refine Or.inl ⟨rfl, ?_⟩; intro w hSw; (try dsimp only at hSw); go_simp; try with_reducible rfl)
                    case at118z18 => assumption
                    case rt118z18 =>
                    simp only [Act.put, List.setIfInBounds_toArray, List.set_cons_zero, List.set_cons_succ]
                    refine wpAnyH_ready (rs := [19]) (by kernel_rfl) (by simp) ?_
                    refine' AllReadyH.cons (o := ?ob119z19) ?hb119z19 ?kb119z19 AllReadyH.nil
                    case hb119z19 => (simp only [List.getElem?_toArray, List.getElem?_cons_succ, List.getElem?_cons_zero]; rfl)
                    case kb119z19 =>
                      intro K0 hK
                      have cc := (SC116.out.has (Has.l (has_blk g _ _))).cell 2
                      rw [show (#[Value.pointer (some ⟨gs, 0, none⟩), vl, .slice (some ⟨b2, 0, none⟩) N cap2, .int .i64 (m : Int)] : Array Value)[2]? = some (.slice (some ⟨b2, 0, none⟩) N cap2) from rfl] at cc
                      have f2 := (SC116.out.has (Has.l (has_blk g _ _))).free 2
                      go_simp
                      clear cc f2
                      have SD120 := Lib.hid (SC116.out.set (Sets.l (sets_blk g _ _ 2 (.slice A5 N2 c5))))
                      simp only [List.setIfInBounds_toArray, List.set_cons_zero, List.set_cons_succ] at SD120
                      clear SC116
                      generalize World.setCell wc116 _ _ = wd120 at *
                      refine hK.out _ _ ?_ (fun hHeld => ?_)
                      · trivial
                      clear hK K0
                      (try simp only [Act.put, List.setIfInBounds_toArray, List.set_cons_zero, List.set_cons_succ])
                      (try clear hH2)
                      refine wpAnyH_done (by kernel_rfl) ?_ _
                      go_wp2_with fail
                      go_returns
                      refine ⟨rfl, puts S rc, V2, .slice A5 N2 c5, Q2, m, top, ch, HN.out, by omega, hq2, hnm, ?_⟩
                      have eN : N2 = ((P ++ Q2).map du).length := by rw [HN2.out, HN1.out, HNL.out]; simp; omega
                      have eL : ([] ++ poL (P.map du)) ++ poL (Q2.map du) = poL ((P ++ Q2).map du) := by rw [List.map_append, poL_app, List.nil_append]
                      have S9 := SD120.out
                      rw [eL] at S9
                      unfold aWd sPtr
                      rw [← eN]
                      exact (S9.re (show _ = (Asn.vec 80 4 (.slice (some ⟨b2, 0, none⟩) N cap2) N (poL ((P ++ x :: Q2).map du)) * Asn.blk ge 80 #[.int .i64 2, .int .i64 ((x.lv : Int) + 1), .string (ofL x.key), .int .i64 x.page]) * ((Asn.blk g 30 #[.pointer (some ⟨gs, 0, none⟩), vl, .slice A5 N2 c5, .int .i64 m] * (Asn.vec 44 3 vl l.length (cells3 l) * (Asn.vec 80 4 (.slice A5 N2 c5) N2 (poL ((P ++ Q2).map du)) * aSf gs (puts S rc) V2))) * C) by ac_rfl)).right
      · as_aux_lemma =>
          have hk0 : k = 0 := by have := HL.out; omega
          have HK0 := Lib.hid hk0
          obtain ⟨hxl, hxk, -⟩ := HW.out.wg.po x (by simp)
          obtain ⟨cs, po, ps', top', ch', hsp, hpo, hwg, -, hbl⟩ := HW.out.wg.part x.key hxk (x.lv + 1) (by omega) (by omega) (by omega) (fun _ => by omega)
          have hlb := HW.out.wg.len x.key hxk (x.lv + 1) (by omega)
          have hpw : ∃ Q3, ps' = P ++ x :: Q3 ∧ 2 * Q3.length ≤ 2 * Q2.length + 2 := by
            rcases hpo with ⟨-, rfl⟩ | ⟨y, -, rfl⟩
            · exact ⟨Q2, rfl, by omega⟩
            · exact ⟨Q2 ++ [y], by simp, by simp; omega⟩
          have hadd : addP ((P ++ x :: Q2).map du) po = ps'.map du := by
            rcases hpo with ⟨rfl, rfl⟩ | ⟨y, rfl, rfl⟩
            · exact if_pos rfl
            · rw [List.map_append (l₂ := [y])]
              refine if_neg (fun h => ?_)
              have := congrArg Prod.fst h
              exact absurd this (show ¬ ((2 : Int) = 0) by decide)
          have hpo2 : po = po0 ∨ po.1 = 2 := by
            rcases hpo with ⟨h, -⟩ | ⟨y, h, -⟩
            · exact Or.inl h
            · exact Or.inr (by rw [h])
          have hpl2 : ps'.length ≤ m + 2 := by
            have := HW.out.pl
            rcases hpo with ⟨-, rfl⟩ | ⟨y, -, rfl⟩
            · omega
            · rw [List.length_append, List.length_singleton]; omega
          have hmd := Wk.split_md HW.out.sm HW.out.lo 3 ((x.lv + 1 : Nat) : Int) x.key m ((m + 1 : Nat) : Int)
          rw [hsp] at hmd
          have hps3 := Wk.puts_md HW.out.sm HW.out.lo hmd.2
          have S4 := S3.out.right.right
          rw [hR] at S4
          have HPa := Lib.hid (part_law g gs S V vl l vp ((P ++ x :: Q2).map du) m HW.out.sm HW.out.lo ((x.lv + 1 : Nat) : Int) x.key cs po (by omega) (by have := HW.out.pl; rw [List.length_map]; omega) hsp hpo2 w0 w3 (Asn.blk ge 80 #[.int .i64 2, .int .i64 ((x.lv : Int) + 1), .string (ofL x.key), .int .i64 x.page] * C)
            (S4.re (by unfold aWd sPtr; ac_rfl)))
          rw [hadd, show ((x.lv + 1 : Nat) : Int) = (x.lv : Int) + 1 from rfl] at HPa
          obtain ⟨Q3, rfl, hq3⟩ := hpw
          have HN := Lib.hid (show WS (puts S cs) l (P ++ x :: Q3) (m + 2) top' ch' from ⟨hwg, hps3.1, hps3.2, hpl2⟩)
          have HB := Lib.hid (show 2 * (puts S cs (fnd (puts S cs) x.key (ch' (x.lv + 1)))).list.length ≤ 42 - 20 * (k + 1) by omega)
          obtain ⟨e0, e1, e2, e3⟩ := post_cellsB (S4.has (Has.r (Has.l (has_blk ge _ _))))
          clear hk0 S3 hpc HPL HW HL hL3 HM HPS hsp hpo hwg hbl hadd hpo2 hpl2 hmd hps3 S4 hR hlb hxl hxk e0 e3
          go_wp2_with fail
          refine HPa.out.mono ?_
          rintro r w4 ⟨rfl, V2, vp2, hX⟩
          have S5 := Lib.hid hX
          clear hX HPa e1 e2
          go_wp2_with fail
          go_roundw
          case rel => exact ⟨k + 1, puts S cs, Q3, m + 2, top', ch', V2, vp2, by have := HK0.out; omega, by go_num, by omega, by omega, by omega, HN, HB, Lib.hid (S5.out.re (by ac_rfl))⟩
          case measure => simp [intOf]; omega
end Go.Proofs.Ythoaangmekkcmaa.Bk
