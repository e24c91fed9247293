/- The law's world: a put. -/
import Derived.Test.YthoaangmekkcmaaBmJ
import Derived.Test.YthoaangmekkcmaaBkPu
namespace Go.Proofs.Ythoaangmekkcmaa.Bk
open Go.ChangeShapes Go.WideShapes Go.ChangeAt Go.RowKit Go.PlainAid Aid Nt Nd Tr
set_option linter.unusedVariables false
set_option linter.unusedSimpArgs false
set_option linter.unusedSectionVars false
def du (x : Du) : Po := ((2 : Int), ((x.lv + 1 : Nat) : Int), x.key, (x.page : Int))
/-- The world's invariant, for walks. -/
structure WS (S : Sf) (l : List Ent) (ps : List Du) (n top : Nat) (ch : Nat → List Nat) : Prop where
  wg : Wg S l ps n top ch
  sm : Sm S
  lo : LvOk S
  pl : ps.length ≤ n
def bnd : Nat → Nat
  | 0 => 21
  | 1 => 11
  | 2 => 6
  | 3 => 3
  | _ => 2
theorem bnd_next {k a b : Nat} (h : 2 * b ≤ a + 1) (ha : a ≤ bnd k) (h3 : 3 ≤ a) : k ≤ 3 ∧ b ≤ bnd (k + 1) := by
  match k with
  | 0 => simp only [bnd] at *; omega
  | 1 => simp only [bnd] at *; omega
  | 2 => simp only [bnd] at *; omega
  | 3 => simp only [bnd] at *; omega
  | k + 4 => simp only [bnd] at *; omega
theorem lists_le {S : Sf} (k : Nat) : ∀ {A : List Nat}, (∀ a, a ∈ A → (S a).list.length ≤ k) → (lists S A).length ≤ k * A.length
  | [], _ => by simp [lists]
  | a :: A, h => by
    have h1 := h a List.mem_cons_self
    have h2 := lists_le k (fun b hb => h b (List.mem_cons_of_mem _ hb))
    rw [lists_cons, List.length_append, List.length_cons, Nat.mul_succ]
    omega
theorem Wg.rowlen {S : Sf} {l : List Ent} {ps : List Du} {n top : Nat} {ch : Nat → List Nat} (h : Wg S l ps n top ch) : l.length ≤ 5376 := by
  have h1 := h.most (Nat.zero_le top)
  have h2 : (lists S (ch 0)).length ≤ 21 * (ch 0).length := lists_le 21 (fun a ha => by
    obtain ⟨A, B, e⟩ := List.append_of_mem ha
    have hl := h.tree.lvl 0 (Nat.zero_le _)
    rw [e] at hl
    obtain ⟨l', hp⟩ := hl.pos
    exact fits_len hp.ok.ft)
  rw [h.row] at h2
  omega
set_option maxRecDepth 100000 in
set_option maxHeartbeats 16000000 in
theorem put_law (g gs : Nat) (S : Sf) (V : Nat → Value) (vl : Value) (l : List Ent) (vp : Value) (ps : List Du) (n top : Nat) (ch : Nat → List Nat) (e : Ent) (hW : WS S l ps n top ch) (hn : n + 8 < 256) (hk : e.key.length = 9) (hv : e.val.length ≤ 59)
    (w0 w : World) (C : Asn) (hS : Own w0 No w (aWd g gs S V vl l vp (ps.map du) n * C)) :
    Calls Try.prog 24 #[.pointer (some ⟨g, 0, none⟩), .agg (entCells e)] w fun r w' => r = .returned (.bool true) ∧ ∃ S' V' vl' vp' ps' n' top' ch', WS S' (ins e l) ps' n' top' ch' ∧ n' ≤ n + 8 ∧ Own w0 No w' (aWd g gs S' V' vl' (ins e l) vp' (ps'.map du) n' * C) := by
  have HW := Lib.hid hW
  have HL : Hid ((S (fnd S e.key (ch 0))).list.length ≤ bnd 0) := Lib.hid (hW.wg.len e.key hk 0 (Nat.zero_le _))
  have S0 := Lib.hid (hS.alloc #[.string (ofL e.key), .string (ofL e.val), .bool e.ghost] 44)
  unfold entCells
  clear hW hS
  go_enter Try.func24, Try.ntmps24
  go_wp2_with fail
  obtain ⟨ge, hgz⟩ : ∃ g, g = w.heap.size := ⟨_, rfl⟩
  rw [← hgz] at S0 ⊢
  clear hgz
  generalize World.alloc w _ = w1 at *
  go_loopw [5] (fun i wr => ∃ (k : Nat) (S : Sf) (ps : List Du) (m top : Nat) (ch : Nat → List Nat) (V : Nat → Value) (vp : Value), k ≤ 4 ∧ i = .int .i64 k ∧ m ≤ n + 2 * k ∧ Hid (WS S l ps m top ch) ∧ Hid ((S (fnd S e.key (ch 0))).list.length ≤ bnd k) ∧
    Hid (Own w0 No wr (Asn.blk ge 44 #[.string (ofL e.key), .string (ofL e.val), .bool e.ghost] * (aWd g gs S V vl l vp (ps.map du) m * C)))) (fun i _ => 5 - (intOf i).toNat)
  case atStart => exact ⟨0, S, ps, n, top, ch, V, vp, by omega, rfl, by omega, HW, HL, S0⟩
  case round =>
    clear S0 HL HW
    obtain ⟨k, S, ps, m, top, ch, V, vp, hk4, rfl, hm, HW, HL, S1⟩ := hrel
    unfold aWd sPtr at S1
    have hk5 : (k : Int) < 5 := by omega
    have hput := HW.out.wg.put e hk hv
    have hmd := Wk.put_md HW.out.sm HW.out.lo 3 e
    have HPt := Lib.hid (fun W C h => Put_any gs S V HW.out.sm HW.out.lo 3 e w0 W C h)
    have hps2 := Wk.puts_md HW.out.sm HW.out.lo hmd.2
    unfold pgs entCells at HPt
    generalize hr : putR S 3 e = r at *
    obtain ⟨re, rc⟩ := r
    dsimp only at hput hmd HPt hps2
    have HM := Lib.hid hmd
    have HPL := Lib.hid hput
    have HPS := Lib.hid hps2
    clear hmd hput hr hps2
    obtain ⟨⟨e0, e1, e2⟩, -⟩ := three_ofE (S1.out.has (Has.l (has_blk ge _ _)))
    have c0 := (S1.out.has (Has.r (Has.l (Has.l (has_blk g _ _))))).cell 0
    rw [show (#[Value.pointer (some ⟨gs, 0, none⟩), vl, vp, .int .i64 (m : Int)] : Array Value)[0]? = some (.pointer (some ⟨gs, 0, none⟩)) from rfl] at c0
    go_upto_region 4 with fail
    obtain ⟨R, hR⟩ : ∃ R : Asn, R = Asn.vec 44 3 vl l.length (cells3 l) * (Asn.vec 80 4 vp (ps.map du).length (poL (ps.map du)) * C) := ⟨_, rfl⟩
    have S2 := Lib.hid (S1.out.drew.re (show _ = aSf gs S V * (Asn.blk ge 44 #[.string (ofL e.key), .string (ofL e.val), .bool e.ghost] * (Asn.blk g 30 #[.pointer (some ⟨gs, 0, none⟩), vl, vp, .int .i64 m] * (Asn.vec 44 3 vl l.length (cells3 l) * (Asn.vec 80 4 vp (ps.map du).length (poL (ps.map du)) * C)))) by ac_rfl))
    rw [← hR] at S2
    clear S1
    refine wp_region_held_drew (S := fun W : World => W.cell? ⟨g, 0, none⟩ = some (.pointer (some ⟨gs, 0, none⟩)) ∧ W.cell? ⟨ge, 0, none⟩ = some (.string (ofL e.key)) ∧ W.cell? ⟨ge, 1, none⟩ = some (.string (ofL e.val)) ∧ W.cell? ⟨ge, 2, none⟩ = some (.bool e.ghost)) (by kernel_rfl) ⟨c0, e0, e1, e2⟩ (fun hHeld => ?_)
    clear c0 e0 e1 e2
    generalize wr.drew = w2 at *
    refine' wpAnyH_take (i := 0) (oi := ?ot25z0) (v := ?vt25z0) ?ht25z0 ?st25z0 ?ft25z0 ?zt25z0 ?qt25z0 ?yt25z0 ?at25z0 ?rt25z0
    case ht25z0 => (simp only [List.getElem?_toArray, List.getElem?_cons_succ, List.getElem?_cons_zero]; rfl)
    case st25z0 => kernel_rfl
    case ft25z0 => kernel_rfl
    case zt25z0 => kernel_rfl
    case qt25z0 => exact fun _ _ _ h => h
    case yt25z0 => (refine Or.inl ⟨rfl, ?_⟩; intro w hSw; (try dsimp only at hSw); go_simp; try with_reducible rfl)
    case at25z0 => assumption
    case rt25z0 =>
    simp only [Act.put, List.setIfInBounds_toArray, List.set_cons_zero, List.set_cons_succ]
    refine' wpAnyH_take (i := 1) (oi := ?ot26z1) (v := ?vt26z1) ?ht26z1 ?st26z1 ?ft26z1 ?zt26z1 ?qt26z1 ?yt26z1 ?at26z1 ?rt26z1
    case ht26z1 => (simp only [List.getElem?_toArray, List.getElem?_cons_succ, List.getElem?_cons_zero]; rfl)
    case st26z1 => kernel_rfl
    case ft26z1 => kernel_rfl
    case zt26z1 => kernel_rfl
    case qt26z1 => exact fun _ _ _ h => h
    case yt26z1 => (refine Or.inl ⟨rfl, ?_⟩; intro w hSw; (try dsimp only at hSw); go_simp; try with_reducible rfl)
    case at26z1 => assumption
    case rt26z1 =>
    simp only [Act.put, List.setIfInBounds_toArray, List.set_cons_zero, List.set_cons_succ]
    refine' wpAnyH_take (i := 2) (oi := ?ot27z2) (v := ?vt27z2) ?ht27z2 ?st27z2 ?ft27z2 ?zt27z2 ?qt27z2 ?yt27z2 ?at27z2 ?rt27z2
    case ht27z2 => (simp only [List.getElem?_toArray, List.getElem?_cons_succ, List.getElem?_cons_zero]; rfl)
    case st27z2 => kernel_rfl
    case ft27z2 => kernel_rfl
    case zt27z2 => kernel_rfl
    case qt27z2 => exact fun _ _ _ h => h
    case yt27z2 => (refine Or.inl ⟨rfl, ?_⟩; intro w hSw; (try dsimp only at hSw); go_simp; try with_reducible rfl)
    case at27z2 => assumption
    case rt27z2 =>
    simp only [Act.put, List.setIfInBounds_toArray, List.set_cons_zero, List.set_cons_succ]
    refine' wpAnyH_take (i := 3) (oi := ?ot28z3) (v := ?vt28z3) ?ht28z3 ?st28z3 ?ft28z3 ?zt28z3 ?qt28z3 ?yt28z3 ?at28z3 ?rt28z3
    case ht28z3 => (simp only [List.getElem?_toArray, List.getElem?_cons_succ, List.getElem?_cons_zero]; rfl)
    case st28z3 => kernel_rfl
    case ft28z3 => kernel_rfl
    case zt28z3 => kernel_rfl
    case qt28z3 => exact fun _ _ _ h => h
    case yt28z3 => (refine Or.inl ⟨rfl, ?_⟩; intro w hSw; obtain ⟨hS1, hS2, hS3, hS4⟩ := hSw; go_simp; try with_reducible rfl)
    case at28z3 => assumption
    case rt28z3 =>
    simp only [Act.put, List.setIfInBounds_toArray, List.set_cons_zero, List.set_cons_succ]
    refine' wpAnyH_take (i := 4) (oi := ?ot29z4) (v := ?vt29z4) ?ht29z4 ?st29z4 ?ft29z4 ?zt29z4 ?qt29z4 ?yt29z4 ?at29z4 ?rt29z4
    case ht29z4 => (simp only [List.getElem?_toArray, List.getElem?_cons_succ, List.getElem?_cons_zero]; rfl)
    case st29z4 => kernel_rfl
    case ft29z4 => kernel_rfl
    case zt29z4 => kernel_rfl
    case qt29z4 => exact fun _ _ _ h => h
    case yt29z4 => (refine Or.inl ⟨rfl, ?_⟩; intro w hSw; (try dsimp only at hSw); go_simp; try with_reducible rfl)
    case at29z4 => assumption
    case rt29z4 =>
    simp only [Act.put, List.setIfInBounds_toArray, List.set_cons_zero, List.set_cons_succ]
    refine' wpAnyH_take (i := 5) (oi := ?ot30z5) (v := ?vt30z5) ?ht30z5 ?st30z5 ?ft30z5 ?zt30z5 ?qt30z5 ?yt30z5 ?at30z5 ?rt30z5
    case ht30z5 => (simp only [List.getElem?_toArray, List.getElem?_cons_succ, List.getElem?_cons_zero]; rfl)
    case st30z5 => kernel_rfl
    case ft30z5 => kernel_rfl
    case zt30z5 => kernel_rfl
    case qt30z5 => exact fun _ _ _ h => h
    case yt30z5 => (refine Or.inl ⟨rfl, ?_⟩; intro w hSw; obtain ⟨hS1, hS2, hS3, hS4⟩ := hSw; go_simp; try with_reducible rfl)
    case at30z5 => assumption
    case rt30z5 =>
    simp only [Act.put, List.setIfInBounds_toArray, List.set_cons_zero, List.set_cons_succ]
    refine wpAnyH_ready (rs := [6]) (by kernel_rfl) (by simp) ?_
    refine' AllReadyH.cons (o := ?ob31z6) ?hb31z6 ?kb31z6 AllReadyH.nil
    case hb31z6 => (simp only [List.getElem?_toArray, List.getElem?_cons_succ, List.getElem?_cons_zero]; rfl)
    case kb31z6 =>
      intro K0 hK
      go_simp
      refine (HPt.out w2 _ S2.out).mono ?_
      rintro r w3 ⟨v, L, rfl, hpl, hX⟩
      obtain ⟨A, c, hvs⟩ := hX.vec.slice
      subst hvs
      have S3 := Lib.hid hX
      clear hX S2 HPt
      have hL3 : L.length = rc.length := by
        have h1 := congrArg List.length hpl
        simp only [plain, List.length_map] at h1
        exact h1
      refine hK.out _ _ ?_ (fun hHeld => ?_)
      · obtain ⟨⟨q0, q1, q2⟩, -⟩ := three_ofE (S3.out.has (Has.r (Has.r (Has.r (Has.l (has_blk ge _ _))))))
        exact ⟨(S3.out.has (Has.r (Has.r (Has.r (Has.r (Has.l (has_blk g _ _))))))).cell 0, q0, q1, q2⟩
      clear hK K0
      (try simp only [Act.put, List.setIfInBounds_toArray, List.set_cons_zero, List.set_cons_succ])
      (try clear hH2)
      refine' wpAnyH_take (i := 7) (oi := ?ot33z7) (v := ?vt33z7) ?ht33z7 ?st33z7 ?ft33z7 ?zt33z7 ?qt33z7 ?yt33z7 ?at33z7 ?rt33z7
      case ht33z7 => (simp only [List.getElem?_toArray, List.getElem?_cons_succ, List.getElem?_cons_zero]; rfl)
      case st33z7 => kernel_rfl
      case ft33z7 => kernel_rfl
      case zt33z7 => kernel_rfl
      case qt33z7 => exact fun _ _ _ h => h
      case yt33z7 => (refine Or.inl ⟨rfl, ?_⟩; intro w hSw; (try dsimp only at hSw); go_simp; try with_reducible rfl)
      case at33z7 => assumption
      case rt33z7 =>
      simp only [Act.put, List.setIfInBounds_toArray, List.set_cons_zero, List.set_cons_succ]
      refine' wpAnyH_take (i := 8) (oi := ?ot34z8) (v := ?vt34z8) ?ht34z8 ?st34z8 ?ft34z8 ?zt34z8 ?qt34z8 ?yt34z8 ?at34z8 ?rt34z8
      case ht34z8 => (simp only [List.getElem?_toArray, List.getElem?_cons_succ, List.getElem?_cons_zero]; rfl)
      case st34z8 => kernel_rfl
      case ft34z8 => kernel_rfl
      case zt34z8 => kernel_rfl
      case qt34z8 => exact fun _ _ _ h => h
      case yt34z8 => (refine Or.inl ⟨rfl, ?_⟩; intro w hSw; (try dsimp only at hSw); go_simp; try with_reducible rfl)
      case at34z8 => assumption
      case rt34z8 =>
      simp only [Act.put, List.setIfInBounds_toArray, List.set_cons_zero, List.set_cons_succ]
      refine' wpAnyH_take (i := 9) (oi := ?ot35z9) (v := ?vt35z9) ?ht35z9 ?st35z9 ?ft35z9 ?zt35z9 ?qt35z9 ?yt35z9 ?at35z9 ?rt35z9
      case ht35z9 => (simp only [List.getElem?_toArray, List.getElem?_cons_succ, List.getElem?_cons_zero]; rfl)
      case st35z9 => kernel_rfl
      case ft35z9 => kernel_rfl
      case zt35z9 => kernel_rfl
      case qt35z9 => exact fun _ _ _ h => h
      case yt35z9 => (refine Or.inl ⟨rfl, ?_⟩; intro w hSw; (try dsimp only at hSw); go_simp; try with_reducible rfl)
      case at35z9 => assumption
      case rt35z9 =>
      simp only [Act.put, List.setIfInBounds_toArray, List.set_cons_zero, List.set_cons_succ]
      refine' wpAnyH_take (i := 10) (oi := ?ot36z10) (v := ?vt36z10) ?ht36z10 ?st36z10 ?ft36z10 ?zt36z10 ?qt36z10 ?yt36z10 ?at36z10 ?rt36z10
      case ht36z10 => (simp only [List.getElem?_toArray, List.getElem?_cons_succ, List.getElem?_cons_zero]; rfl)
      case st36z10 => kernel_rfl
      case ft36z10 => kernel_rfl
      case zt36z10 => kernel_rfl
      case qt36z10 => exact fun _ _ _ h => h
      case yt36z10 => (refine Or.inl ⟨rfl, ?_⟩; intro w hSw; (try dsimp only at hSw); go_simp; try with_reducible rfl)
      case at36z10 => assumption
      case rt36z10 =>
      simp only [Act.put, List.setIfInBounds_toArray, List.set_cons_zero, List.set_cons_succ]
      refine' wpAnyH_take (i := 11) (oi := ?ot37z11) (v := ?vt37z11) ?ht37z11 ?st37z11 ?ft37z11 ?zt37z11 ?qt37z11 ?yt37z11 ?at37z11 ?rt37z11
      case ht37z11 => (simp only [List.getElem?_toArray, List.getElem?_cons_succ, List.getElem?_cons_zero]; rfl)
      case st37z11 => kernel_rfl
      case ft37z11 => kernel_rfl
      case zt37z11 => kernel_rfl
      case qt37z11 => exact fun _ _ _ h => h
      case yt37z11 => (refine Or.inl ⟨rfl, ?_⟩; intro w hSw; (try dsimp only at hSw); go_simp; try with_reducible rfl)
      case at37z11 => assumption
      case rt37z11 =>
      simp only [Act.put, List.setIfInBounds_toArray, List.set_cons_zero, List.set_cons_succ]
      refine wpAnyH_done (by kernel_rfl) ?_ _
      rcases HPL.out with ⟨rfl, hlen, hwg⟩ | ⟨rfl, h3⟩
      · as_aux_lemma =>
          have hL1 := hL3.trans hlen
          have HN := Lib.hid (show WS (puts S rc) (ins e l) ps m top ch from ⟨hwg, HPS.out.1, HPS.out.2, HW.out.pl⟩)
          have HI := Lib.hid HW.out.wg.srt
          have HRL := Lib.hid HW.out.wg.rowlen
          have HKL : Hid (∀ x, x ∈ l → x.key.length = 9) := Lib.hid (by rw [← HW.out.wg.row]; exact tree_len HW.out.wg.tree)
          rw [hL1] at S3
          have HPu := Lib.hid (ShPut_own gs S V L 1 hL1 (.slice A 1 c) w0 w3 _ (by decide) (by rw [hpl]; exact fun x hx => (HM.out.2 x hx).1) S3.out)
          rw [hpl] at HPu
          have c0 := (S3.out.has (Has.r (Has.r (Has.r (Has.r (Has.l (has_blk g _ _))))))).cell 0
          rw [show (#[Value.pointer (some ⟨gs, 0, none⟩), vl, vp, .int .i64 (m : Int)] : Array Value)[0]? = some (.pointer (some ⟨gs, 0, none⟩)) from rfl] at c0
          unfold sPtr at HPu
          clear S3 hpl hwg HPL HW HL hL3 HM HPS
          rw [hlen]
          clear hlen
          go_wp2_with fail
          refine HPu.out.mono ?_
          rintro r w4 ⟨rfl, V2, hX⟩
          rw [hR] at hX
          have S4 := Lib.hid (hX.re (show _ = Asn.vec 44 3 vl l.length (cells3 l) * (Asn.blk ge 44 #[.string (ofL e.key), .string (ofL e.val), .bool e.ghost] * (Asn.blk g 30 #[.pointer (some ⟨gs, 0, none⟩), vl, vp, .int .i64 m] * (aSf gs (puts S rc) V2 * (Asn.vec 80 4 vp (ps.map du).length (poL (ps.map du)) * C)))) by ac_rfl))
          clear hX HPu c0
          obtain ⟨⟨e0, e1, e2⟩, -⟩ := three_ofE (S4.out.has (Has.r (Has.l (has_blk ge _ _))))
          obtain ⟨c0, c1, c2, c3⟩ := post_cellsB (S4.out.has (Has.r (Has.r (Has.l (has_blk g _ _)))))
          clear c0 c2 c3
          clear e0 e1 e2 c1
          go_upto_region 11 with fail
          refine wp_region_held_drew (S := fun W : World => True) (by kernel_rfl) trivial (fun hHeld => ?_)
          have S5 := Lib.hid S4.out.drew
          clear S4
          generalize w4.drew = w5 at *
          refine' wpAnyH_take (i := 0) (oi := ?ot1z0) (v := ?vt1z0) ?ht1z0 ?st1z0 ?ft1z0 ?zt1z0 ?qt1z0 ?yt1z0 ?at1z0 ?rt1z0
          case ht1z0 => (simp only [List.getElem?_toArray, List.getElem?_cons_succ, List.getElem?_cons_zero]; rfl)
          case st1z0 => kernel_rfl
          case ft1z0 => kernel_rfl
          case zt1z0 => kernel_rfl
          case qt1z0 => exact fun _ _ _ h => h
          case yt1z0 => (refine Or.inl ⟨rfl, ?_⟩; intro w hSw; (try dsimp only at hSw); go_simp; try with_reducible rfl)
          case at1z0 => assumption
          case rt1z0 =>
          simp only [Act.put, List.setIfInBounds_toArray, List.set_cons_zero, List.set_cons_succ]
          refine' wpAnyH_take (i := 1) (oi := ?ot2z1) (v := ?vt2z1) ?ht2z1 ?st2z1 ?ft2z1 ?zt2z1 ?qt2z1 ?yt2z1 ?at2z1 ?rt2z1
          case ht2z1 => (simp only [List.getElem?_toArray, List.getElem?_cons_succ, List.getElem?_cons_zero]; rfl)
          case st2z1 => kernel_rfl
          case ft2z1 => kernel_rfl
          case zt2z1 => kernel_rfl
          case qt2z1 => exact fun _ _ _ h => h
          case yt2z1 => (refine Or.inl ⟨rfl, ?_⟩; intro w hSw; (try dsimp only at hSw); go_simp; try with_reducible rfl)
          case at2z1 => assumption
          case rt2z1 =>
          simp only [Act.put, List.setIfInBounds_toArray, List.set_cons_zero, List.set_cons_succ]
          refine' wpAnyH_take (i := 2) (oi := ?ot3z2) (v := ?vt3z2) ?ht3z2 ?st3z2 ?ft3z2 ?zt3z2 ?qt3z2 ?yt3z2 ?at3z2 ?rt3z2
          case ht3z2 => (simp only [List.getElem?_toArray, List.getElem?_cons_succ, List.getElem?_cons_zero]; rfl)
          case st3z2 => kernel_rfl
          case ft3z2 => kernel_rfl
          case zt3z2 => kernel_rfl
          case qt3z2 => exact fun _ _ _ h => h
          case yt3z2 => (refine Or.inl ⟨rfl, ?_⟩; intro w hSw; (try dsimp only at hSw); go_simp; try with_reducible rfl)
          case at3z2 => assumption
          case rt3z2 =>
          simp only [Act.put, List.setIfInBounds_toArray, List.set_cons_zero, List.set_cons_succ]
          refine' wpAnyH_take (i := 3) (oi := ?ot4z3) (v := ?vt4z3) ?ht4z3 ?st4z3 ?ft4z3 ?zt4z3 ?qt4z3 ?yt4z3 ?at4z3 ?rt4z3
          case ht4z3 => (simp only [List.getElem?_toArray, List.getElem?_cons_succ, List.getElem?_cons_zero]; rfl)
          case st4z3 => kernel_rfl
          case ft4z3 => kernel_rfl
          case zt4z3 => kernel_rfl
          case qt4z3 => exact fun _ _ _ h => h
          case yt4z3 => (refine Or.inl ⟨rfl, ?_⟩; intro w hSw; (try dsimp only at hSw); go_simp; try with_reducible rfl)
          case at4z3 => assumption
          case rt4z3 =>
          simp only [Act.put, List.setIfInBounds_toArray, List.set_cons_zero, List.set_cons_succ]
          refine wpAnyH_ready (rs := [4, 5]) (by kernel_rfl) (by simp) ?_
          refine' AllReadyH.cons (o := ?ob5z4) ?hb5z4 ?kb5z4 ?mb5z4
          case hb5z4 => (simp only [List.getElem?_toArray, List.getElem?_cons_succ, List.getElem?_cons_zero]; rfl)
          case kb5z4 =>
            intro K0 hK
            have cc := (S5.out.has (Has.r (Has.r (Has.l (has_blk g _ _))))).cell 1
            rw [show (#[Value.pointer (some ⟨gs, 0, none⟩), vl, vp, .int .i64 (m : Int)] : Array Value)[1]? = some vl from rfl] at cc
            go_simp
            clear cc
            refine hK.out _ _ ?_ (fun hHeld => ?_)
            · trivial
            clear hK K0
            (try simp only [Act.put, List.setIfInBounds_toArray, List.set_cons_zero, List.set_cons_succ])
            (try clear hH2)
            refine wpAnyH_ready (rs := [5]) (by kernel_rfl) (by simp) ?_
            refine' AllReadyH.cons (o := ?ob7z5) ?hb7z5 ?kb7z5 AllReadyH.nil
            case hb7z5 => (simp only [List.getElem?_toArray, List.getElem?_cons_succ, List.getElem?_cons_zero]; rfl)
            case kb7z5 =>
              intro K0 hK
              obtain ⟨⟨e0, e1, e2⟩, -⟩ := three_ofE (S5.out.has (Has.r (Has.l (has_blk ge _ _))))
              go_simp
              clear e0 e1 e2
              refine hK.out _ _ ?_ (fun hHeld => ?_)
              · trivial
              clear hK K0
              (try simp only [Act.put, List.setIfInBounds_toArray, List.set_cons_zero, List.set_cons_succ])
              (try clear hH2)
              refine wpAnyH_ready (rs := [6]) (by kernel_rfl) (by simp) ?_
              refine' AllReadyH.cons (o := ?ob9z6) ?hb9z6 ?kb9z6 AllReadyH.nil
              case hb9z6 => (simp only [List.getElem?_toArray, List.getElem?_cons_succ, List.getElem?_cons_zero]; rfl)
              case kb9z6 =>
                intro K0 hK
                have HRp := Lib.hid (refPut_any l e vl w5 (by have := HRL.out; omega) (Row3.of_vec S5.out.vec) (fun x hx => by rw [HKL.out x hx]; decide) (by rw [hk]; decide))
                rw [putE_ins HI.out] at HRp
                unfold entCells at HRp
                go_simp
                refine HRp.out.mono ?_
                rintro r wp10 ⟨v7, rfl, hX⟩
                have hT := own_join S5.out hX
                obtain ⟨A8, c8, hv7⟩ := hT.vec.slice
                subst hv7
                have SP10 := Lib.hid (hT.re (show _ = (Asn.vec 44 3 vl l.length (cells3 l) * Asn.blk ge 44 #[.string (ofL e.key), .string (ofL e.val), .bool e.ghost]) * (Asn.blk g 30 #[.pointer (some ⟨gs, 0, none⟩), vl, vp, .int .i64 m] * (Asn.vec 44 3 (.slice A8 (ins e l).length c8) (ins e l).length (cells3 (ins e l)) * (aSf gs (puts S rc) V2 * (Asn.vec 80 4 vp (ps.map du).length (poL (ps.map du)) * C)))) by ac_rfl)).right
                clear hT hX S5 HRp
                refine hK.out _ _ ?_ (fun hHeld => ?_)
                · trivial
                clear hK K0
                (try simp only [Act.put, List.setIfInBounds_toArray, List.set_cons_zero, List.set_cons_succ])
                (try clear hH2)
                refine' wpAnyH_take (i := 7) (oi := ?ot11z7) (v := ?vt11z7) ?ht11z7 ?st11z7 ?ft11z7 ?zt11z7 ?qt11z7 ?yt11z7 ?at11z7 ?rt11z7
                case ht11z7 => (simp only [List.getElem?_toArray, List.getElem?_cons_succ, List.getElem?_cons_zero]; rfl)
                case st11z7 => kernel_rfl
                case ft11z7 => kernel_rfl
                case zt11z7 => kernel_rfl
                case qt11z7 => exact fun _ _ _ h => h
                case yt11z7 => (refine Or.inl ⟨rfl, ?_⟩; intro w hSw; (try dsimp only at hSw); go_simp; try with_reducible rfl)
                case at11z7 => assumption
                case rt11z7 =>
                simp only [Act.put, List.setIfInBounds_toArray, List.set_cons_zero, List.set_cons_succ]
                refine' wpAnyH_take (i := 8) (oi := ?ot12z8) (v := ?vt12z8) ?ht12z8 ?st12z8 ?ft12z8 ?zt12z8 ?qt12z8 ?yt12z8 ?at12z8 ?rt12z8
                case ht12z8 => (simp only [List.getElem?_toArray, List.getElem?_cons_succ, List.getElem?_cons_zero]; rfl)
                case st12z8 => kernel_rfl
                case ft12z8 => kernel_rfl
                case zt12z8 => kernel_rfl
                case qt12z8 => exact fun _ _ _ h => h
                case yt12z8 => (refine Or.inl ⟨rfl, ?_⟩; intro w hSw; (try dsimp only at hSw); go_simp; try with_reducible rfl)
                case at12z8 => assumption
                case rt12z8 =>
                simp only [Act.put, List.setIfInBounds_toArray, List.set_cons_zero, List.set_cons_succ]
                refine wpAnyH_ready (rs := [9]) (by kernel_rfl) (by simp) ?_
                refine' AllReadyH.cons (o := ?ob13z9) ?hb13z9 ?kb13z9 AllReadyH.nil
                case hb13z9 => (simp only [List.getElem?_toArray, List.getElem?_cons_succ, List.getElem?_cons_zero]; rfl)
                case kb13z9 =>
                  intro K0 hK
                  have cc := (SP10.out.has (Has.l (has_blk g _ _))).cell 1
                  rw [show (#[Value.pointer (some ⟨gs, 0, none⟩), vl, vp, .int .i64 (m : Int)] : Array Value)[1]? = some vl from rfl] at cc
                  have f1 := (SP10.out.has (Has.l (has_blk g _ _))).free 1
                  go_simp
                  clear cc f1
                  have SQ14 := Lib.hid (SP10.out.set (Sets.l (sets_blk g _ _ 1 (.slice A8 (ins e l).length c8))))
                  simp only [List.setIfInBounds_toArray, List.set_cons_zero, List.set_cons_succ] at SQ14
                  clear SP10
                  generalize World.setCell wp10 _ _ = wq14 at *
                  refine hK.out _ _ ?_ (fun hHeld => ?_)
                  · trivial
                  clear hK K0
                  (try simp only [Act.put, List.setIfInBounds_toArray, List.set_cons_zero, List.set_cons_succ])
                  (try clear hH2)
                  refine wpAnyH_done (by kernel_rfl) ?_ _
                  go_wp2_with fail
                  go_returns
                  refine ⟨rfl, puts S rc, V2, .slice A8 (ins e l).length c8, vp, ps, m, top, ch, HN.out, by omega, ?_⟩
                  unfold aWd sPtr
                  exact SQ14.out.re (by ac_rfl)
          case mb5z4 =>
          refine' AllReadyH.cons (o := ?ob15z5) ?hb15z5 ?kb15z5 AllReadyH.nil
          case hb15z5 => (simp only [List.getElem?_toArray, List.getElem?_cons_succ, List.getElem?_cons_zero]; rfl)
          case kb15z5 =>
            intro K0 hK
            obtain ⟨⟨e0, e1, e2⟩, -⟩ := three_ofE (S5.out.has (Has.r (Has.l (has_blk ge _ _))))
            go_simp
            clear e0 e1 e2
            refine hK.out _ _ ?_ (fun hHeld => ?_)
            · trivial
            clear hK K0
            (try simp only [Act.put, List.setIfInBounds_toArray, List.set_cons_zero, List.set_cons_succ])
            (try clear hH2)
            refine wpAnyH_ready (rs := [4]) (by kernel_rfl) (by simp) ?_
            refine' AllReadyH.cons (o := ?ob17z4) ?hb17z4 ?kb17z4 AllReadyH.nil
            case hb17z4 => (simp only [List.getElem?_toArray, List.getElem?_cons_succ, List.getElem?_cons_zero]; rfl)
            case kb17z4 =>
              intro K0 hK
              have cc := (S5.out.has (Has.r (Has.r (Has.l (has_blk g _ _))))).cell 1
              rw [show (#[Value.pointer (some ⟨gs, 0, none⟩), vl, vp, .int .i64 (m : Int)] : Array Value)[1]? = some vl from rfl] at cc
              go_simp
              clear cc
              refine hK.out _ _ ?_ (fun hHeld => ?_)
              · trivial
              clear hK K0
              (try simp only [Act.put, List.setIfInBounds_toArray, List.set_cons_zero, List.set_cons_succ])
              (try clear hH2)
              refine wpAnyH_ready (rs := [6]) (by kernel_rfl) (by simp) ?_
              refine' AllReadyH.cons (o := ?ob19z6) ?hb19z6 ?kb19z6 AllReadyH.nil
              case hb19z6 => (simp only [List.getElem?_toArray, List.getElem?_cons_succ, List.getElem?_cons_zero]; rfl)
              case kb19z6 =>
                intro K0 hK
                have HRp := Lib.hid (refPut_any l e vl w5 (by have := HRL.out; omega) (Row3.of_vec S5.out.vec) (fun x hx => by rw [HKL.out x hx]; decide) (by rw [hk]; decide))
                rw [putE_ins HI.out] at HRp
                unfold entCells at HRp
                go_simp
                refine HRp.out.mono ?_
                rintro r wp20 ⟨v7, rfl, hX⟩
                have hT := own_join S5.out hX
                obtain ⟨A8, c8, hv7⟩ := hT.vec.slice
                subst hv7
                have SP20 := Lib.hid (hT.re (show _ = (Asn.vec 44 3 vl l.length (cells3 l) * Asn.blk ge 44 #[.string (ofL e.key), .string (ofL e.val), .bool e.ghost]) * (Asn.blk g 30 #[.pointer (some ⟨gs, 0, none⟩), vl, vp, .int .i64 m] * (Asn.vec 44 3 (.slice A8 (ins e l).length c8) (ins e l).length (cells3 (ins e l)) * (aSf gs (puts S rc) V2 * (Asn.vec 80 4 vp (ps.map du).length (poL (ps.map du)) * C)))) by ac_rfl)).right
                clear hT hX S5 HRp
                refine hK.out _ _ ?_ (fun hHeld => ?_)
                · trivial
                clear hK K0
                (try simp only [Act.put, List.setIfInBounds_toArray, List.set_cons_zero, List.set_cons_succ])
                (try clear hH2)
                refine' wpAnyH_take (i := 7) (oi := ?ot21z7) (v := ?vt21z7) ?ht21z7 ?st21z7 ?ft21z7 ?zt21z7 ?qt21z7 ?yt21z7 ?at21z7 ?rt21z7
                case ht21z7 => (simp only [List.getElem?_toArray, List.getElem?_cons_succ, List.getElem?_cons_zero]; rfl)
                case st21z7 => kernel_rfl
                case ft21z7 => kernel_rfl
                case zt21z7 => kernel_rfl
                case qt21z7 => exact fun _ _ _ h => h
                case yt21z7 => (refine Or.inl ⟨rfl, ?_⟩; intro w hSw; (try dsimp only at hSw); go_simp; try with_reducible rfl)
                case at21z7 => assumption
                case rt21z7 =>
                simp only [Act.put, List.setIfInBounds_toArray, List.set_cons_zero, List.set_cons_succ]
                refine' wpAnyH_take (i := 8) (oi := ?ot22z8) (v := ?vt22z8) ?ht22z8 ?st22z8 ?ft22z8 ?zt22z8 ?qt22z8 ?yt22z8 ?at22z8 ?rt22z8
                case ht22z8 => (simp only [List.getElem?_toArray, List.getElem?_cons_succ, List.getElem?_cons_zero]; rfl)
                case st22z8 => kernel_rfl
                case ft22z8 => kernel_rfl
                case zt22z8 => kernel_rfl
                case qt22z8 => exact fun _ _ _ h => h
                case yt22z8 => (refine Or.inl ⟨rfl, ?_⟩; intro w hSw; (try dsimp only at hSw); go_simp; try with_reducible rfl)
                case at22z8 => assumption
                case rt22z8 =>
                simp only [Act.put, List.setIfInBounds_toArray, List.set_cons_zero, List.set_cons_succ]
                refine wpAnyH_ready (rs := [9]) (by kernel_rfl) (by simp) ?_
                refine' AllReadyH.cons (o := ?ob23z9) ?hb23z9 ?kb23z9 AllReadyH.nil
                case hb23z9 => (simp only [List.getElem?_toArray, List.getElem?_cons_succ, List.getElem?_cons_zero]; rfl)
                case kb23z9 =>
                  intro K0 hK
                  have cc := (SP20.out.has (Has.l (has_blk g _ _))).cell 1
                  rw [show (#[Value.pointer (some ⟨gs, 0, none⟩), vl, vp, .int .i64 (m : Int)] : Array Value)[1]? = some vl from rfl] at cc
                  have f1 := (SP20.out.has (Has.l (has_blk g _ _))).free 1
                  go_simp
                  clear cc f1
                  have SQ24 := Lib.hid (SP20.out.set (Sets.l (sets_blk g _ _ 1 (.slice A8 (ins e l).length c8))))
                  simp only [List.setIfInBounds_toArray, List.set_cons_zero, List.set_cons_succ] at SQ24
                  clear SP20
                  generalize World.setCell wp20 _ _ = wq24 at *
                  refine hK.out _ _ ?_ (fun hHeld => ?_)
                  · trivial
                  clear hK K0
                  (try simp only [Act.put, List.setIfInBounds_toArray, List.set_cons_zero, List.set_cons_succ])
                  (try clear hH2)
                  refine wpAnyH_done (by kernel_rfl) ?_ _
                  go_wp2_with fail
                  go_returns
                  refine ⟨rfl, puts S rc, V2, .slice A8 (ins e l).length c8, vp, ps, m, top, ch, HN.out, by omega, ?_⟩
                  unfold aWd sPtr
                  exact SQ24.out.re (by ac_rfl)
      · as_aux_lemma =>
          have hk3 := bnd_next (b := 0) (by omega) HL.out h3
          obtain ⟨cs, po, ps', top', ch', hsp, hpo, hwg, -, hbl⟩ := HW.out.wg.part e.key hk 0 (Nat.zero_le _) (by omega) (by omega) (fun h => absurd h (by omega))
          have hk4' := bnd_next hbl HL.out h3
          have hsp' : splitR S 3 0 e.key m ((m + 1 : Nat) : Int) = (0, cs, po) := hsp
          have hadd : addP (ps.map du) po = ps'.map du := by
            rcases hpo with ⟨rfl, rfl⟩ | ⟨x, rfl, rfl⟩
            · exact if_pos rfl
            · rw [List.map_append]
              refine if_neg (fun h => ?_)
              have := congrArg Prod.fst h
              exact absurd this (show ¬ ((2 : Int) = 0) by decide)
          have hpo2 : po = po0 ∨ po.1 = 2 := by
            rcases hpo with ⟨h, -⟩ | ⟨x, h, -⟩
            · exact Or.inl h
            · exact Or.inr (by rw [h])
          have hpl2 : ps'.length ≤ m + 2 := by
            have := HW.out.pl
            rcases hpo with ⟨-, rfl⟩ | ⟨x, -, rfl⟩
            · omega
            · simp; omega
          have hmd := Wk.split_md HW.out.sm HW.out.lo 3 0 e.key m ((m + 1 : Nat) : Int)
          rw [hsp'] at hmd
          have hps3 := Wk.puts_md HW.out.sm HW.out.lo hmd.2
          have HN := Lib.hid (show WS (puts S cs) l ps' (m + 2) top' ch' from ⟨hwg, hps3.1, hps3.2, hpl2⟩)
          have HB := Lib.hid hk4'.2
          have S4 := S3.out.right.right
          rw [hR] at S4
          have HPa := Lib.hid (part_law g gs S V vl l vp (ps.map du) m HW.out.sm HW.out.lo 0 e.key cs po (by omega) (by have := HW.out.pl; rw [List.length_map]; omega) hsp' hpo2 w0 w3 (Asn.blk ge 44 #[.string (ofL e.key), .string (ofL e.val), .bool e.ghost] * C)
            (S4.re (by unfold aWd sPtr; ac_rfl)))
          rw [hadd] at HPa
          obtain ⟨⟨e0, e1, e2⟩, -⟩ := three_ofE (S4.has (Has.r (Has.l (has_blk ge _ _))))
          clear S3 hpl HPL HW HL hL3 HM HPS hsp hsp' hpo hwg hbl hk3 hadd hpo2 hpl2 hmd hps3 S4 hR
          go_wp2_with fail
          refine HPa.out.mono ?_
          rintro r w4 ⟨rfl, V2, vp2, hX⟩
          have S5 := Lib.hid hX
          clear hX HPa e0 e1 e2
          go_wp2_with fail
          go_round
          case rel => exact ⟨k + 1, puts S cs, ps', m + 2, top', ch', V2, vp2, by omega, by go_num, by omega, HN, HB, Lib.hid (S5.out.re (by ac_rfl))⟩
          case measure => simp only [intOf]; omega
end Go.Proofs.Ythoaangmekkcmaa.Bk
