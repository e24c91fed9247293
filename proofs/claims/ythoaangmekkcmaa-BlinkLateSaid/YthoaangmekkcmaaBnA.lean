/- BlinkLate walked. -/
import Derived.Test.YthoaangmekkcmaaBmX
import Derived.Test.YthoaangmekkcmaaNdH
namespace Go.Proofs.Ythoaangmekkcmaa.Bk
open Go.ChangeShapes Go.WideShapes Go.ChangeAt Go.RowKit Go.PlainAid Aid Nt Nd Tr
open Ky (keyZ key_any)
open Wk (IntRow)
set_option linter.unusedVariables false
set_option linter.unusedSimpArgs false
set_option linter.unusedSectionVars false
def e40 (key : By) : Ent := ⟨key, List.replicate 40 0, false⟩
theorem store_entN {P : Program} (e : Ent) {w : World} {g : Nat} {T : TypeId} {c0 c1 c2 : Value} (h : Blk w g T #[c0, c1, c2]) : (storeCells ⟨g, 0, none⟩ (entCells e).toList).run P w = .ok () (w.setRow g (entCells e)) := by
  have := run_storeCells_at P g 0 T (entCells e).toList 0 _ w h (Nat.le_refl 3) (fun v hv => by
    unfold entCells at hv
    simp only [List.mem_cons, List.not_mem_nil, or_false] at hv
    rcases hv with rfl | rfl | rfl <;> rfl)
  exact this
theorem WS.get40 {S : Sf} {l : List Ent} {ps : List Du} {n top : Nat} {ch : Nat → List Nat} {key : By} (hk : key.length = 9) (h : WS S (ins (e40 key) l) ps n top ch) : getR S 3 key = (0, true, e40 key) := by
  obtain ⟨e, h1, h2⟩ := h.wg.get key hk
  have hm : e40 key ∈ ins (e40 key) l := by unfold ins; simp
  rw [h1, decide_eq_true (show key ∈ (ins (e40 key) l).map Ent.key from List.mem_map.2 ⟨_, hm, rfl⟩), h2 _ hm rfl]
theorem hang_ps (g gs : Nat) (S : Sf) (V : Nat → Value) (vl : Value) (l : List Ent) (vp : Value) (ps : List Du) (n top : Nat) (ch : Nat → List Nat) (N : Int) (hp : ps ≠ []) (hW : WS S l ps n top ch) (hn : n + 8 < 256)
    (w0 w : World) (C : Asn) (hS : Own w0 No w (aWd g gs S V vl l vp (ps.map du) n * C)) :
    Calls Try.prog 25 #[.pointer (some ⟨g, 0, none⟩), .int .i64 N] w fun r w' => r = .returned (.bool true) ∧ ∃ S' V' vp' ps' n' top' ch', WS S' l ps' n' top' ch' ∧ n' ≤ n + 2 ∧ 2 * ps'.length + 2 ≤ 2 * ps.length + (n' - n) ∧ n ≤ n' ∧ Own w0 No w' (aWd g gs S' V' vl l vp' (ps'.map du) n' * C) := by
  have hl : 0 < ps.length := List.length_pos_iff.2 hp
  have hpl := hW.pl
  have hu : IntKind.u64.wrap ((ps.length : Nat) : Int) = (ps.length : Int) := by
    simp only [IntKind.wrap, IntKind.bits, IntKind.signed, Bool.false_and, Bool.false_eq_true, if_false]
    omega
  obtain ⟨k, hk1, hk2⟩ := mod_u N ps.length (by omega) (by omega)
  obtain ⟨P, x, Q, e, hP⟩ : ∃ P x Q, ps = P ++ x :: Q ∧ P.length = k := by
    refine ⟨ps.take k, ps[k]'(by omega), ps.drop (k + 1), ?_, by rw [List.length_take]; omega⟩
    rw [← List.drop_eq_getElem_cons (by omega), List.take_append_drop]
  subst e
  refine (hang_law g gs S V vl l vp P Q x n top ch N hW hn (by rw [hu, i64_is, hP]; exact hk1) w0 w C hS).mono ?_
  rintro r w' ⟨rfl, S', V', vp', Q', n', top', ch', h1, h2, h3, h4, h5⟩
  refine ⟨rfl, S', V', vp', P ++ Q', n', top', ch', h1, h2, ?_, h4, h5⟩
  rw [List.length_append, List.length_append, List.length_cons]
  omega
set_option maxRecDepth 100000 in
set_option maxHeartbeats 32000000 in
theorem late_any (A : Option Addr) (m c : Nat) (z : Nat → Int) (od : Int) (w : World) (hm : m ≤ maxLen) (hR : IntRow w A m z) :
    Calls Try.prog 5 #[.slice A m c, .int .i64 od] w fun e w' => e = .returned (.bool true) ∧ Below w.heap.size w w' := by
  have HR := Lib.hid hR
  unfold maxLen at hm
  clear hR
  have hmk : ∀ W : World, (Instr.makeSlice 63 (.int .i64 40) (.int .i64 40)).run Try.prog W = .ok (.slice (some ⟨W.heap.size, 0, none⟩) 40 40) (W.alloc (.cells (madeCells #[.int .u8 0] 40) 5)) := fun W => make_rows (P := Try.prog) 63 5 (.int .u8 0) 1 1 Try.underlying63 (by kernel_rfl) .i64 .i64 40 (by decide) (by decide) W
  have HMk := Lib.hid hmk
  clear hmk
  go_enter Try.func5, Try.ntmps5
  go_wp2_with fail
  refine (awake_any w).mono ?_
  rintro e w1 ⟨rfl, hb⟩
  have S0 := Lib.hid ((Own.none w).below hb)
  clear hb
  go_wp2_with fail
  refine (start_any w1).mono ?_
  rintro e w2 ⟨g, gs, V0, rfl, hX⟩
  have S1 := Lib.hid (show Own w No w2 (aWd g gs S3 V0 (.slice none 0 0) [] (.slice none 0 0) [] 4 * Asn.emp) from by
    have := own_join S0.out hX
    rw [mul_emp] at this
    exact this)
  clear hX S0
  go_upto_block 0 with fail
  go_cut [] (fun wx => ∃ (S : Sf) (V : Nat → Value) (vl : Value) (l : List Ent) (vp : Value) (ps : List Du) (n top : Nat) (ch : Nat → List Nat), Hid (Wx g gs w wx S V vl l vp ps n top ch))
  case first =>
    as_aux_lemma =>
      go_wp2_with fail
      go_loopw [6] (fun i wr => ∃ (k : Nat) (S : Sf) (V : Nat → Value) (vl : Value) (l : List Ent) (vp : Value) (ps : List Du) (n top : Nat) (ch : Nat → List Nat), k ≤ m ∧ k ≤ 60 ∧ i = .int .i64 k ∧ Hid (Wx g gs w wr S V vl l vp ps n top ch)) (fun i _ => 60 - (intOf i).toNat)
      case atStart => exact ⟨0, S3, V0, _, [], _, [], 4, 0, fun _ => [3], by omega, by omega, rfl, Lib.hid ⟨WS.of wg_start (by decide), by omega, S1.out⟩⟩
      case round =>
        clear S1
        obtain ⟨k, S, V, vl, l, vp, ps, n, top, ch, hkm, hk6, rfl, HX⟩ := hrel
        have hnn := HX.out.nn
        by_cases hlt : k < m ∧ k < 60
        · obtain ⟨hlt, hlt2⟩ := hlt
          obtain ⟨b, o, rfl, hc, -⟩ := HR.out.at k hlt
          have d0 := hc wr _ HX.out.own
          obtain ⟨q, hq, hqe⟩ := key_act (z k)
          obtain ⟨-, c3⟩ := aWd_three HX.out.own
          have hw8 : IntKind.i64.wrap ((n : Int) + 8) = (n : Int) + 8 := by rw [i64_is, IntWalk.wrap64_in _ ⟨by omega, by omega⟩]
          have hltI : (k : Int) < (m : Int) := by omega
          have hlt2I : (k : Int) < 60 := by omega
          clear hc
          generalize z k = zk at *
          by_cases hn8 : n + 8 < 256
          · have hn8I : ¬ (256 : Int) ≤ (n : Int) + 8 := by omega
            have HKn := Lib.hid (fun W => key_any q W (by omega) (by omega))
            have hkl : (keyZ q).length = 9 := rfl
            generalize keyZ q = key at *
            have HPt : Hid (∀ W D, Own w No W (aWd g gs S V vl l vp (ps.map du) n * D) → Calls Try.prog 24 #[.pointer (some ⟨g, 0, none⟩), .agg #[.string (ofL key), .string (ofL (List.replicate 40 0)), .bool false]] W fun r w' => r = .returned (.bool true) ∧ ∃ S V vl l' vp ps n' top ch, WS S l' ps n' top ch ∧ getR S 3 key = (0, true, e40 key) ∧ n' ≤ n + 8 ∧ Own w No w' (aWd g gs S V vl l' vp (ps.map du) n' * D)) := Lib.hid (fun W D h => by
              refine (put_law g gs S V vl l vp ps n top ch (e40 key) HX.out.ws hn8 hkl (by show (List.replicate 40 (0 : UInt8)).length ≤ 59; rw [List.length_replicate]; omega) w W D h).mono ?_
              rintro r w' ⟨rfl, S', V', vl', vp', ps', n', top', ch', h1, h2, h3⟩
              exact ⟨rfl, S', V', vl', _, vp', ps', n', top', ch', h1, h1.get40 hkl, h2, h3⟩)
            have S2 := Lib.hid HX.out.own
            generalize aWd g gs S V vl l vp (ps.map du) n = BB at *
            clear HX
            go_upto_region 10 with fail
            refine wp_region_held_drew (S := fun W : World => True) (by kernel_rfl) trivial (fun hHeld => ?_)
            have S3 := Lib.hid S2.out.drew
            clear S2 d0 c3
            generalize wr.drew = w3 at *
            refine' wpAnyH_take (i := 0) (oi := ?ot1z0) (v := ?vt1z0) ?ht1z0 ?st1z0 ?ft1z0 ?zt1z0 ?qt1z0 ?yt1z0 ?at1z0 ?rt1z0
            case ht1z0 => (simp only [List.getElem?_toArray, List.getElem?_cons_succ, List.getElem?_cons_zero]; rfl)
            case st1z0 => kernel_rfl
            case ft1z0 => kernel_rfl
            case zt1z0 => kernel_rfl
            case qt1z0 => exact fun _ _ _ h => h
            case yt1z0 => (refine Or.inl ⟨rfl, ?_⟩; intro w hSw; (try dsimp only at hSw); go_simp; try with_reducible rfl)
            case at1z0 => assumption
            case rt1z0 =>
            simp only [Act.put, List.setIfInBounds_toArray, List.set_cons_zero, List.set_cons_succ]
            refine' wpAnyH_take (i := 1) (oi := ?ot2z1) (v := ?vt2z1) ?ht2z1 ?st2z1 ?ft2z1 ?zt2z1 ?qt2z1 ?yt2z1 ?at2z1 ?rt2z1
            case ht2z1 => (simp only [List.getElem?_toArray, List.getElem?_cons_succ, List.getElem?_cons_zero]; rfl)
            case st2z1 => kernel_rfl
            case ft2z1 => kernel_rfl
            case zt2z1 => kernel_rfl
            case qt2z1 => exact fun _ _ _ h => h
            case yt2z1 => (refine Or.inl ⟨rfl, ?_⟩; intro w hSw; (try dsimp only at hSw); go_simp; try with_reducible rfl)
            case at2z1 => assumption
            case rt2z1 =>
            simp only [Act.put, List.setIfInBounds_toArray, List.set_cons_zero, List.set_cons_succ]
            refine wpAnyH_ready (rs := [2, 3]) (by kernel_rfl) (by simp) ?_
            refine' AllReadyH.cons (o := ?ob3z2) ?hb3z2 ?kb3z2 ?mb3z2
            case hb3z2 => (simp only [List.getElem?_toArray, List.getElem?_cons_succ, List.getElem?_cons_zero]; rfl)
            case kb3z2 =>
              intro K0 hK
              go_simp
              refine (HKn.out _).mono ?_
              rintro er wk4 ⟨rfl, hX⟩
              have SK4 := Lib.hid (S3.out.below hX)
              clear hX S3
              refine hK.out _ _ ?_ (fun hHeld => ?_)
              · trivial
              clear hK K0
              (try simp only [Act.put, List.setIfInBounds_toArray, List.set_cons_zero, List.set_cons_succ])
              (try clear hH2)
              refine wpAnyH_ready (rs := [3]) (by kernel_rfl) (by simp) ?_
              refine' AllReadyH.cons (o := ?ob5z3) ?hb5z3 ?kb5z3 AllReadyH.nil
              case hb5z3 => (simp only [List.getElem?_toArray, List.getElem?_cons_succ, List.getElem?_cons_zero]; rfl)
              case kb5z3 =>
                intro K0 hK
                have hmk := HMk.out
                go_simp
                clear hmk
                have SM6a := Lib.hid (SK4.out.alloc (madeCells #[.int .u8 0] 40) 5)
                obtain ⟨gm, hgz⟩ : ∃ g, g = wk4.heap.size := ⟨_, rfl⟩
                rw [← hgz] at SM6a ⊢
                clear hgz SK4
                generalize World.alloc wk4 _ = wm6 at *
                have SM6 := Lib.hid (SM6a.out.re (show _ = BB * (Asn.blk gm 5 (madeCells #[.int .u8 0] 40) * Asn.emp) by ac_rfl))
                clear SM6a
                refine hK.out _ _ ?_ (fun hHeld => ?_)
                · trivial
                clear hK K0
                (try simp only [Act.put, List.setIfInBounds_toArray, List.set_cons_zero, List.set_cons_succ])
                (try clear hH2)
                refine wpAnyH_ready (rs := [4]) (by kernel_rfl) (by simp) ?_
                refine' AllReadyH.cons (o := ?ob7z4) ?hb7z4 ?kb7z4 AllReadyH.nil
                case hb7z4 => (simp only [List.getElem?_toArray, List.getElem?_cons_succ, List.getElem?_cons_zero]; rfl)
                case kb7z4 =>
                  intro K0 hK
                  have CV := mkc (SM6.out.re (show _ = Asn.blk gm 5 (madeCells #[.int .u8 0] 40) * (BB * Asn.emp) by ac_rfl))
                  go_simp
                  clear CV
                  refine hK.out _ _ ?_ (fun hHeld => ?_)
                  · trivial
                  clear hK K0
                  (try simp only [Act.put, List.setIfInBounds_toArray, List.set_cons_zero, List.set_cons_succ])
                  (try clear hH2)
                  refine' wpAnyH_take (i := 5) (oi := ?ot9z5) (v := ?vt9z5) ?ht9z5 ?st9z5 ?ft9z5 ?zt9z5 ?qt9z5 ?yt9z5 ?at9z5 ?rt9z5
                  case ht9z5 => (simp only [List.getElem?_toArray, List.getElem?_cons_succ, List.getElem?_cons_zero]; rfl)
                  case st9z5 => kernel_rfl
                  case ft9z5 => kernel_rfl
                  case zt9z5 => kernel_rfl
                  case qt9z5 => exact fun _ _ _ h => h
                  case yt9z5 => (refine Or.inl ⟨rfl, ?_⟩; intro w hSw; (try dsimp only at hSw); go_simp; try with_reducible rfl)
                  case at9z5 => assumption
                  case rt9z5 =>
                  simp only [Act.put, List.setIfInBounds_toArray, List.set_cons_zero, List.set_cons_succ]
                  refine wpAnyH_ready (rs := [6]) (by kernel_rfl) (by simp) ?_
                  refine' AllReadyH.cons (o := ?ob10z6) ?hb10z6 ?kb10z6 AllReadyH.nil
                  case hb10z6 => (simp only [List.getElem?_toArray, List.getElem?_cons_succ, List.getElem?_cons_zero]; rfl)
                  case kb10z6 =>
                    intro K0 hK
                    go_simp
                    refine (HPt.out wm6 _ SM6.out).mono ?_
                    rintro er w5 ⟨rfl, S, V, vl, l, vp, ps, n', top, ch, h1, hg40, h2, hX⟩
                    have S5 := Lib.hid (hX.re (show _ = Asn.blk gm 5 (madeCells #[.int .u8 0] 40) * (aWd g gs S V vl l vp (ps.map du) n' * Asn.emp) by ac_rfl)).right
                    have HW := Lib.hid h1
                    have hn2 : n' ≤ 256 := by omega
                    clear hX SM6 HPt h1 h2
                    refine hK.out _ _ ?_ (fun hHeld => ?_)
                    · trivial
                    clear hK K0
                    (try simp only [Act.put, List.setIfInBounds_toArray, List.set_cons_zero, List.set_cons_succ])
                    (try clear hH2)
                    refine' wpAnyH_take (i := 7) (oi := ?ot12z7) (v := ?vt12z7) ?ht12z7 ?st12z7 ?ft12z7 ?zt12z7 ?qt12z7 ?yt12z7 ?at12z7 ?rt12z7
                    case ht12z7 => (simp only [List.getElem?_toArray, List.getElem?_cons_succ, List.getElem?_cons_zero]; rfl)
                    case st12z7 => kernel_rfl
                    case ft12z7 => kernel_rfl
                    case zt12z7 => kernel_rfl
                    case qt12z7 => exact fun _ _ _ h => h
                    case yt12z7 => (refine Or.inl ⟨rfl, ?_⟩; intro w hSw; (try dsimp only at hSw); go_simp; try with_reducible rfl)
                    case at12z7 => assumption
                    case rt12z7 =>
                    simp only [Act.put, List.setIfInBounds_toArray, List.set_cons_zero, List.set_cons_succ]
                    refine wpAnyH_done (by kernel_rfl) ?_ _
                    go_upto_region 12 with fail
                    have HGt := Lib.hid (fun W C h => Get_any gs S V HW.out.sm HW.out.lo 3 key w W C h)
                    rw [hg40] at HGt
                    unfold pgs at HGt
                    clear hg40
                    have c0 := (aWd_three S5.out).1
                    refine wp_region_held_drew (S := fun W : World => W.cell? ⟨g, 0, none⟩ = some (.pointer (some ⟨gs, 0, none⟩))) (by kernel_rfl) c0 (fun hHeld => ?_)
                    have S6 := Lib.hid S5.out.drew
                    clear S5 c0
                    generalize w5.drew = w6 at *
                    refine' wpAnyH_take (i := 0) (oi := ?ot13z0) (v := ?vt13z0) ?ht13z0 ?st13z0 ?ft13z0 ?zt13z0 ?qt13z0 ?yt13z0 ?at13z0 ?rt13z0
                    case ht13z0 => (simp only [List.getElem?_toArray, List.getElem?_cons_succ, List.getElem?_cons_zero]; rfl)
                    case st13z0 => kernel_rfl
                    case ft13z0 => kernel_rfl
                    case zt13z0 => kernel_rfl
                    case qt13z0 => exact fun _ _ _ h => h
                    case yt13z0 => (refine Or.inl ⟨rfl, ?_⟩; intro w hSw; (try dsimp only at hSw); go_simp; try with_reducible rfl)
                    case at13z0 => assumption
                    case rt13z0 =>
                    simp only [Act.put, List.setIfInBounds_toArray, List.set_cons_zero, List.set_cons_succ]
                    refine' wpAnyH_take (i := 1) (oi := ?ot14z1) (v := ?vt14z1) ?ht14z1 ?st14z1 ?ft14z1 ?zt14z1 ?qt14z1 ?yt14z1 ?at14z1 ?rt14z1
                    case ht14z1 => (simp only [List.getElem?_toArray, List.getElem?_cons_succ, List.getElem?_cons_zero]; rfl)
                    case st14z1 => kernel_rfl
                    case ft14z1 => kernel_rfl
                    case zt14z1 => kernel_rfl
                    case qt14z1 => exact fun _ _ _ h => h
                    case yt14z1 => (refine Or.inl ⟨rfl, ?_⟩; intro w hSw; (try dsimp only at hSw); go_simp; try with_reducible rfl)
                    case at14z1 => assumption
                    case rt14z1 =>
                    simp only [Act.put, List.setIfInBounds_toArray, List.set_cons_zero, List.set_cons_succ]
                    refine' wpAnyH_take (i := 2) (oi := ?ot15z2) (v := ?vt15z2) ?ht15z2 ?st15z2 ?ft15z2 ?zt15z2 ?qt15z2 ?yt15z2 ?at15z2 ?rt15z2
                    case ht15z2 => (simp only [List.getElem?_toArray, List.getElem?_cons_succ, List.getElem?_cons_zero]; rfl)
                    case st15z2 => kernel_rfl
                    case ft15z2 => kernel_rfl
                    case zt15z2 => kernel_rfl
                    case qt15z2 => exact fun _ _ _ h => h
                    case yt15z2 => (refine Or.inl ⟨rfl, ?_⟩; intro w hSw; (try dsimp only at hSw); go_simp; try with_reducible rfl)
                    case at15z2 => assumption
                    case rt15z2 =>
                    simp only [Act.put, List.setIfInBounds_toArray, List.set_cons_zero, List.set_cons_succ]
                    refine' wpAnyH_take (i := 3) (oi := ?ot16z3) (v := ?vt16z3) ?ht16z3 ?st16z3 ?ft16z3 ?zt16z3 ?qt16z3 ?yt16z3 ?at16z3 ?rt16z3
                    case ht16z3 => (simp only [List.getElem?_toArray, List.getElem?_cons_succ, List.getElem?_cons_zero]; rfl)
                    case st16z3 => kernel_rfl
                    case ft16z3 => kernel_rfl
                    case zt16z3 => kernel_rfl
                    case qt16z3 => exact fun _ _ _ h => h
                    case yt16z3 => (refine Or.inl ⟨rfl, ?_⟩; intro w hSw; have hS1 := hSw; go_simp; try with_reducible rfl)
                    case at16z3 => assumption
                    case rt16z3 =>
                    simp only [Act.put, List.setIfInBounds_toArray, List.set_cons_zero, List.set_cons_succ]
                    refine' wpAnyH_take (i := 4) (oi := ?ot17z4) (v := ?vt17z4) ?ht17z4 ?st17z4 ?ft17z4 ?zt17z4 ?qt17z4 ?yt17z4 ?at17z4 ?rt17z4
                    case ht17z4 => (simp only [List.getElem?_toArray, List.getElem?_cons_succ, List.getElem?_cons_zero]; rfl)
                    case st17z4 => kernel_rfl
                    case ft17z4 => kernel_rfl
                    case zt17z4 => kernel_rfl
                    case qt17z4 => exact fun _ _ _ h => h
                    case yt17z4 => (refine Or.inl ⟨rfl, ?_⟩; intro w hSw; (try dsimp only at hSw); go_simp; try with_reducible rfl)
                    case at17z4 => assumption
                    case rt17z4 =>
                    simp only [Act.put, List.setIfInBounds_toArray, List.set_cons_zero, List.set_cons_succ]
                    refine' wpAnyH_take (i := 5) (oi := ?ot18z5) (v := ?vt18z5) ?ht18z5 ?st18z5 ?ft18z5 ?zt18z5 ?qt18z5 ?yt18z5 ?at18z5 ?rt18z5
                    case ht18z5 => (simp only [List.getElem?_toArray, List.getElem?_cons_succ, List.getElem?_cons_zero]; rfl)
                    case st18z5 => kernel_rfl
                    case ft18z5 => kernel_rfl
                    case zt18z5 => kernel_rfl
                    case qt18z5 => exact fun _ _ _ h => h
                    case yt18z5 => (refine Or.inl ⟨rfl, ?_⟩; intro w hSw; (try dsimp only at hSw); go_simp; try with_reducible rfl)
                    case at18z5 => assumption
                    case rt18z5 =>
                    simp only [Act.put, List.setIfInBounds_toArray, List.set_cons_zero, List.set_cons_succ]
                    refine wpAnyH_ready (rs := [6, 12]) (by kernel_rfl) (by simp) ?_
                    refine' AllReadyH.cons (o := ?ob19z6) ?hb19z6 ?kb19z6 ?mb19z6
                    case hb19z6 => (simp only [List.getElem?_toArray, List.getElem?_cons_succ, List.getElem?_cons_zero]; rfl)
                    case kb19z6 =>
                      intro K0 hK
                      go_simp
                      refine (HKn.out _).mono ?_
                      rintro er wl20 ⟨rfl, hX⟩
                      have SL20 := Lib.hid (S6.out.below hX)
                      clear hX S6
                      refine hK.out _ _ ?_ (fun hHeld => ?_)
                      · exact (aWd_three SL20.out).1
                      clear hK K0
                      (try simp only [Act.put, List.setIfInBounds_toArray, List.set_cons_zero, List.set_cons_succ])
                      (try clear hH2)
                      refine wpAnyH_ready (rs := [7, 12]) (by kernel_rfl) (by simp) ?_
                      refine' AllReadyH.cons (o := ?ob21z7) ?hb21z7 ?kb21z7 ?mb21z7
                      case hb21z7 => (simp only [List.getElem?_toArray, List.getElem?_cons_succ, List.getElem?_cons_zero]; rfl)
                      case kb21z7 =>
                        intro K0 hK
                        go_simp
                        refine (HGt.out _ _ (SL20.out.re (show _ = aSf gs S V * (Asn.blk g 30 #[.pointer (some ⟨gs, 0, none⟩), vl, vp, .int .i64 n'] * (Asn.vec 44 3 vl l.length (cells3 l) * Asn.vec 80 4 vp (ps.map du).length (poL (ps.map du)))) by unfold aWd sPtr; rw [mul_emp]; ac_rfl))).mono ?_
                        rintro er wg22 ⟨rfl, hX⟩
                        have SG22 := Lib.hid (hX.re (show _ = aWd g gs S V vl l vp (ps.map du) n' * Asn.emp by unfold aWd sPtr; rw [mul_emp]; ac_rfl))
                        clear hX SL20
                        refine hK.out _ _ ?_ (fun hHeld => ?_)
                        · exact (aWd_three SG22.out).1
                        clear hK K0
                        (try simp only [Act.put, List.setIfInBounds_toArray, List.set_cons_zero, List.set_cons_succ])
                        (try clear hH2)
                        refine' wpAnyH_take (i := 8) (oi := ?ot23z8) (v := ?vt23z8) ?ht23z8 ?st23z8 ?ft23z8 ?zt23z8 ?qt23z8 ?yt23z8 ?at23z8 ?rt23z8
                        case ht23z8 => (simp only [List.getElem?_toArray, List.getElem?_cons_succ, List.getElem?_cons_zero]; rfl)
                        case st23z8 => kernel_rfl
                        case ft23z8 => kernel_rfl
                        case zt23z8 => kernel_rfl
                        case qt23z8 => exact fun _ _ _ h => h
                        case yt23z8 => (refine Or.inl ⟨rfl, ?_⟩; intro w hSw; (try dsimp only at hSw); go_simp; try with_reducible rfl)
                        case at23z8 => assumption
                        case rt23z8 =>
                        simp only [Act.put, List.setIfInBounds_toArray, List.set_cons_zero, List.set_cons_succ]
                        refine' wpAnyH_take (i := 9) (oi := ?ot24z9) (v := ?vt24z9) ?ht24z9 ?st24z9 ?ft24z9 ?zt24z9 ?qt24z9 ?yt24z9 ?at24z9 ?rt24z9
                        case ht24z9 => (simp only [List.getElem?_toArray, List.getElem?_cons_succ, List.getElem?_cons_zero]; rfl)
                        case st24z9 => kernel_rfl
                        case ft24z9 => kernel_rfl
                        case zt24z9 => kernel_rfl
                        case qt24z9 => exact fun _ _ _ h => h
                        case yt24z9 => (refine Or.inl ⟨rfl, ?_⟩; intro w hSw; (try dsimp only at hSw); go_simp; try with_reducible rfl)
                        case at24z9 => assumption
                        case rt24z9 =>
                        simp only [Act.put, List.setIfInBounds_toArray, List.set_cons_zero, List.set_cons_succ]
                        refine' wpAnyH_take (i := 10) (oi := ?ot25z10) (v := ?vt25z10) ?ht25z10 ?st25z10 ?ft25z10 ?zt25z10 ?qt25z10 ?yt25z10 ?at25z10 ?rt25z10
                        case ht25z10 => (simp only [List.getElem?_toArray, List.getElem?_cons_succ, List.getElem?_cons_zero]; rfl)
                        case st25z10 => kernel_rfl
                        case ft25z10 => kernel_rfl
                        case zt25z10 => kernel_rfl
                        case qt25z10 => exact fun _ _ _ h => h
                        case yt25z10 => (refine Or.inl ⟨rfl, ?_⟩; intro w hSw; (try dsimp only at hSw); go_simp; try with_reducible rfl)
                        case at25z10 => assumption
                        case rt25z10 =>
                        simp only [Act.put, List.setIfInBounds_toArray, List.set_cons_zero, List.set_cons_succ]
                        refine' wpAnyH_take (i := 11) (oi := ?ot26z11) (v := ?vt26z11) ?ht26z11 ?st26z11 ?ft26z11 ?zt26z11 ?qt26z11 ?yt26z11 ?at26z11 ?rt26z11
                        case ht26z11 => (simp only [List.getElem?_toArray, List.getElem?_cons_succ, List.getElem?_cons_zero]; rfl)
                        case st26z11 => kernel_rfl
                        case ft26z11 => kernel_rfl
                        case zt26z11 => kernel_rfl
                        case qt26z11 => exact fun _ _ _ h => h
                        case yt26z11 => (refine Or.inl ⟨rfl, ?_⟩; intro w hSw; (try dsimp only at hSw); go_simp; try with_reducible rfl)
                        case at26z11 => assumption
                        case rt26z11 =>
                        simp only [Act.put, List.setIfInBounds_toArray, List.set_cons_zero, List.set_cons_succ]
                        refine wpAnyH_ready (rs := [12]) (by kernel_rfl) (by simp) ?_
                        refine' AllReadyH.cons (o := ?ob27z12) ?hb27z12 ?kb27z12 AllReadyH.nil
                        case hb27z12 => (simp only [List.getElem?_toArray, List.getElem?_cons_succ, List.getElem?_cons_zero]; rfl)
                        case kb27z12 =>
                          intro K0 hK
                          go_simp
                          obtain ⟨gx, hgz⟩ : ∃ g, g = wg22.heap.size := ⟨_, rfl⟩
                          have SA28 := Lib.hid (SG22.out.alloc #[.string ⟨#[]⟩, .string ⟨#[]⟩, .bool false] 44)
                          rw [← hgz] at SA28 ⊢
                          clear hgz SG22
                          generalize World.alloc wg22 _ = wa28 at *
                          refine hK.out _ _ ?_ (fun hHeld => ?_)
                          · exact (aWd_three (SA28.out.re (show _ = aWd g gs S V vl l vp (ps.map du) n' * (Asn.blk gx 44 #[.string ⟨#[]⟩, .string ⟨#[]⟩, .bool false] * Asn.emp) by ac_rfl))).1
                          clear hK K0
                          (try simp only [Act.put, List.setIfInBounds_toArray, List.set_cons_zero, List.set_cons_succ])
                          (try clear hH2)
                          refine wpAnyH_ready (rs := [13]) (by kernel_rfl) (by simp) ?_
                          refine' AllReadyH.cons (o := ?ob29z13) ?hb29z13 ?kb29z13 AllReadyH.nil
                          case hb29z13 => (simp only [List.getElem?_toArray, List.getElem?_cons_succ, List.getElem?_cons_zero]; rfl)
                          case kb29z13 =>
                            intro K0 hK
                            have hst := store_entN (P := Try.prog) (e40 key) (SA28.out.has (Has.l (has_blk gx _ _)))
                            have hsz : (entCells (e40 key)).size = 3 := rfl
                            go_simp
                            clear hst hsz
                            have SB30 := Lib.hid (own_setRowB SA28.out (entCells (e40 key)))
                            clear SA28
                            generalize World.setRow _ _ _ = wb30 at *
                            refine hK.out _ _ ?_ (fun hHeld => ?_)
                            · exact (aWd_three (SB30.out.re (show _ = aWd g gs S V vl l vp (ps.map du) n' * (Asn.blk gx 44 (entCells (e40 key)) * Asn.emp) by ac_rfl))).1
                            clear hK K0
                            (try simp only [Act.put, List.setIfInBounds_toArray, List.set_cons_zero, List.set_cons_succ])
                            (try clear hH2)
                            refine' wpAnyH_take (i := 14) (oi := ?ot31z14) (v := ?vt31z14) ?ht31z14 ?st31z14 ?ft31z14 ?zt31z14 ?qt31z14 ?yt31z14 ?at31z14 ?rt31z14
                            case ht31z14 => (simp only [List.getElem?_toArray, List.getElem?_cons_succ, List.getElem?_cons_zero]; rfl)
                            case st31z14 => kernel_rfl
                            case ft31z14 => kernel_rfl
                            case zt31z14 => kernel_rfl
                            case qt31z14 => exact fun _ _ _ h => h
                            case yt31z14 => (refine Or.inl ⟨rfl, ?_⟩; intro w hSw; (try dsimp only at hSw); go_simp; try with_reducible rfl)
                            case at31z14 => assumption
                            case rt31z14 =>
                            simp only [Act.put, List.setIfInBounds_toArray, List.set_cons_zero, List.set_cons_succ]
                            refine' wpAnyH_take (i := 15) (oi := ?ot32z15) (v := ?vt32z15) ?ht32z15 ?st32z15 ?ft32z15 ?zt32z15 ?qt32z15 ?yt32z15 ?at32z15 ?rt32z15
                            case ht32z15 => (simp only [List.getElem?_toArray, List.getElem?_cons_succ, List.getElem?_cons_zero]; rfl)
                            case st32z15 => kernel_rfl
                            case ft32z15 => kernel_rfl
                            case zt32z15 => kernel_rfl
                            case qt32z15 => exact fun _ _ _ h => h
                            case yt32z15 => (refine Or.inl ⟨rfl, ?_⟩; intro w hSw; (try dsimp only at hSw); go_simp; try with_reducible rfl)
                            case at32z15 => assumption
                            case rt32z15 =>
                            simp only [Act.put, List.setIfInBounds_toArray, List.set_cons_zero, List.set_cons_succ]
                            refine wpAnyH_done (by kernel_rfl) ?_ _
                            obtain ⟨⟨q0, q1, q2⟩, -⟩ := three_ofE (SB30.out.has (Has.l (has_blk gx _ _)))
                            rw [show (e40 key).val = List.replicate 40 0 from rfl] at q1
                            have hz40 : (ofL (List.replicate 40 (0 : UInt8))).size = 40 := rfl
                            go_wp2_with fail
                            go_roundw
                            case rel => exact ⟨k + 1, S, V, vl, l, vp, ps, n', top, ch, by omega, by omega, by go_num, Lib.hid ⟨HW.out, hn2, SB30.out.right⟩⟩
                            case measure => simp only [intOf]; omega
                      case mb21z7 =>
                      refine' AllReadyH.cons (o := ?ob33z12) ?hb33z12 ?kb33z12 AllReadyH.nil
                      case hb33z12 => (simp only [List.getElem?_toArray, List.getElem?_cons_succ, List.getElem?_cons_zero]; rfl)
                      case kb33z12 =>
                        intro K0 hK
                        go_simp
                        obtain ⟨gx, hgz⟩ : ∃ g, g = wl20.heap.size := ⟨_, rfl⟩
                        have SA34 := Lib.hid (SL20.out.alloc #[.string ⟨#[]⟩, .string ⟨#[]⟩, .bool false] 44)
                        rw [← hgz] at SA34 ⊢
                        clear hgz SL20
                        generalize World.alloc wl20 _ = wa34 at *
                        refine hK.out _ _ ?_ (fun hHeld => ?_)
                        · exact (aWd_three (SA34.out.re (show _ = aWd g gs S V vl l vp (ps.map du) n' * (Asn.blk gx 44 #[.string ⟨#[]⟩, .string ⟨#[]⟩, .bool false] * Asn.emp) by ac_rfl))).1
                        clear hK K0
                        (try simp only [Act.put, List.setIfInBounds_toArray, List.set_cons_zero, List.set_cons_succ])
                        (try clear hH2)
                        refine wpAnyH_ready (rs := [7]) (by kernel_rfl) (by simp) ?_
                        refine' AllReadyH.cons (o := ?ob35z7) ?hb35z7 ?kb35z7 AllReadyH.nil
                        case hb35z7 => (simp only [List.getElem?_toArray, List.getElem?_cons_succ, List.getElem?_cons_zero]; rfl)
                        case kb35z7 =>
                          intro K0 hK
                          go_simp
                          refine (HGt.out _ _ (SA34.out.re (show _ = aSf gs S V * (Asn.blk g 30 #[.pointer (some ⟨gs, 0, none⟩), vl, vp, .int .i64 n'] * (Asn.vec 44 3 vl l.length (cells3 l) * (Asn.vec 80 4 vp (ps.map du).length (poL (ps.map du)) * Asn.blk gx 44 #[.string ⟨#[]⟩, .string ⟨#[]⟩, .bool false]))) by unfold aWd sPtr; rw [mul_emp]; ac_rfl))).mono ?_
                          rintro er wg36 ⟨rfl, hX⟩
                          have SG36 := Lib.hid (hX.re (show _ = Asn.blk gx 44 #[.string ⟨#[]⟩, .string ⟨#[]⟩, .bool false] * (aWd g gs S V vl l vp (ps.map du) n' * Asn.emp) by unfold aWd sPtr; rw [mul_emp]; ac_rfl))
                          clear hX SA34
                          refine hK.out _ _ ?_ (fun hHeld => ?_)
                          · exact (aWd_three (SG36.out.re (show _ = aWd g gs S V vl l vp (ps.map du) n' * (Asn.blk gx 44 #[.string ⟨#[]⟩, .string ⟨#[]⟩, .bool false] * Asn.emp) by ac_rfl))).1
                          clear hK K0
                          (try simp only [Act.put, List.setIfInBounds_toArray, List.set_cons_zero, List.set_cons_succ])
                          (try clear hH2)
                          refine' wpAnyH_take (i := 8) (oi := ?ot37z8) (v := ?vt37z8) ?ht37z8 ?st37z8 ?ft37z8 ?zt37z8 ?qt37z8 ?yt37z8 ?at37z8 ?rt37z8
                          case ht37z8 => (simp only [List.getElem?_toArray, List.getElem?_cons_succ, List.getElem?_cons_zero]; rfl)
                          case st37z8 => kernel_rfl
                          case ft37z8 => kernel_rfl
                          case zt37z8 => kernel_rfl
                          case qt37z8 => exact fun _ _ _ h => h
                          case yt37z8 => (refine Or.inl ⟨rfl, ?_⟩; intro w hSw; (try dsimp only at hSw); go_simp; try with_reducible rfl)
                          case at37z8 => assumption
                          case rt37z8 =>
                          simp only [Act.put, List.setIfInBounds_toArray, List.set_cons_zero, List.set_cons_succ]
                          refine' wpAnyH_take (i := 9) (oi := ?ot38z9) (v := ?vt38z9) ?ht38z9 ?st38z9 ?ft38z9 ?zt38z9 ?qt38z9 ?yt38z9 ?at38z9 ?rt38z9
                          case ht38z9 => (simp only [List.getElem?_toArray, List.getElem?_cons_succ, List.getElem?_cons_zero]; rfl)
                          case st38z9 => kernel_rfl
                          case ft38z9 => kernel_rfl
                          case zt38z9 => kernel_rfl
                          case qt38z9 => exact fun _ _ _ h => h
                          case yt38z9 => (refine Or.inl ⟨rfl, ?_⟩; intro w hSw; (try dsimp only at hSw); go_simp; try with_reducible rfl)
                          case at38z9 => assumption
                          case rt38z9 =>
                          simp only [Act.put, List.setIfInBounds_toArray, List.set_cons_zero, List.set_cons_succ]
                          refine' wpAnyH_take (i := 10) (oi := ?ot39z10) (v := ?vt39z10) ?ht39z10 ?st39z10 ?ft39z10 ?zt39z10 ?qt39z10 ?yt39z10 ?at39z10 ?rt39z10
                          case ht39z10 => (simp only [List.getElem?_toArray, List.getElem?_cons_succ, List.getElem?_cons_zero]; rfl)
                          case st39z10 => kernel_rfl
                          case ft39z10 => kernel_rfl
                          case zt39z10 => kernel_rfl
                          case qt39z10 => exact fun _ _ _ h => h
                          case yt39z10 => (refine Or.inl ⟨rfl, ?_⟩; intro w hSw; (try dsimp only at hSw); go_simp; try with_reducible rfl)
                          case at39z10 => assumption
                          case rt39z10 =>
                          simp only [Act.put, List.setIfInBounds_toArray, List.set_cons_zero, List.set_cons_succ]
                          refine' wpAnyH_take (i := 11) (oi := ?ot40z11) (v := ?vt40z11) ?ht40z11 ?st40z11 ?ft40z11 ?zt40z11 ?qt40z11 ?yt40z11 ?at40z11 ?rt40z11
                          case ht40z11 => (simp only [List.getElem?_toArray, List.getElem?_cons_succ, List.getElem?_cons_zero]; rfl)
                          case st40z11 => kernel_rfl
                          case ft40z11 => kernel_rfl
                          case zt40z11 => kernel_rfl
                          case qt40z11 => exact fun _ _ _ h => h
                          case yt40z11 => (refine Or.inl ⟨rfl, ?_⟩; intro w hSw; (try dsimp only at hSw); go_simp; try with_reducible rfl)
                          case at40z11 => assumption
                          case rt40z11 =>
                          simp only [Act.put, List.setIfInBounds_toArray, List.set_cons_zero, List.set_cons_succ]
                          refine wpAnyH_ready (rs := [13]) (by kernel_rfl) (by simp) ?_
                          refine' AllReadyH.cons (o := ?ob41z13) ?hb41z13 ?kb41z13 AllReadyH.nil
                          case hb41z13 => (simp only [List.getElem?_toArray, List.getElem?_cons_succ, List.getElem?_cons_zero]; rfl)
                          case kb41z13 =>
                            intro K0 hK
                            have hst := store_entN (P := Try.prog) (e40 key) (SG36.out.has (Has.l (has_blk gx _ _)))
                            have hsz : (entCells (e40 key)).size = 3 := rfl
                            go_simp
                            clear hst hsz
                            have SB42 := Lib.hid (own_setRowB SG36.out (entCells (e40 key)))
                            clear SG36
                            generalize World.setRow _ _ _ = wb42 at *
                            refine hK.out _ _ ?_ (fun hHeld => ?_)
                            · exact (aWd_three (SB42.out.re (show _ = aWd g gs S V vl l vp (ps.map du) n' * (Asn.blk gx 44 (entCells (e40 key)) * Asn.emp) by ac_rfl))).1
                            clear hK K0
                            (try simp only [Act.put, List.setIfInBounds_toArray, List.set_cons_zero, List.set_cons_succ])
                            (try clear hH2)
                            refine' wpAnyH_take (i := 14) (oi := ?ot43z14) (v := ?vt43z14) ?ht43z14 ?st43z14 ?ft43z14 ?zt43z14 ?qt43z14 ?yt43z14 ?at43z14 ?rt43z14
                            case ht43z14 => (simp only [List.getElem?_toArray, List.getElem?_cons_succ, List.getElem?_cons_zero]; rfl)
                            case st43z14 => kernel_rfl
                            case ft43z14 => kernel_rfl
                            case zt43z14 => kernel_rfl
                            case qt43z14 => exact fun _ _ _ h => h
                            case yt43z14 => (refine Or.inl ⟨rfl, ?_⟩; intro w hSw; (try dsimp only at hSw); go_simp; try with_reducible rfl)
                            case at43z14 => assumption
                            case rt43z14 =>
                            simp only [Act.put, List.setIfInBounds_toArray, List.set_cons_zero, List.set_cons_succ]
                            refine' wpAnyH_take (i := 15) (oi := ?ot44z15) (v := ?vt44z15) ?ht44z15 ?st44z15 ?ft44z15 ?zt44z15 ?qt44z15 ?yt44z15 ?at44z15 ?rt44z15
                            case ht44z15 => (simp only [List.getElem?_toArray, List.getElem?_cons_succ, List.getElem?_cons_zero]; rfl)
                            case st44z15 => kernel_rfl
                            case ft44z15 => kernel_rfl
                            case zt44z15 => kernel_rfl
                            case qt44z15 => exact fun _ _ _ h => h
                            case yt44z15 => (refine Or.inl ⟨rfl, ?_⟩; intro w hSw; (try dsimp only at hSw); go_simp; try with_reducible rfl)
                            case at44z15 => assumption
                            case rt44z15 =>
                            simp only [Act.put, List.setIfInBounds_toArray, List.set_cons_zero, List.set_cons_succ]
                            refine wpAnyH_done (by kernel_rfl) ?_ _
                            obtain ⟨⟨q0, q1, q2⟩, -⟩ := three_ofE (SB42.out.has (Has.l (has_blk gx _ _)))
                            rw [show (e40 key).val = List.replicate 40 0 from rfl] at q1
                            have hz40 : (ofL (List.replicate 40 (0 : UInt8))).size = 40 := rfl
                            go_wp2_with fail
                            go_roundw
                            case rel => exact ⟨k + 1, S, V, vl, l, vp, ps, n', top, ch, by omega, by omega, by go_num, Lib.hid ⟨HW.out, hn2, SB42.out.right⟩⟩
                            case measure => simp only [intOf]; omega
                    case mb19z6 =>
                    refine' AllReadyH.cons (o := ?ob45z12) ?hb45z12 ?kb45z12 AllReadyH.nil
                    case hb45z12 => (simp only [List.getElem?_toArray, List.getElem?_cons_succ, List.getElem?_cons_zero]; rfl)
                    case kb45z12 =>
                      intro K0 hK
                      go_simp
                      obtain ⟨gx, hgz⟩ : ∃ g, g = w6.heap.size := ⟨_, rfl⟩
                      have SA46 := Lib.hid (S6.out.alloc #[.string ⟨#[]⟩, .string ⟨#[]⟩, .bool false] 44)
                      rw [← hgz] at SA46 ⊢
                      clear hgz S6
                      generalize World.alloc w6 _ = wa46 at *
                      refine hK.out _ _ ?_ (fun hHeld => ?_)
                      · exact (aWd_three (SA46.out.re (show _ = aWd g gs S V vl l vp (ps.map du) n' * (Asn.blk gx 44 #[.string ⟨#[]⟩, .string ⟨#[]⟩, .bool false] * Asn.emp) by ac_rfl))).1
                      clear hK K0
                      (try simp only [Act.put, List.setIfInBounds_toArray, List.set_cons_zero, List.set_cons_succ])
                      (try clear hH2)
                      refine wpAnyH_ready (rs := [6]) (by kernel_rfl) (by simp) ?_
                      refine' AllReadyH.cons (o := ?ob47z6) ?hb47z6 ?kb47z6 AllReadyH.nil
                      case hb47z6 => (simp only [List.getElem?_toArray, List.getElem?_cons_succ, List.getElem?_cons_zero]; rfl)
                      case kb47z6 =>
                        intro K0 hK
                        go_simp
                        refine (HKn.out _).mono ?_
                        rintro er wl48 ⟨rfl, hX⟩
                        have SL48 := Lib.hid (SA46.out.below hX)
                        clear hX SA46
                        refine hK.out _ _ ?_ (fun hHeld => ?_)
                        · exact (aWd_three (SL48.out.re (show _ = aWd g gs S V vl l vp (ps.map du) n' * (Asn.blk gx 44 #[.string ⟨#[]⟩, .string ⟨#[]⟩, .bool false] * Asn.emp) by ac_rfl))).1
                        clear hK K0
                        (try simp only [Act.put, List.setIfInBounds_toArray, List.set_cons_zero, List.set_cons_succ])
                        (try clear hH2)
                        refine wpAnyH_ready (rs := [7]) (by kernel_rfl) (by simp) ?_
                        refine' AllReadyH.cons (o := ?ob49z7) ?hb49z7 ?kb49z7 AllReadyH.nil
                        case hb49z7 => (simp only [List.getElem?_toArray, List.getElem?_cons_succ, List.getElem?_cons_zero]; rfl)
                        case kb49z7 =>
                          intro K0 hK
                          go_simp
                          refine (HGt.out _ _ (SL48.out.re (show _ = aSf gs S V * (Asn.blk g 30 #[.pointer (some ⟨gs, 0, none⟩), vl, vp, .int .i64 n'] * (Asn.vec 44 3 vl l.length (cells3 l) * (Asn.vec 80 4 vp (ps.map du).length (poL (ps.map du)) * Asn.blk gx 44 #[.string ⟨#[]⟩, .string ⟨#[]⟩, .bool false]))) by unfold aWd sPtr; rw [mul_emp]; ac_rfl))).mono ?_
                          rintro er wg50 ⟨rfl, hX⟩
                          have SG50 := Lib.hid (hX.re (show _ = Asn.blk gx 44 #[.string ⟨#[]⟩, .string ⟨#[]⟩, .bool false] * (aWd g gs S V vl l vp (ps.map du) n' * Asn.emp) by unfold aWd sPtr; rw [mul_emp]; ac_rfl))
                          clear hX SL48
                          refine hK.out _ _ ?_ (fun hHeld => ?_)
                          · exact (aWd_three (SG50.out.re (show _ = aWd g gs S V vl l vp (ps.map du) n' * (Asn.blk gx 44 #[.string ⟨#[]⟩, .string ⟨#[]⟩, .bool false] * Asn.emp) by ac_rfl))).1
                          clear hK K0
                          (try simp only [Act.put, List.setIfInBounds_toArray, List.set_cons_zero, List.set_cons_succ])
                          (try clear hH2)
                          refine' wpAnyH_take (i := 8) (oi := ?ot51z8) (v := ?vt51z8) ?ht51z8 ?st51z8 ?ft51z8 ?zt51z8 ?qt51z8 ?yt51z8 ?at51z8 ?rt51z8
                          case ht51z8 => (simp only [List.getElem?_toArray, List.getElem?_cons_succ, List.getElem?_cons_zero]; rfl)
                          case st51z8 => kernel_rfl
                          case ft51z8 => kernel_rfl
                          case zt51z8 => kernel_rfl
                          case qt51z8 => exact fun _ _ _ h => h
                          case yt51z8 => (refine Or.inl ⟨rfl, ?_⟩; intro w hSw; (try dsimp only at hSw); go_simp; try with_reducible rfl)
                          case at51z8 => assumption
                          case rt51z8 =>
                          simp only [Act.put, List.setIfInBounds_toArray, List.set_cons_zero, List.set_cons_succ]
                          refine' wpAnyH_take (i := 9) (oi := ?ot52z9) (v := ?vt52z9) ?ht52z9 ?st52z9 ?ft52z9 ?zt52z9 ?qt52z9 ?yt52z9 ?at52z9 ?rt52z9
                          case ht52z9 => (simp only [List.getElem?_toArray, List.getElem?_cons_succ, List.getElem?_cons_zero]; rfl)
                          case st52z9 => kernel_rfl
                          case ft52z9 => kernel_rfl
                          case zt52z9 => kernel_rfl
                          case qt52z9 => exact fun _ _ _ h => h
                          case yt52z9 => (refine Or.inl ⟨rfl, ?_⟩; intro w hSw; (try dsimp only at hSw); go_simp; try with_reducible rfl)
                          case at52z9 => assumption
                          case rt52z9 =>
                          simp only [Act.put, List.setIfInBounds_toArray, List.set_cons_zero, List.set_cons_succ]
                          refine' wpAnyH_take (i := 10) (oi := ?ot53z10) (v := ?vt53z10) ?ht53z10 ?st53z10 ?ft53z10 ?zt53z10 ?qt53z10 ?yt53z10 ?at53z10 ?rt53z10
                          case ht53z10 => (simp only [List.getElem?_toArray, List.getElem?_cons_succ, List.getElem?_cons_zero]; rfl)
                          case st53z10 => kernel_rfl
                          case ft53z10 => kernel_rfl
                          case zt53z10 => kernel_rfl
                          case qt53z10 => exact fun _ _ _ h => h
                          case yt53z10 => (refine Or.inl ⟨rfl, ?_⟩; intro w hSw; (try dsimp only at hSw); go_simp; try with_reducible rfl)
                          case at53z10 => assumption
                          case rt53z10 =>
                          simp only [Act.put, List.setIfInBounds_toArray, List.set_cons_zero, List.set_cons_succ]
                          refine' wpAnyH_take (i := 11) (oi := ?ot54z11) (v := ?vt54z11) ?ht54z11 ?st54z11 ?ft54z11 ?zt54z11 ?qt54z11 ?yt54z11 ?at54z11 ?rt54z11
                          case ht54z11 => (simp only [List.getElem?_toArray, List.getElem?_cons_succ, List.getElem?_cons_zero]; rfl)
                          case st54z11 => kernel_rfl
                          case ft54z11 => kernel_rfl
                          case zt54z11 => kernel_rfl
                          case qt54z11 => exact fun _ _ _ h => h
                          case yt54z11 => (refine Or.inl ⟨rfl, ?_⟩; intro w hSw; (try dsimp only at hSw); go_simp; try with_reducible rfl)
                          case at54z11 => assumption
                          case rt54z11 =>
                          simp only [Act.put, List.setIfInBounds_toArray, List.set_cons_zero, List.set_cons_succ]
                          refine wpAnyH_ready (rs := [13]) (by kernel_rfl) (by simp) ?_
                          refine' AllReadyH.cons (o := ?ob55z13) ?hb55z13 ?kb55z13 AllReadyH.nil
                          case hb55z13 => (simp only [List.getElem?_toArray, List.getElem?_cons_succ, List.getElem?_cons_zero]; rfl)
                          case kb55z13 =>
                            intro K0 hK
                            have hst := store_entN (P := Try.prog) (e40 key) (SG50.out.has (Has.l (has_blk gx _ _)))
                            have hsz : (entCells (e40 key)).size = 3 := rfl
                            go_simp
                            clear hst hsz
                            have SB56 := Lib.hid (own_setRowB SG50.out (entCells (e40 key)))
                            clear SG50
                            generalize World.setRow _ _ _ = wb56 at *
                            refine hK.out _ _ ?_ (fun hHeld => ?_)
                            · exact (aWd_three (SB56.out.re (show _ = aWd g gs S V vl l vp (ps.map du) n' * (Asn.blk gx 44 (entCells (e40 key)) * Asn.emp) by ac_rfl))).1
                            clear hK K0
                            (try simp only [Act.put, List.setIfInBounds_toArray, List.set_cons_zero, List.set_cons_succ])
                            (try clear hH2)
                            refine' wpAnyH_take (i := 14) (oi := ?ot57z14) (v := ?vt57z14) ?ht57z14 ?st57z14 ?ft57z14 ?zt57z14 ?qt57z14 ?yt57z14 ?at57z14 ?rt57z14
                            case ht57z14 => (simp only [List.getElem?_toArray, List.getElem?_cons_succ, List.getElem?_cons_zero]; rfl)
                            case st57z14 => kernel_rfl
                            case ft57z14 => kernel_rfl
                            case zt57z14 => kernel_rfl
                            case qt57z14 => exact fun _ _ _ h => h
                            case yt57z14 => (refine Or.inl ⟨rfl, ?_⟩; intro w hSw; (try dsimp only at hSw); go_simp; try with_reducible rfl)
                            case at57z14 => assumption
                            case rt57z14 =>
                            simp only [Act.put, List.setIfInBounds_toArray, List.set_cons_zero, List.set_cons_succ]
                            refine' wpAnyH_take (i := 15) (oi := ?ot58z15) (v := ?vt58z15) ?ht58z15 ?st58z15 ?ft58z15 ?zt58z15 ?qt58z15 ?yt58z15 ?at58z15 ?rt58z15
                            case ht58z15 => (simp only [List.getElem?_toArray, List.getElem?_cons_succ, List.getElem?_cons_zero]; rfl)
                            case st58z15 => kernel_rfl
                            case ft58z15 => kernel_rfl
                            case zt58z15 => kernel_rfl
                            case qt58z15 => exact fun _ _ _ h => h
                            case yt58z15 => (refine Or.inl ⟨rfl, ?_⟩; intro w hSw; (try dsimp only at hSw); go_simp; try with_reducible rfl)
                            case at58z15 => assumption
                            case rt58z15 =>
                            simp only [Act.put, List.setIfInBounds_toArray, List.set_cons_zero, List.set_cons_succ]
                            refine wpAnyH_done (by kernel_rfl) ?_ _
                            obtain ⟨⟨q0, q1, q2⟩, -⟩ := three_ofE (SB56.out.has (Has.l (has_blk gx _ _)))
                            rw [show (e40 key).val = List.replicate 40 0 from rfl] at q1
                            have hz40 : (ofL (List.replicate 40 (0 : UInt8))).size = 40 := rfl
                            go_wp2_with fail
                            go_roundw
                            case rel => exact ⟨k + 1, S, V, vl, l, vp, ps, n', top, ch, by omega, by omega, by go_num, Lib.hid ⟨HW.out, hn2, SB56.out.right⟩⟩
                            case measure => simp only [intOf]; omega
            case mb3z2 =>
            refine' AllReadyH.cons (o := ?ob59z3) ?hb59z3 ?kb59z3 AllReadyH.nil
            case hb59z3 => (simp only [List.getElem?_toArray, List.getElem?_cons_succ, List.getElem?_cons_zero]; rfl)
            case kb59z3 =>
              intro K0 hK
              have hmk := HMk.out
              go_simp
              clear hmk
              have SM60a := Lib.hid (S3.out.alloc (madeCells #[.int .u8 0] 40) 5)
              obtain ⟨gm, hgz⟩ : ∃ g, g = w3.heap.size := ⟨_, rfl⟩
              rw [← hgz] at SM60a ⊢
              clear hgz S3
              generalize World.alloc w3 _ = wm60 at *
              have SM60 := Lib.hid (SM60a.out.re (show _ = BB * (Asn.blk gm 5 (madeCells #[.int .u8 0] 40) * Asn.emp) by ac_rfl))
              clear SM60a
              refine hK.out _ _ ?_ (fun hHeld => ?_)
              · trivial
              clear hK K0
              (try simp only [Act.put, List.setIfInBounds_toArray, List.set_cons_zero, List.set_cons_succ])
              (try clear hH2)
              refine wpAnyH_ready (rs := [2, 4]) (by kernel_rfl) (by simp) ?_
              refine' AllReadyH.cons (o := ?ob61z2) ?hb61z2 ?kb61z2 ?mb61z2
              case hb61z2 => (simp only [List.getElem?_toArray, List.getElem?_cons_succ, List.getElem?_cons_zero]; rfl)
              case kb61z2 =>
                intro K0 hK
                go_simp
                refine (HKn.out _).mono ?_
                rintro er wk62 ⟨rfl, hX⟩
                have SK62 := Lib.hid (SM60.out.below hX)
                clear hX SM60
                refine hK.out _ _ ?_ (fun hHeld => ?_)
                · trivial
                clear hK K0
                (try simp only [Act.put, List.setIfInBounds_toArray, List.set_cons_zero, List.set_cons_succ])
                (try clear hH2)
                refine wpAnyH_ready (rs := [4]) (by kernel_rfl) (by simp) ?_
                refine' AllReadyH.cons (o := ?ob63z4) ?hb63z4 ?kb63z4 AllReadyH.nil
                case hb63z4 => (simp only [List.getElem?_toArray, List.getElem?_cons_succ, List.getElem?_cons_zero]; rfl)
                case kb63z4 =>
                  intro K0 hK
                  have CV := mkc (SK62.out.re (show _ = Asn.blk gm 5 (madeCells #[.int .u8 0] 40) * (BB * Asn.emp) by ac_rfl))
                  go_simp
                  clear CV
                  refine hK.out _ _ ?_ (fun hHeld => ?_)
                  · trivial
                  clear hK K0
                  (try simp only [Act.put, List.setIfInBounds_toArray, List.set_cons_zero, List.set_cons_succ])
                  (try clear hH2)
                  refine' wpAnyH_take (i := 5) (oi := ?ot65z5) (v := ?vt65z5) ?ht65z5 ?st65z5 ?ft65z5 ?zt65z5 ?qt65z5 ?yt65z5 ?at65z5 ?rt65z5
                  case ht65z5 => (simp only [List.getElem?_toArray, List.getElem?_cons_succ, List.getElem?_cons_zero]; rfl)
                  case st65z5 => kernel_rfl
                  case ft65z5 => kernel_rfl
                  case zt65z5 => kernel_rfl
                  case qt65z5 => exact fun _ _ _ h => h
                  case yt65z5 => (refine Or.inl ⟨rfl, ?_⟩; intro w hSw; (try dsimp only at hSw); go_simp; try with_reducible rfl)
                  case at65z5 => assumption
                  case rt65z5 =>
                  simp only [Act.put, List.setIfInBounds_toArray, List.set_cons_zero, List.set_cons_succ]
                  refine wpAnyH_ready (rs := [6]) (by kernel_rfl) (by simp) ?_
                  refine' AllReadyH.cons (o := ?ob66z6) ?hb66z6 ?kb66z6 AllReadyH.nil
                  case hb66z6 => (simp only [List.getElem?_toArray, List.getElem?_cons_succ, List.getElem?_cons_zero]; rfl)
                  case kb66z6 =>
                    intro K0 hK
                    go_simp
                    refine (HPt.out wk62 _ SK62.out).mono ?_
                    rintro er w5 ⟨rfl, S, V, vl, l, vp, ps, n', top, ch, h1, hg40, h2, hX⟩
                    have S5 := Lib.hid (hX.re (show _ = Asn.blk gm 5 (madeCells #[.int .u8 0] 40) * (aWd g gs S V vl l vp (ps.map du) n' * Asn.emp) by ac_rfl)).right
                    have HW := Lib.hid h1
                    have hn2 : n' ≤ 256 := by omega
                    clear hX SK62 HPt h1 h2
                    refine hK.out _ _ ?_ (fun hHeld => ?_)
                    · trivial
                    clear hK K0
                    (try simp only [Act.put, List.setIfInBounds_toArray, List.set_cons_zero, List.set_cons_succ])
                    (try clear hH2)
                    refine' wpAnyH_take (i := 7) (oi := ?ot68z7) (v := ?vt68z7) ?ht68z7 ?st68z7 ?ft68z7 ?zt68z7 ?qt68z7 ?yt68z7 ?at68z7 ?rt68z7
                    case ht68z7 => (simp only [List.getElem?_toArray, List.getElem?_cons_succ, List.getElem?_cons_zero]; rfl)
                    case st68z7 => kernel_rfl
                    case ft68z7 => kernel_rfl
                    case zt68z7 => kernel_rfl
                    case qt68z7 => exact fun _ _ _ h => h
                    case yt68z7 => (refine Or.inl ⟨rfl, ?_⟩; intro w hSw; (try dsimp only at hSw); go_simp; try with_reducible rfl)
                    case at68z7 => assumption
                    case rt68z7 =>
                    simp only [Act.put, List.setIfInBounds_toArray, List.set_cons_zero, List.set_cons_succ]
                    refine wpAnyH_done (by kernel_rfl) ?_ _
                    go_upto_region 12 with fail
                    have HGt := Lib.hid (fun W C h => Get_any gs S V HW.out.sm HW.out.lo 3 key w W C h)
                    rw [hg40] at HGt
                    unfold pgs at HGt
                    clear hg40
                    have c0 := (aWd_three S5.out).1
                    refine wp_region_held_drew (S := fun W : World => W.cell? ⟨g, 0, none⟩ = some (.pointer (some ⟨gs, 0, none⟩))) (by kernel_rfl) c0 (fun hHeld => ?_)
                    have S6 := Lib.hid S5.out.drew
                    clear S5 c0
                    generalize w5.drew = w6 at *
                    refine' wpAnyH_take (i := 0) (oi := ?ot69z0) (v := ?vt69z0) ?ht69z0 ?st69z0 ?ft69z0 ?zt69z0 ?qt69z0 ?yt69z0 ?at69z0 ?rt69z0
                    case ht69z0 => (simp only [List.getElem?_toArray, List.getElem?_cons_succ, List.getElem?_cons_zero]; rfl)
                    case st69z0 => kernel_rfl
                    case ft69z0 => kernel_rfl
                    case zt69z0 => kernel_rfl
                    case qt69z0 => exact fun _ _ _ h => h
                    case yt69z0 => (refine Or.inl ⟨rfl, ?_⟩; intro w hSw; (try dsimp only at hSw); go_simp; try with_reducible rfl)
                    case at69z0 => assumption
                    case rt69z0 =>
                    simp only [Act.put, List.setIfInBounds_toArray, List.set_cons_zero, List.set_cons_succ]
                    refine' wpAnyH_take (i := 1) (oi := ?ot70z1) (v := ?vt70z1) ?ht70z1 ?st70z1 ?ft70z1 ?zt70z1 ?qt70z1 ?yt70z1 ?at70z1 ?rt70z1
                    case ht70z1 => (simp only [List.getElem?_toArray, List.getElem?_cons_succ, List.getElem?_cons_zero]; rfl)
                    case st70z1 => kernel_rfl
                    case ft70z1 => kernel_rfl
                    case zt70z1 => kernel_rfl
                    case qt70z1 => exact fun _ _ _ h => h
                    case yt70z1 => (refine Or.inl ⟨rfl, ?_⟩; intro w hSw; (try dsimp only at hSw); go_simp; try with_reducible rfl)
                    case at70z1 => assumption
                    case rt70z1 =>
                    simp only [Act.put, List.setIfInBounds_toArray, List.set_cons_zero, List.set_cons_succ]
                    refine' wpAnyH_take (i := 2) (oi := ?ot71z2) (v := ?vt71z2) ?ht71z2 ?st71z2 ?ft71z2 ?zt71z2 ?qt71z2 ?yt71z2 ?at71z2 ?rt71z2
                    case ht71z2 => (simp only [List.getElem?_toArray, List.getElem?_cons_succ, List.getElem?_cons_zero]; rfl)
                    case st71z2 => kernel_rfl
                    case ft71z2 => kernel_rfl
                    case zt71z2 => kernel_rfl
                    case qt71z2 => exact fun _ _ _ h => h
                    case yt71z2 => (refine Or.inl ⟨rfl, ?_⟩; intro w hSw; (try dsimp only at hSw); go_simp; try with_reducible rfl)
                    case at71z2 => assumption
                    case rt71z2 =>
                    simp only [Act.put, List.setIfInBounds_toArray, List.set_cons_zero, List.set_cons_succ]
                    refine' wpAnyH_take (i := 3) (oi := ?ot72z3) (v := ?vt72z3) ?ht72z3 ?st72z3 ?ft72z3 ?zt72z3 ?qt72z3 ?yt72z3 ?at72z3 ?rt72z3
                    case ht72z3 => (simp only [List.getElem?_toArray, List.getElem?_cons_succ, List.getElem?_cons_zero]; rfl)
                    case st72z3 => kernel_rfl
                    case ft72z3 => kernel_rfl
                    case zt72z3 => kernel_rfl
                    case qt72z3 => exact fun _ _ _ h => h
                    case yt72z3 => (refine Or.inl ⟨rfl, ?_⟩; intro w hSw; have hS1 := hSw; go_simp; try with_reducible rfl)
                    case at72z3 => assumption
                    case rt72z3 =>
                    simp only [Act.put, List.setIfInBounds_toArray, List.set_cons_zero, List.set_cons_succ]
                    refine' wpAnyH_take (i := 4) (oi := ?ot73z4) (v := ?vt73z4) ?ht73z4 ?st73z4 ?ft73z4 ?zt73z4 ?qt73z4 ?yt73z4 ?at73z4 ?rt73z4
                    case ht73z4 => (simp only [List.getElem?_toArray, List.getElem?_cons_succ, List.getElem?_cons_zero]; rfl)
                    case st73z4 => kernel_rfl
                    case ft73z4 => kernel_rfl
                    case zt73z4 => kernel_rfl
                    case qt73z4 => exact fun _ _ _ h => h
                    case yt73z4 => (refine Or.inl ⟨rfl, ?_⟩; intro w hSw; (try dsimp only at hSw); go_simp; try with_reducible rfl)
                    case at73z4 => assumption
                    case rt73z4 =>
                    simp only [Act.put, List.setIfInBounds_toArray, List.set_cons_zero, List.set_cons_succ]
                    refine' wpAnyH_take (i := 5) (oi := ?ot74z5) (v := ?vt74z5) ?ht74z5 ?st74z5 ?ft74z5 ?zt74z5 ?qt74z5 ?yt74z5 ?at74z5 ?rt74z5
                    case ht74z5 => (simp only [List.getElem?_toArray, List.getElem?_cons_succ, List.getElem?_cons_zero]; rfl)
                    case st74z5 => kernel_rfl
                    case ft74z5 => kernel_rfl
                    case zt74z5 => kernel_rfl
                    case qt74z5 => exact fun _ _ _ h => h
                    case yt74z5 => (refine Or.inl ⟨rfl, ?_⟩; intro w hSw; (try dsimp only at hSw); go_simp; try with_reducible rfl)
                    case at74z5 => assumption
                    case rt74z5 =>
                    simp only [Act.put, List.setIfInBounds_toArray, List.set_cons_zero, List.set_cons_succ]
                    refine wpAnyH_ready (rs := [6, 12]) (by kernel_rfl) (by simp) ?_
                    refine' AllReadyH.cons (o := ?ob75z6) ?hb75z6 ?kb75z6 ?mb75z6
                    case hb75z6 => (simp only [List.getElem?_toArray, List.getElem?_cons_succ, List.getElem?_cons_zero]; rfl)
                    case kb75z6 =>
                      intro K0 hK
                      go_simp
                      refine (HKn.out _).mono ?_
                      rintro er wl76 ⟨rfl, hX⟩
                      have SL76 := Lib.hid (S6.out.below hX)
                      clear hX S6
                      refine hK.out _ _ ?_ (fun hHeld => ?_)
                      · exact (aWd_three SL76.out).1
                      clear hK K0
                      (try simp only [Act.put, List.setIfInBounds_toArray, List.set_cons_zero, List.set_cons_succ])
                      (try clear hH2)
                      refine wpAnyH_ready (rs := [7, 12]) (by kernel_rfl) (by simp) ?_
                      refine' AllReadyH.cons (o := ?ob77z7) ?hb77z7 ?kb77z7 ?mb77z7
                      case hb77z7 => (simp only [List.getElem?_toArray, List.getElem?_cons_succ, List.getElem?_cons_zero]; rfl)
                      case kb77z7 =>
                        intro K0 hK
                        go_simp
                        refine (HGt.out _ _ (SL76.out.re (show _ = aSf gs S V * (Asn.blk g 30 #[.pointer (some ⟨gs, 0, none⟩), vl, vp, .int .i64 n'] * (Asn.vec 44 3 vl l.length (cells3 l) * Asn.vec 80 4 vp (ps.map du).length (poL (ps.map du)))) by unfold aWd sPtr; rw [mul_emp]; ac_rfl))).mono ?_
                        rintro er wg78 ⟨rfl, hX⟩
                        have SG78 := Lib.hid (hX.re (show _ = aWd g gs S V vl l vp (ps.map du) n' * Asn.emp by unfold aWd sPtr; rw [mul_emp]; ac_rfl))
                        clear hX SL76
                        refine hK.out _ _ ?_ (fun hHeld => ?_)
                        · exact (aWd_three SG78.out).1
                        clear hK K0
                        (try simp only [Act.put, List.setIfInBounds_toArray, List.set_cons_zero, List.set_cons_succ])
                        (try clear hH2)
                        refine' wpAnyH_take (i := 8) (oi := ?ot79z8) (v := ?vt79z8) ?ht79z8 ?st79z8 ?ft79z8 ?zt79z8 ?qt79z8 ?yt79z8 ?at79z8 ?rt79z8
                        case ht79z8 => (simp only [List.getElem?_toArray, List.getElem?_cons_succ, List.getElem?_cons_zero]; rfl)
                        case st79z8 => kernel_rfl
                        case ft79z8 => kernel_rfl
                        case zt79z8 => kernel_rfl
                        case qt79z8 => exact fun _ _ _ h => h
                        case yt79z8 => (refine Or.inl ⟨rfl, ?_⟩; intro w hSw; (try dsimp only at hSw); go_simp; try with_reducible rfl)
                        case at79z8 => assumption
                        case rt79z8 =>
                        simp only [Act.put, List.setIfInBounds_toArray, List.set_cons_zero, List.set_cons_succ]
                        refine' wpAnyH_take (i := 9) (oi := ?ot80z9) (v := ?vt80z9) ?ht80z9 ?st80z9 ?ft80z9 ?zt80z9 ?qt80z9 ?yt80z9 ?at80z9 ?rt80z9
                        case ht80z9 => (simp only [List.getElem?_toArray, List.getElem?_cons_succ, List.getElem?_cons_zero]; rfl)
                        case st80z9 => kernel_rfl
                        case ft80z9 => kernel_rfl
                        case zt80z9 => kernel_rfl
                        case qt80z9 => exact fun _ _ _ h => h
                        case yt80z9 => (refine Or.inl ⟨rfl, ?_⟩; intro w hSw; (try dsimp only at hSw); go_simp; try with_reducible rfl)
                        case at80z9 => assumption
                        case rt80z9 =>
                        simp only [Act.put, List.setIfInBounds_toArray, List.set_cons_zero, List.set_cons_succ]
                        refine' wpAnyH_take (i := 10) (oi := ?ot81z10) (v := ?vt81z10) ?ht81z10 ?st81z10 ?ft81z10 ?zt81z10 ?qt81z10 ?yt81z10 ?at81z10 ?rt81z10
                        case ht81z10 => (simp only [List.getElem?_toArray, List.getElem?_cons_succ, List.getElem?_cons_zero]; rfl)
                        case st81z10 => kernel_rfl
                        case ft81z10 => kernel_rfl
                        case zt81z10 => kernel_rfl
                        case qt81z10 => exact fun _ _ _ h => h
                        case yt81z10 => (refine Or.inl ⟨rfl, ?_⟩; intro w hSw; (try dsimp only at hSw); go_simp; try with_reducible rfl)
                        case at81z10 => assumption
                        case rt81z10 =>
                        simp only [Act.put, List.setIfInBounds_toArray, List.set_cons_zero, List.set_cons_succ]
                        refine' wpAnyH_take (i := 11) (oi := ?ot82z11) (v := ?vt82z11) ?ht82z11 ?st82z11 ?ft82z11 ?zt82z11 ?qt82z11 ?yt82z11 ?at82z11 ?rt82z11
                        case ht82z11 => (simp only [List.getElem?_toArray, List.getElem?_cons_succ, List.getElem?_cons_zero]; rfl)
                        case st82z11 => kernel_rfl
                        case ft82z11 => kernel_rfl
                        case zt82z11 => kernel_rfl
                        case qt82z11 => exact fun _ _ _ h => h
                        case yt82z11 => (refine Or.inl ⟨rfl, ?_⟩; intro w hSw; (try dsimp only at hSw); go_simp; try with_reducible rfl)
                        case at82z11 => assumption
                        case rt82z11 =>
                        simp only [Act.put, List.setIfInBounds_toArray, List.set_cons_zero, List.set_cons_succ]
                        refine wpAnyH_ready (rs := [12]) (by kernel_rfl) (by simp) ?_
                        refine' AllReadyH.cons (o := ?ob83z12) ?hb83z12 ?kb83z12 AllReadyH.nil
                        case hb83z12 => (simp only [List.getElem?_toArray, List.getElem?_cons_succ, List.getElem?_cons_zero]; rfl)
                        case kb83z12 =>
                          intro K0 hK
                          go_simp
                          obtain ⟨gx, hgz⟩ : ∃ g, g = wg78.heap.size := ⟨_, rfl⟩
                          have SA84 := Lib.hid (SG78.out.alloc #[.string ⟨#[]⟩, .string ⟨#[]⟩, .bool false] 44)
                          rw [← hgz] at SA84 ⊢
                          clear hgz SG78
                          generalize World.alloc wg78 _ = wa84 at *
                          refine hK.out _ _ ?_ (fun hHeld => ?_)
                          · exact (aWd_three (SA84.out.re (show _ = aWd g gs S V vl l vp (ps.map du) n' * (Asn.blk gx 44 #[.string ⟨#[]⟩, .string ⟨#[]⟩, .bool false] * Asn.emp) by ac_rfl))).1
                          clear hK K0
                          (try simp only [Act.put, List.setIfInBounds_toArray, List.set_cons_zero, List.set_cons_succ])
                          (try clear hH2)
                          refine wpAnyH_ready (rs := [13]) (by kernel_rfl) (by simp) ?_
                          refine' AllReadyH.cons (o := ?ob85z13) ?hb85z13 ?kb85z13 AllReadyH.nil
                          case hb85z13 => (simp only [List.getElem?_toArray, List.getElem?_cons_succ, List.getElem?_cons_zero]; rfl)
                          case kb85z13 =>
                            intro K0 hK
                            have hst := store_entN (P := Try.prog) (e40 key) (SA84.out.has (Has.l (has_blk gx _ _)))
                            have hsz : (entCells (e40 key)).size = 3 := rfl
                            go_simp
                            clear hst hsz
                            have SB86 := Lib.hid (own_setRowB SA84.out (entCells (e40 key)))
                            clear SA84
                            generalize World.setRow _ _ _ = wb86 at *
                            refine hK.out _ _ ?_ (fun hHeld => ?_)
                            · exact (aWd_three (SB86.out.re (show _ = aWd g gs S V vl l vp (ps.map du) n' * (Asn.blk gx 44 (entCells (e40 key)) * Asn.emp) by ac_rfl))).1
                            clear hK K0
                            (try simp only [Act.put, List.setIfInBounds_toArray, List.set_cons_zero, List.set_cons_succ])
                            (try clear hH2)
                            refine' wpAnyH_take (i := 14) (oi := ?ot87z14) (v := ?vt87z14) ?ht87z14 ?st87z14 ?ft87z14 ?zt87z14 ?qt87z14 ?yt87z14 ?at87z14 ?rt87z14
                            case ht87z14 => (simp only [List.getElem?_toArray, List.getElem?_cons_succ, List.getElem?_cons_zero]; rfl)
                            case st87z14 => kernel_rfl
                            case ft87z14 => kernel_rfl
                            case zt87z14 => kernel_rfl
                            case qt87z14 => exact fun _ _ _ h => h
                            case yt87z14 => (refine Or.inl ⟨rfl, ?_⟩; intro w hSw; (try dsimp only at hSw); go_simp; try with_reducible rfl)
                            case at87z14 => assumption
                            case rt87z14 =>
                            simp only [Act.put, List.setIfInBounds_toArray, List.set_cons_zero, List.set_cons_succ]
                            refine' wpAnyH_take (i := 15) (oi := ?ot88z15) (v := ?vt88z15) ?ht88z15 ?st88z15 ?ft88z15 ?zt88z15 ?qt88z15 ?yt88z15 ?at88z15 ?rt88z15
                            case ht88z15 => (simp only [List.getElem?_toArray, List.getElem?_cons_succ, List.getElem?_cons_zero]; rfl)
                            case st88z15 => kernel_rfl
                            case ft88z15 => kernel_rfl
                            case zt88z15 => kernel_rfl
                            case qt88z15 => exact fun _ _ _ h => h
                            case yt88z15 => (refine Or.inl ⟨rfl, ?_⟩; intro w hSw; (try dsimp only at hSw); go_simp; try with_reducible rfl)
                            case at88z15 => assumption
                            case rt88z15 =>
                            simp only [Act.put, List.setIfInBounds_toArray, List.set_cons_zero, List.set_cons_succ]
                            refine wpAnyH_done (by kernel_rfl) ?_ _
                            obtain ⟨⟨q0, q1, q2⟩, -⟩ := three_ofE (SB86.out.has (Has.l (has_blk gx _ _)))
                            rw [show (e40 key).val = List.replicate 40 0 from rfl] at q1
                            have hz40 : (ofL (List.replicate 40 (0 : UInt8))).size = 40 := rfl
                            go_wp2_with fail
                            go_roundw
                            case rel => exact ⟨k + 1, S, V, vl, l, vp, ps, n', top, ch, by omega, by omega, by go_num, Lib.hid ⟨HW.out, hn2, SB86.out.right⟩⟩
                            case measure => simp only [intOf]; omega
                      case mb77z7 =>
                      refine' AllReadyH.cons (o := ?ob89z12) ?hb89z12 ?kb89z12 AllReadyH.nil
                      case hb89z12 => (simp only [List.getElem?_toArray, List.getElem?_cons_succ, List.getElem?_cons_zero]; rfl)
                      case kb89z12 =>
                        intro K0 hK
                        go_simp
                        obtain ⟨gx, hgz⟩ : ∃ g, g = wl76.heap.size := ⟨_, rfl⟩
                        have SA90 := Lib.hid (SL76.out.alloc #[.string ⟨#[]⟩, .string ⟨#[]⟩, .bool false] 44)
                        rw [← hgz] at SA90 ⊢
                        clear hgz SL76
                        generalize World.alloc wl76 _ = wa90 at *
                        refine hK.out _ _ ?_ (fun hHeld => ?_)
                        · exact (aWd_three (SA90.out.re (show _ = aWd g gs S V vl l vp (ps.map du) n' * (Asn.blk gx 44 #[.string ⟨#[]⟩, .string ⟨#[]⟩, .bool false] * Asn.emp) by ac_rfl))).1
                        clear hK K0
                        (try simp only [Act.put, List.setIfInBounds_toArray, List.set_cons_zero, List.set_cons_succ])
                        (try clear hH2)
                        refine wpAnyH_ready (rs := [7]) (by kernel_rfl) (by simp) ?_
                        refine' AllReadyH.cons (o := ?ob91z7) ?hb91z7 ?kb91z7 AllReadyH.nil
                        case hb91z7 => (simp only [List.getElem?_toArray, List.getElem?_cons_succ, List.getElem?_cons_zero]; rfl)
                        case kb91z7 =>
                          intro K0 hK
                          go_simp
                          refine (HGt.out _ _ (SA90.out.re (show _ = aSf gs S V * (Asn.blk g 30 #[.pointer (some ⟨gs, 0, none⟩), vl, vp, .int .i64 n'] * (Asn.vec 44 3 vl l.length (cells3 l) * (Asn.vec 80 4 vp (ps.map du).length (poL (ps.map du)) * Asn.blk gx 44 #[.string ⟨#[]⟩, .string ⟨#[]⟩, .bool false]))) by unfold aWd sPtr; rw [mul_emp]; ac_rfl))).mono ?_
                          rintro er wg92 ⟨rfl, hX⟩
                          have SG92 := Lib.hid (hX.re (show _ = Asn.blk gx 44 #[.string ⟨#[]⟩, .string ⟨#[]⟩, .bool false] * (aWd g gs S V vl l vp (ps.map du) n' * Asn.emp) by unfold aWd sPtr; rw [mul_emp]; ac_rfl))
                          clear hX SA90
                          refine hK.out _ _ ?_ (fun hHeld => ?_)
                          · exact (aWd_three (SG92.out.re (show _ = aWd g gs S V vl l vp (ps.map du) n' * (Asn.blk gx 44 #[.string ⟨#[]⟩, .string ⟨#[]⟩, .bool false] * Asn.emp) by ac_rfl))).1
                          clear hK K0
                          (try simp only [Act.put, List.setIfInBounds_toArray, List.set_cons_zero, List.set_cons_succ])
                          (try clear hH2)
                          refine' wpAnyH_take (i := 8) (oi := ?ot93z8) (v := ?vt93z8) ?ht93z8 ?st93z8 ?ft93z8 ?zt93z8 ?qt93z8 ?yt93z8 ?at93z8 ?rt93z8
                          case ht93z8 => (simp only [List.getElem?_toArray, List.getElem?_cons_succ, List.getElem?_cons_zero]; rfl)
                          case st93z8 => kernel_rfl
                          case ft93z8 => kernel_rfl
                          case zt93z8 => kernel_rfl
                          case qt93z8 => exact fun _ _ _ h => h
                          case yt93z8 => (refine Or.inl ⟨rfl, ?_⟩; intro w hSw; (try dsimp only at hSw); go_simp; try with_reducible rfl)
                          case at93z8 => assumption
                          case rt93z8 =>
                          simp only [Act.put, List.setIfInBounds_toArray, List.set_cons_zero, List.set_cons_succ]
                          refine' wpAnyH_take (i := 9) (oi := ?ot94z9) (v := ?vt94z9) ?ht94z9 ?st94z9 ?ft94z9 ?zt94z9 ?qt94z9 ?yt94z9 ?at94z9 ?rt94z9
                          case ht94z9 => (simp only [List.getElem?_toArray, List.getElem?_cons_succ, List.getElem?_cons_zero]; rfl)
                          case st94z9 => kernel_rfl
                          case ft94z9 => kernel_rfl
                          case zt94z9 => kernel_rfl
                          case qt94z9 => exact fun _ _ _ h => h
                          case yt94z9 => (refine Or.inl ⟨rfl, ?_⟩; intro w hSw; (try dsimp only at hSw); go_simp; try with_reducible rfl)
                          case at94z9 => assumption
                          case rt94z9 =>
                          simp only [Act.put, List.setIfInBounds_toArray, List.set_cons_zero, List.set_cons_succ]
                          refine' wpAnyH_take (i := 10) (oi := ?ot95z10) (v := ?vt95z10) ?ht95z10 ?st95z10 ?ft95z10 ?zt95z10 ?qt95z10 ?yt95z10 ?at95z10 ?rt95z10
                          case ht95z10 => (simp only [List.getElem?_toArray, List.getElem?_cons_succ, List.getElem?_cons_zero]; rfl)
                          case st95z10 => kernel_rfl
                          case ft95z10 => kernel_rfl
                          case zt95z10 => kernel_rfl
                          case qt95z10 => exact fun _ _ _ h => h
                          case yt95z10 => (refine Or.inl ⟨rfl, ?_⟩; intro w hSw; (try dsimp only at hSw); go_simp; try with_reducible rfl)
                          case at95z10 => assumption
                          case rt95z10 =>
                          simp only [Act.put, List.setIfInBounds_toArray, List.set_cons_zero, List.set_cons_succ]
                          refine' wpAnyH_take (i := 11) (oi := ?ot96z11) (v := ?vt96z11) ?ht96z11 ?st96z11 ?ft96z11 ?zt96z11 ?qt96z11 ?yt96z11 ?at96z11 ?rt96z11
                          case ht96z11 => (simp only [List.getElem?_toArray, List.getElem?_cons_succ, List.getElem?_cons_zero]; rfl)
                          case st96z11 => kernel_rfl
                          case ft96z11 => kernel_rfl
                          case zt96z11 => kernel_rfl
                          case qt96z11 => exact fun _ _ _ h => h
                          case yt96z11 => (refine Or.inl ⟨rfl, ?_⟩; intro w hSw; (try dsimp only at hSw); go_simp; try with_reducible rfl)
                          case at96z11 => assumption
                          case rt96z11 =>
                          simp only [Act.put, List.setIfInBounds_toArray, List.set_cons_zero, List.set_cons_succ]
                          refine wpAnyH_ready (rs := [13]) (by kernel_rfl) (by simp) ?_
                          refine' AllReadyH.cons (o := ?ob97z13) ?hb97z13 ?kb97z13 AllReadyH.nil
                          case hb97z13 => (simp only [List.getElem?_toArray, List.getElem?_cons_succ, List.getElem?_cons_zero]; rfl)
                          case kb97z13 =>
                            intro K0 hK
                            have hst := store_entN (P := Try.prog) (e40 key) (SG92.out.has (Has.l (has_blk gx _ _)))
                            have hsz : (entCells (e40 key)).size = 3 := rfl
                            go_simp
                            clear hst hsz
                            have SB98 := Lib.hid (own_setRowB SG92.out (entCells (e40 key)))
                            clear SG92
                            generalize World.setRow _ _ _ = wb98 at *
                            refine hK.out _ _ ?_ (fun hHeld => ?_)
                            · exact (aWd_three (SB98.out.re (show _ = aWd g gs S V vl l vp (ps.map du) n' * (Asn.blk gx 44 (entCells (e40 key)) * Asn.emp) by ac_rfl))).1
                            clear hK K0
                            (try simp only [Act.put, List.setIfInBounds_toArray, List.set_cons_zero, List.set_cons_succ])
                            (try clear hH2)
                            refine' wpAnyH_take (i := 14) (oi := ?ot99z14) (v := ?vt99z14) ?ht99z14 ?st99z14 ?ft99z14 ?zt99z14 ?qt99z14 ?yt99z14 ?at99z14 ?rt99z14
                            case ht99z14 => (simp only [List.getElem?_toArray, List.getElem?_cons_succ, List.getElem?_cons_zero]; rfl)
                            case st99z14 => kernel_rfl
                            case ft99z14 => kernel_rfl
                            case zt99z14 => kernel_rfl
                            case qt99z14 => exact fun _ _ _ h => h
                            case yt99z14 => (refine Or.inl ⟨rfl, ?_⟩; intro w hSw; (try dsimp only at hSw); go_simp; try with_reducible rfl)
                            case at99z14 => assumption
                            case rt99z14 =>
                            simp only [Act.put, List.setIfInBounds_toArray, List.set_cons_zero, List.set_cons_succ]
                            refine' wpAnyH_take (i := 15) (oi := ?ot100z15) (v := ?vt100z15) ?ht100z15 ?st100z15 ?ft100z15 ?zt100z15 ?qt100z15 ?yt100z15 ?at100z15 ?rt100z15
                            case ht100z15 => (simp only [List.getElem?_toArray, List.getElem?_cons_succ, List.getElem?_cons_zero]; rfl)
                            case st100z15 => kernel_rfl
                            case ft100z15 => kernel_rfl
                            case zt100z15 => kernel_rfl
                            case qt100z15 => exact fun _ _ _ h => h
                            case yt100z15 => (refine Or.inl ⟨rfl, ?_⟩; intro w hSw; (try dsimp only at hSw); go_simp; try with_reducible rfl)
                            case at100z15 => assumption
                            case rt100z15 =>
                            simp only [Act.put, List.setIfInBounds_toArray, List.set_cons_zero, List.set_cons_succ]
                            refine wpAnyH_done (by kernel_rfl) ?_ _
                            obtain ⟨⟨q0, q1, q2⟩, -⟩ := three_ofE (SB98.out.has (Has.l (has_blk gx _ _)))
                            rw [show (e40 key).val = List.replicate 40 0 from rfl] at q1
                            have hz40 : (ofL (List.replicate 40 (0 : UInt8))).size = 40 := rfl
                            go_wp2_with fail
                            go_roundw
                            case rel => exact ⟨k + 1, S, V, vl, l, vp, ps, n', top, ch, by omega, by omega, by go_num, Lib.hid ⟨HW.out, hn2, SB98.out.right⟩⟩
                            case measure => simp only [intOf]; omega
                    case mb75z6 =>
                    refine' AllReadyH.cons (o := ?ob101z12) ?hb101z12 ?kb101z12 AllReadyH.nil
                    case hb101z12 => (simp only [List.getElem?_toArray, List.getElem?_cons_succ, List.getElem?_cons_zero]; rfl)
                    case kb101z12 =>
                      intro K0 hK
                      go_simp
                      obtain ⟨gx, hgz⟩ : ∃ g, g = w6.heap.size := ⟨_, rfl⟩
                      have SA102 := Lib.hid (S6.out.alloc #[.string ⟨#[]⟩, .string ⟨#[]⟩, .bool false] 44)
                      rw [← hgz] at SA102 ⊢
                      clear hgz S6
                      generalize World.alloc w6 _ = wa102 at *
                      refine hK.out _ _ ?_ (fun hHeld => ?_)
                      · exact (aWd_three (SA102.out.re (show _ = aWd g gs S V vl l vp (ps.map du) n' * (Asn.blk gx 44 #[.string ⟨#[]⟩, .string ⟨#[]⟩, .bool false] * Asn.emp) by ac_rfl))).1
                      clear hK K0
                      (try simp only [Act.put, List.setIfInBounds_toArray, List.set_cons_zero, List.set_cons_succ])
                      (try clear hH2)
                      refine wpAnyH_ready (rs := [6]) (by kernel_rfl) (by simp) ?_
                      refine' AllReadyH.cons (o := ?ob103z6) ?hb103z6 ?kb103z6 AllReadyH.nil
                      case hb103z6 => (simp only [List.getElem?_toArray, List.getElem?_cons_succ, List.getElem?_cons_zero]; rfl)
                      case kb103z6 =>
                        intro K0 hK
                        go_simp
                        refine (HKn.out _).mono ?_
                        rintro er wl104 ⟨rfl, hX⟩
                        have SL104 := Lib.hid (SA102.out.below hX)
                        clear hX SA102
                        refine hK.out _ _ ?_ (fun hHeld => ?_)
                        · exact (aWd_three (SL104.out.re (show _ = aWd g gs S V vl l vp (ps.map du) n' * (Asn.blk gx 44 #[.string ⟨#[]⟩, .string ⟨#[]⟩, .bool false] * Asn.emp) by ac_rfl))).1
                        clear hK K0
                        (try simp only [Act.put, List.setIfInBounds_toArray, List.set_cons_zero, List.set_cons_succ])
                        (try clear hH2)
                        refine wpAnyH_ready (rs := [7]) (by kernel_rfl) (by simp) ?_
                        refine' AllReadyH.cons (o := ?ob105z7) ?hb105z7 ?kb105z7 AllReadyH.nil
                        case hb105z7 => (simp only [List.getElem?_toArray, List.getElem?_cons_succ, List.getElem?_cons_zero]; rfl)
                        case kb105z7 =>
                          intro K0 hK
                          go_simp
                          refine (HGt.out _ _ (SL104.out.re (show _ = aSf gs S V * (Asn.blk g 30 #[.pointer (some ⟨gs, 0, none⟩), vl, vp, .int .i64 n'] * (Asn.vec 44 3 vl l.length (cells3 l) * (Asn.vec 80 4 vp (ps.map du).length (poL (ps.map du)) * Asn.blk gx 44 #[.string ⟨#[]⟩, .string ⟨#[]⟩, .bool false]))) by unfold aWd sPtr; rw [mul_emp]; ac_rfl))).mono ?_
                          rintro er wg106 ⟨rfl, hX⟩
                          have SG106 := Lib.hid (hX.re (show _ = Asn.blk gx 44 #[.string ⟨#[]⟩, .string ⟨#[]⟩, .bool false] * (aWd g gs S V vl l vp (ps.map du) n' * Asn.emp) by unfold aWd sPtr; rw [mul_emp]; ac_rfl))
                          clear hX SL104
                          refine hK.out _ _ ?_ (fun hHeld => ?_)
                          · exact (aWd_three (SG106.out.re (show _ = aWd g gs S V vl l vp (ps.map du) n' * (Asn.blk gx 44 #[.string ⟨#[]⟩, .string ⟨#[]⟩, .bool false] * Asn.emp) by ac_rfl))).1
                          clear hK K0
                          (try simp only [Act.put, List.setIfInBounds_toArray, List.set_cons_zero, List.set_cons_succ])
                          (try clear hH2)
                          refine' wpAnyH_take (i := 8) (oi := ?ot107z8) (v := ?vt107z8) ?ht107z8 ?st107z8 ?ft107z8 ?zt107z8 ?qt107z8 ?yt107z8 ?at107z8 ?rt107z8
                          case ht107z8 => (simp only [List.getElem?_toArray, List.getElem?_cons_succ, List.getElem?_cons_zero]; rfl)
                          case st107z8 => kernel_rfl
                          case ft107z8 => kernel_rfl
                          case zt107z8 => kernel_rfl
                          case qt107z8 => exact fun _ _ _ h => h
                          case yt107z8 => (refine Or.inl ⟨rfl, ?_⟩; intro w hSw; (try dsimp only at hSw); go_simp; try with_reducible rfl)
                          case at107z8 => assumption
                          case rt107z8 =>
                          simp only [Act.put, List.setIfInBounds_toArray, List.set_cons_zero, List.set_cons_succ]
                          refine' wpAnyH_take (i := 9) (oi := ?ot108z9) (v := ?vt108z9) ?ht108z9 ?st108z9 ?ft108z9 ?zt108z9 ?qt108z9 ?yt108z9 ?at108z9 ?rt108z9
                          case ht108z9 => (simp only [List.getElem?_toArray, List.getElem?_cons_succ, List.getElem?_cons_zero]; rfl)
                          case st108z9 => kernel_rfl
                          case ft108z9 => kernel_rfl
                          case zt108z9 => kernel_rfl
                          case qt108z9 => exact fun _ _ _ h => h
                          case yt108z9 => (refine Or.inl ⟨rfl, ?_⟩; intro w hSw; (try dsimp only at hSw); go_simp; try with_reducible rfl)
                          case at108z9 => assumption
                          case rt108z9 =>
                          simp only [Act.put, List.setIfInBounds_toArray, List.set_cons_zero, List.set_cons_succ]
                          refine' wpAnyH_take (i := 10) (oi := ?ot109z10) (v := ?vt109z10) ?ht109z10 ?st109z10 ?ft109z10 ?zt109z10 ?qt109z10 ?yt109z10 ?at109z10 ?rt109z10
                          case ht109z10 => (simp only [List.getElem?_toArray, List.getElem?_cons_succ, List.getElem?_cons_zero]; rfl)
                          case st109z10 => kernel_rfl
                          case ft109z10 => kernel_rfl
                          case zt109z10 => kernel_rfl
                          case qt109z10 => exact fun _ _ _ h => h
                          case yt109z10 => (refine Or.inl ⟨rfl, ?_⟩; intro w hSw; (try dsimp only at hSw); go_simp; try with_reducible rfl)
                          case at109z10 => assumption
                          case rt109z10 =>
                          simp only [Act.put, List.setIfInBounds_toArray, List.set_cons_zero, List.set_cons_succ]
                          refine' wpAnyH_take (i := 11) (oi := ?ot110z11) (v := ?vt110z11) ?ht110z11 ?st110z11 ?ft110z11 ?zt110z11 ?qt110z11 ?yt110z11 ?at110z11 ?rt110z11
                          case ht110z11 => (simp only [List.getElem?_toArray, List.getElem?_cons_succ, List.getElem?_cons_zero]; rfl)
                          case st110z11 => kernel_rfl
                          case ft110z11 => kernel_rfl
                          case zt110z11 => kernel_rfl
                          case qt110z11 => exact fun _ _ _ h => h
                          case yt110z11 => (refine Or.inl ⟨rfl, ?_⟩; intro w hSw; (try dsimp only at hSw); go_simp; try with_reducible rfl)
                          case at110z11 => assumption
                          case rt110z11 =>
                          simp only [Act.put, List.setIfInBounds_toArray, List.set_cons_zero, List.set_cons_succ]
                          refine wpAnyH_ready (rs := [13]) (by kernel_rfl) (by simp) ?_
                          refine' AllReadyH.cons (o := ?ob111z13) ?hb111z13 ?kb111z13 AllReadyH.nil
                          case hb111z13 => (simp only [List.getElem?_toArray, List.getElem?_cons_succ, List.getElem?_cons_zero]; rfl)
                          case kb111z13 =>
                            intro K0 hK
                            have hst := store_entN (P := Try.prog) (e40 key) (SG106.out.has (Has.l (has_blk gx _ _)))
                            have hsz : (entCells (e40 key)).size = 3 := rfl
                            go_simp
                            clear hst hsz
                            have SB112 := Lib.hid (own_setRowB SG106.out (entCells (e40 key)))
                            clear SG106
                            generalize World.setRow _ _ _ = wb112 at *
                            refine hK.out _ _ ?_ (fun hHeld => ?_)
                            · exact (aWd_three (SB112.out.re (show _ = aWd g gs S V vl l vp (ps.map du) n' * (Asn.blk gx 44 (entCells (e40 key)) * Asn.emp) by ac_rfl))).1
                            clear hK K0
                            (try simp only [Act.put, List.setIfInBounds_toArray, List.set_cons_zero, List.set_cons_succ])
                            (try clear hH2)
                            refine' wpAnyH_take (i := 14) (oi := ?ot113z14) (v := ?vt113z14) ?ht113z14 ?st113z14 ?ft113z14 ?zt113z14 ?qt113z14 ?yt113z14 ?at113z14 ?rt113z14
                            case ht113z14 => (simp only [List.getElem?_toArray, List.getElem?_cons_succ, List.getElem?_cons_zero]; rfl)
                            case st113z14 => kernel_rfl
                            case ft113z14 => kernel_rfl
                            case zt113z14 => kernel_rfl
                            case qt113z14 => exact fun _ _ _ h => h
                            case yt113z14 => (refine Or.inl ⟨rfl, ?_⟩; intro w hSw; (try dsimp only at hSw); go_simp; try with_reducible rfl)
                            case at113z14 => assumption
                            case rt113z14 =>
                            simp only [Act.put, List.setIfInBounds_toArray, List.set_cons_zero, List.set_cons_succ]
                            refine' wpAnyH_take (i := 15) (oi := ?ot114z15) (v := ?vt114z15) ?ht114z15 ?st114z15 ?ft114z15 ?zt114z15 ?qt114z15 ?yt114z15 ?at114z15 ?rt114z15
                            case ht114z15 => (simp only [List.getElem?_toArray, List.getElem?_cons_succ, List.getElem?_cons_zero]; rfl)
                            case st114z15 => kernel_rfl
                            case ft114z15 => kernel_rfl
                            case zt114z15 => kernel_rfl
                            case qt114z15 => exact fun _ _ _ h => h
                            case yt114z15 => (refine Or.inl ⟨rfl, ?_⟩; intro w hSw; (try dsimp only at hSw); go_simp; try with_reducible rfl)
                            case at114z15 => assumption
                            case rt114z15 =>
                            simp only [Act.put, List.setIfInBounds_toArray, List.set_cons_zero, List.set_cons_succ]
                            refine wpAnyH_done (by kernel_rfl) ?_ _
                            obtain ⟨⟨q0, q1, q2⟩, -⟩ := three_ofE (SB112.out.has (Has.l (has_blk gx _ _)))
                            rw [show (e40 key).val = List.replicate 40 0 from rfl] at q1
                            have hz40 : (ofL (List.replicate 40 (0 : UInt8))).size = 40 := rfl
                            go_wp2_with fail
                            go_roundw
                            case rel => exact ⟨k + 1, S, V, vl, l, vp, ps, n', top, ch, by omega, by omega, by go_num, Lib.hid ⟨HW.out, hn2, SB112.out.right⟩⟩
                            case measure => simp only [intOf]; omega
              case mb61z2 =>
              refine' AllReadyH.cons (o := ?ob115z4) ?hb115z4 ?kb115z4 AllReadyH.nil
              case hb115z4 => (simp only [List.getElem?_toArray, List.getElem?_cons_succ, List.getElem?_cons_zero]; rfl)
              case kb115z4 =>
                intro K0 hK
                have CV := mkc (SM60.out.re (show _ = Asn.blk gm 5 (madeCells #[.int .u8 0] 40) * (BB * Asn.emp) by ac_rfl))
                go_simp
                clear CV
                refine hK.out _ _ ?_ (fun hHeld => ?_)
                · trivial
                clear hK K0
                (try simp only [Act.put, List.setIfInBounds_toArray, List.set_cons_zero, List.set_cons_succ])
                (try clear hH2)
                refine wpAnyH_ready (rs := [2]) (by kernel_rfl) (by simp) ?_
                refine' AllReadyH.cons (o := ?ob117z2) ?hb117z2 ?kb117z2 AllReadyH.nil
                case hb117z2 => (simp only [List.getElem?_toArray, List.getElem?_cons_succ, List.getElem?_cons_zero]; rfl)
                case kb117z2 =>
                  intro K0 hK
                  go_simp
                  refine (HKn.out _).mono ?_
                  rintro er wk118 ⟨rfl, hX⟩
                  have SK118 := Lib.hid (SM60.out.below hX)
                  clear hX SM60
                  refine hK.out _ _ ?_ (fun hHeld => ?_)
                  · trivial
                  clear hK K0
                  (try simp only [Act.put, List.setIfInBounds_toArray, List.set_cons_zero, List.set_cons_succ])
                  (try clear hH2)
                  refine' wpAnyH_take (i := 5) (oi := ?ot119z5) (v := ?vt119z5) ?ht119z5 ?st119z5 ?ft119z5 ?zt119z5 ?qt119z5 ?yt119z5 ?at119z5 ?rt119z5
                  case ht119z5 => (simp only [List.getElem?_toArray, List.getElem?_cons_succ, List.getElem?_cons_zero]; rfl)
                  case st119z5 => kernel_rfl
                  case ft119z5 => kernel_rfl
                  case zt119z5 => kernel_rfl
                  case qt119z5 => exact fun _ _ _ h => h
                  case yt119z5 => (refine Or.inl ⟨rfl, ?_⟩; intro w hSw; (try dsimp only at hSw); go_simp; try with_reducible rfl)
                  case at119z5 => assumption
                  case rt119z5 =>
                  simp only [Act.put, List.setIfInBounds_toArray, List.set_cons_zero, List.set_cons_succ]
                  refine wpAnyH_ready (rs := [6]) (by kernel_rfl) (by simp) ?_
                  refine' AllReadyH.cons (o := ?ob120z6) ?hb120z6 ?kb120z6 AllReadyH.nil
                  case hb120z6 => (simp only [List.getElem?_toArray, List.getElem?_cons_succ, List.getElem?_cons_zero]; rfl)
                  case kb120z6 =>
                    intro K0 hK
                    go_simp
                    refine (HPt.out wk118 _ SK118.out).mono ?_
                    rintro er w5 ⟨rfl, S, V, vl, l, vp, ps, n', top, ch, h1, hg40, h2, hX⟩
                    have S5 := Lib.hid (hX.re (show _ = Asn.blk gm 5 (madeCells #[.int .u8 0] 40) * (aWd g gs S V vl l vp (ps.map du) n' * Asn.emp) by ac_rfl)).right
                    have HW := Lib.hid h1
                    have hn2 : n' ≤ 256 := by omega
                    clear hX SK118 HPt h1 h2
                    refine hK.out _ _ ?_ (fun hHeld => ?_)
                    · trivial
                    clear hK K0
                    (try simp only [Act.put, List.setIfInBounds_toArray, List.set_cons_zero, List.set_cons_succ])
                    (try clear hH2)
                    refine' wpAnyH_take (i := 7) (oi := ?ot122z7) (v := ?vt122z7) ?ht122z7 ?st122z7 ?ft122z7 ?zt122z7 ?qt122z7 ?yt122z7 ?at122z7 ?rt122z7
                    case ht122z7 => (simp only [List.getElem?_toArray, List.getElem?_cons_succ, List.getElem?_cons_zero]; rfl)
                    case st122z7 => kernel_rfl
                    case ft122z7 => kernel_rfl
                    case zt122z7 => kernel_rfl
                    case qt122z7 => exact fun _ _ _ h => h
                    case yt122z7 => (refine Or.inl ⟨rfl, ?_⟩; intro w hSw; (try dsimp only at hSw); go_simp; try with_reducible rfl)
                    case at122z7 => assumption
                    case rt122z7 =>
                    simp only [Act.put, List.setIfInBounds_toArray, List.set_cons_zero, List.set_cons_succ]
                    refine wpAnyH_done (by kernel_rfl) ?_ _
                    go_upto_region 12 with fail
                    have HGt := Lib.hid (fun W C h => Get_any gs S V HW.out.sm HW.out.lo 3 key w W C h)
                    rw [hg40] at HGt
                    unfold pgs at HGt
                    clear hg40
                    have c0 := (aWd_three S5.out).1
                    refine wp_region_held_drew (S := fun W : World => W.cell? ⟨g, 0, none⟩ = some (.pointer (some ⟨gs, 0, none⟩))) (by kernel_rfl) c0 (fun hHeld => ?_)
                    have S6 := Lib.hid S5.out.drew
                    clear S5 c0
                    generalize w5.drew = w6 at *
                    refine' wpAnyH_take (i := 0) (oi := ?ot123z0) (v := ?vt123z0) ?ht123z0 ?st123z0 ?ft123z0 ?zt123z0 ?qt123z0 ?yt123z0 ?at123z0 ?rt123z0
                    case ht123z0 => (simp only [List.getElem?_toArray, List.getElem?_cons_succ, List.getElem?_cons_zero]; rfl)
                    case st123z0 => kernel_rfl
                    case ft123z0 => kernel_rfl
                    case zt123z0 => kernel_rfl
                    case qt123z0 => exact fun _ _ _ h => h
                    case yt123z0 => (refine Or.inl ⟨rfl, ?_⟩; intro w hSw; (try dsimp only at hSw); go_simp; try with_reducible rfl)
                    case at123z0 => assumption
                    case rt123z0 =>
                    simp only [Act.put, List.setIfInBounds_toArray, List.set_cons_zero, List.set_cons_succ]
                    refine' wpAnyH_take (i := 1) (oi := ?ot124z1) (v := ?vt124z1) ?ht124z1 ?st124z1 ?ft124z1 ?zt124z1 ?qt124z1 ?yt124z1 ?at124z1 ?rt124z1
                    case ht124z1 => (simp only [List.getElem?_toArray, List.getElem?_cons_succ, List.getElem?_cons_zero]; rfl)
                    case st124z1 => kernel_rfl
                    case ft124z1 => kernel_rfl
                    case zt124z1 => kernel_rfl
                    case qt124z1 => exact fun _ _ _ h => h
                    case yt124z1 => (refine Or.inl ⟨rfl, ?_⟩; intro w hSw; (try dsimp only at hSw); go_simp; try with_reducible rfl)
                    case at124z1 => assumption
                    case rt124z1 =>
                    simp only [Act.put, List.setIfInBounds_toArray, List.set_cons_zero, List.set_cons_succ]
                    refine' wpAnyH_take (i := 2) (oi := ?ot125z2) (v := ?vt125z2) ?ht125z2 ?st125z2 ?ft125z2 ?zt125z2 ?qt125z2 ?yt125z2 ?at125z2 ?rt125z2
                    case ht125z2 => (simp only [List.getElem?_toArray, List.getElem?_cons_succ, List.getElem?_cons_zero]; rfl)
                    case st125z2 => kernel_rfl
                    case ft125z2 => kernel_rfl
                    case zt125z2 => kernel_rfl
                    case qt125z2 => exact fun _ _ _ h => h
                    case yt125z2 => (refine Or.inl ⟨rfl, ?_⟩; intro w hSw; (try dsimp only at hSw); go_simp; try with_reducible rfl)
                    case at125z2 => assumption
                    case rt125z2 =>
                    simp only [Act.put, List.setIfInBounds_toArray, List.set_cons_zero, List.set_cons_succ]
                    refine' wpAnyH_take (i := 3) (oi := ?ot126z3) (v := ?vt126z3) ?ht126z3 ?st126z3 ?ft126z3 ?zt126z3 ?qt126z3 ?yt126z3 ?at126z3 ?rt126z3
                    case ht126z3 => (simp only [List.getElem?_toArray, List.getElem?_cons_succ, List.getElem?_cons_zero]; rfl)
                    case st126z3 => kernel_rfl
                    case ft126z3 => kernel_rfl
                    case zt126z3 => kernel_rfl
                    case qt126z3 => exact fun _ _ _ h => h
                    case yt126z3 => (refine Or.inl ⟨rfl, ?_⟩; intro w hSw; have hS1 := hSw; go_simp; try with_reducible rfl)
                    case at126z3 => assumption
                    case rt126z3 =>
                    simp only [Act.put, List.setIfInBounds_toArray, List.set_cons_zero, List.set_cons_succ]
                    refine' wpAnyH_take (i := 4) (oi := ?ot127z4) (v := ?vt127z4) ?ht127z4 ?st127z4 ?ft127z4 ?zt127z4 ?qt127z4 ?yt127z4 ?at127z4 ?rt127z4
                    case ht127z4 => (simp only [List.getElem?_toArray, List.getElem?_cons_succ, List.getElem?_cons_zero]; rfl)
                    case st127z4 => kernel_rfl
                    case ft127z4 => kernel_rfl
                    case zt127z4 => kernel_rfl
                    case qt127z4 => exact fun _ _ _ h => h
                    case yt127z4 => (refine Or.inl ⟨rfl, ?_⟩; intro w hSw; (try dsimp only at hSw); go_simp; try with_reducible rfl)
                    case at127z4 => assumption
                    case rt127z4 =>
                    simp only [Act.put, List.setIfInBounds_toArray, List.set_cons_zero, List.set_cons_succ]
                    refine' wpAnyH_take (i := 5) (oi := ?ot128z5) (v := ?vt128z5) ?ht128z5 ?st128z5 ?ft128z5 ?zt128z5 ?qt128z5 ?yt128z5 ?at128z5 ?rt128z5
                    case ht128z5 => (simp only [List.getElem?_toArray, List.getElem?_cons_succ, List.getElem?_cons_zero]; rfl)
                    case st128z5 => kernel_rfl
                    case ft128z5 => kernel_rfl
                    case zt128z5 => kernel_rfl
                    case qt128z5 => exact fun _ _ _ h => h
                    case yt128z5 => (refine Or.inl ⟨rfl, ?_⟩; intro w hSw; (try dsimp only at hSw); go_simp; try with_reducible rfl)
                    case at128z5 => assumption
                    case rt128z5 =>
                    simp only [Act.put, List.setIfInBounds_toArray, List.set_cons_zero, List.set_cons_succ]
                    refine wpAnyH_ready (rs := [6, 12]) (by kernel_rfl) (by simp) ?_
                    refine' AllReadyH.cons (o := ?ob129z6) ?hb129z6 ?kb129z6 ?mb129z6
                    case hb129z6 => (simp only [List.getElem?_toArray, List.getElem?_cons_succ, List.getElem?_cons_zero]; rfl)
                    case kb129z6 =>
                      intro K0 hK
                      go_simp
                      refine (HKn.out _).mono ?_
                      rintro er wl130 ⟨rfl, hX⟩
                      have SL130 := Lib.hid (S6.out.below hX)
                      clear hX S6
                      refine hK.out _ _ ?_ (fun hHeld => ?_)
                      · exact (aWd_three SL130.out).1
                      clear hK K0
                      (try simp only [Act.put, List.setIfInBounds_toArray, List.set_cons_zero, List.set_cons_succ])
                      (try clear hH2)
                      refine wpAnyH_ready (rs := [7, 12]) (by kernel_rfl) (by simp) ?_
                      refine' AllReadyH.cons (o := ?ob131z7) ?hb131z7 ?kb131z7 ?mb131z7
                      case hb131z7 => (simp only [List.getElem?_toArray, List.getElem?_cons_succ, List.getElem?_cons_zero]; rfl)
                      case kb131z7 =>
                        intro K0 hK
                        go_simp
                        refine (HGt.out _ _ (SL130.out.re (show _ = aSf gs S V * (Asn.blk g 30 #[.pointer (some ⟨gs, 0, none⟩), vl, vp, .int .i64 n'] * (Asn.vec 44 3 vl l.length (cells3 l) * Asn.vec 80 4 vp (ps.map du).length (poL (ps.map du)))) by unfold aWd sPtr; rw [mul_emp]; ac_rfl))).mono ?_
                        rintro er wg132 ⟨rfl, hX⟩
                        have SG132 := Lib.hid (hX.re (show _ = aWd g gs S V vl l vp (ps.map du) n' * Asn.emp by unfold aWd sPtr; rw [mul_emp]; ac_rfl))
                        clear hX SL130
                        refine hK.out _ _ ?_ (fun hHeld => ?_)
                        · exact (aWd_three SG132.out).1
                        clear hK K0
                        (try simp only [Act.put, List.setIfInBounds_toArray, List.set_cons_zero, List.set_cons_succ])
                        (try clear hH2)
                        refine' wpAnyH_take (i := 8) (oi := ?ot133z8) (v := ?vt133z8) ?ht133z8 ?st133z8 ?ft133z8 ?zt133z8 ?qt133z8 ?yt133z8 ?at133z8 ?rt133z8
                        case ht133z8 => (simp only [List.getElem?_toArray, List.getElem?_cons_succ, List.getElem?_cons_zero]; rfl)
                        case st133z8 => kernel_rfl
                        case ft133z8 => kernel_rfl
                        case zt133z8 => kernel_rfl
                        case qt133z8 => exact fun _ _ _ h => h
                        case yt133z8 => (refine Or.inl ⟨rfl, ?_⟩; intro w hSw; (try dsimp only at hSw); go_simp; try with_reducible rfl)
                        case at133z8 => assumption
                        case rt133z8 =>
                        simp only [Act.put, List.setIfInBounds_toArray, List.set_cons_zero, List.set_cons_succ]
                        refine' wpAnyH_take (i := 9) (oi := ?ot134z9) (v := ?vt134z9) ?ht134z9 ?st134z9 ?ft134z9 ?zt134z9 ?qt134z9 ?yt134z9 ?at134z9 ?rt134z9
                        case ht134z9 => (simp only [List.getElem?_toArray, List.getElem?_cons_succ, List.getElem?_cons_zero]; rfl)
                        case st134z9 => kernel_rfl
                        case ft134z9 => kernel_rfl
                        case zt134z9 => kernel_rfl
                        case qt134z9 => exact fun _ _ _ h => h
                        case yt134z9 => (refine Or.inl ⟨rfl, ?_⟩; intro w hSw; (try dsimp only at hSw); go_simp; try with_reducible rfl)
                        case at134z9 => assumption
                        case rt134z9 =>
                        simp only [Act.put, List.setIfInBounds_toArray, List.set_cons_zero, List.set_cons_succ]
                        refine' wpAnyH_take (i := 10) (oi := ?ot135z10) (v := ?vt135z10) ?ht135z10 ?st135z10 ?ft135z10 ?zt135z10 ?qt135z10 ?yt135z10 ?at135z10 ?rt135z10
                        case ht135z10 => (simp only [List.getElem?_toArray, List.getElem?_cons_succ, List.getElem?_cons_zero]; rfl)
                        case st135z10 => kernel_rfl
                        case ft135z10 => kernel_rfl
                        case zt135z10 => kernel_rfl
                        case qt135z10 => exact fun _ _ _ h => h
                        case yt135z10 => (refine Or.inl ⟨rfl, ?_⟩; intro w hSw; (try dsimp only at hSw); go_simp; try with_reducible rfl)
                        case at135z10 => assumption
                        case rt135z10 =>
                        simp only [Act.put, List.setIfInBounds_toArray, List.set_cons_zero, List.set_cons_succ]
                        refine' wpAnyH_take (i := 11) (oi := ?ot136z11) (v := ?vt136z11) ?ht136z11 ?st136z11 ?ft136z11 ?zt136z11 ?qt136z11 ?yt136z11 ?at136z11 ?rt136z11
                        case ht136z11 => (simp only [List.getElem?_toArray, List.getElem?_cons_succ, List.getElem?_cons_zero]; rfl)
                        case st136z11 => kernel_rfl
                        case ft136z11 => kernel_rfl
                        case zt136z11 => kernel_rfl
                        case qt136z11 => exact fun _ _ _ h => h
                        case yt136z11 => (refine Or.inl ⟨rfl, ?_⟩; intro w hSw; (try dsimp only at hSw); go_simp; try with_reducible rfl)
                        case at136z11 => assumption
                        case rt136z11 =>
                        simp only [Act.put, List.setIfInBounds_toArray, List.set_cons_zero, List.set_cons_succ]
                        refine wpAnyH_ready (rs := [12]) (by kernel_rfl) (by simp) ?_
                        refine' AllReadyH.cons (o := ?ob137z12) ?hb137z12 ?kb137z12 AllReadyH.nil
                        case hb137z12 => (simp only [List.getElem?_toArray, List.getElem?_cons_succ, List.getElem?_cons_zero]; rfl)
                        case kb137z12 =>
                          intro K0 hK
                          go_simp
                          obtain ⟨gx, hgz⟩ : ∃ g, g = wg132.heap.size := ⟨_, rfl⟩
                          have SA138 := Lib.hid (SG132.out.alloc #[.string ⟨#[]⟩, .string ⟨#[]⟩, .bool false] 44)
                          rw [← hgz] at SA138 ⊢
                          clear hgz SG132
                          generalize World.alloc wg132 _ = wa138 at *
                          refine hK.out _ _ ?_ (fun hHeld => ?_)
                          · exact (aWd_three (SA138.out.re (show _ = aWd g gs S V vl l vp (ps.map du) n' * (Asn.blk gx 44 #[.string ⟨#[]⟩, .string ⟨#[]⟩, .bool false] * Asn.emp) by ac_rfl))).1
                          clear hK K0
                          (try simp only [Act.put, List.setIfInBounds_toArray, List.set_cons_zero, List.set_cons_succ])
                          (try clear hH2)
                          refine wpAnyH_ready (rs := [13]) (by kernel_rfl) (by simp) ?_
                          refine' AllReadyH.cons (o := ?ob139z13) ?hb139z13 ?kb139z13 AllReadyH.nil
                          case hb139z13 => (simp only [List.getElem?_toArray, List.getElem?_cons_succ, List.getElem?_cons_zero]; rfl)
                          case kb139z13 =>
                            intro K0 hK
                            have hst := store_entN (P := Try.prog) (e40 key) (SA138.out.has (Has.l (has_blk gx _ _)))
                            have hsz : (entCells (e40 key)).size = 3 := rfl
                            go_simp
                            clear hst hsz
                            have SB140 := Lib.hid (own_setRowB SA138.out (entCells (e40 key)))
                            clear SA138
                            generalize World.setRow _ _ _ = wb140 at *
                            refine hK.out _ _ ?_ (fun hHeld => ?_)
                            · exact (aWd_three (SB140.out.re (show _ = aWd g gs S V vl l vp (ps.map du) n' * (Asn.blk gx 44 (entCells (e40 key)) * Asn.emp) by ac_rfl))).1
                            clear hK K0
                            (try simp only [Act.put, List.setIfInBounds_toArray, List.set_cons_zero, List.set_cons_succ])
                            (try clear hH2)
                            refine' wpAnyH_take (i := 14) (oi := ?ot141z14) (v := ?vt141z14) ?ht141z14 ?st141z14 ?ft141z14 ?zt141z14 ?qt141z14 ?yt141z14 ?at141z14 ?rt141z14
                            case ht141z14 => (simp only [List.getElem?_toArray, List.getElem?_cons_succ, List.getElem?_cons_zero]; rfl)
                            case st141z14 => kernel_rfl
                            case ft141z14 => kernel_rfl
                            case zt141z14 => kernel_rfl
                            case qt141z14 => exact fun _ _ _ h => h
                            case yt141z14 => (refine Or.inl ⟨rfl, ?_⟩; intro w hSw; (try dsimp only at hSw); go_simp; try with_reducible rfl)
                            case at141z14 => assumption
                            case rt141z14 =>
                            simp only [Act.put, List.setIfInBounds_toArray, List.set_cons_zero, List.set_cons_succ]
                            refine' wpAnyH_take (i := 15) (oi := ?ot142z15) (v := ?vt142z15) ?ht142z15 ?st142z15 ?ft142z15 ?zt142z15 ?qt142z15 ?yt142z15 ?at142z15 ?rt142z15
                            case ht142z15 => (simp only [List.getElem?_toArray, List.getElem?_cons_succ, List.getElem?_cons_zero]; rfl)
                            case st142z15 => kernel_rfl
                            case ft142z15 => kernel_rfl
                            case zt142z15 => kernel_rfl
                            case qt142z15 => exact fun _ _ _ h => h
                            case yt142z15 => (refine Or.inl ⟨rfl, ?_⟩; intro w hSw; (try dsimp only at hSw); go_simp; try with_reducible rfl)
                            case at142z15 => assumption
                            case rt142z15 =>
                            simp only [Act.put, List.setIfInBounds_toArray, List.set_cons_zero, List.set_cons_succ]
                            refine wpAnyH_done (by kernel_rfl) ?_ _
                            obtain ⟨⟨q0, q1, q2⟩, -⟩ := three_ofE (SB140.out.has (Has.l (has_blk gx _ _)))
                            rw [show (e40 key).val = List.replicate 40 0 from rfl] at q1
                            have hz40 : (ofL (List.replicate 40 (0 : UInt8))).size = 40 := rfl
                            go_wp2_with fail
                            go_roundw
                            case rel => exact ⟨k + 1, S, V, vl, l, vp, ps, n', top, ch, by omega, by omega, by go_num, Lib.hid ⟨HW.out, hn2, SB140.out.right⟩⟩
                            case measure => simp only [intOf]; omega
                      case mb131z7 =>
                      refine' AllReadyH.cons (o := ?ob143z12) ?hb143z12 ?kb143z12 AllReadyH.nil
                      case hb143z12 => (simp only [List.getElem?_toArray, List.getElem?_cons_succ, List.getElem?_cons_zero]; rfl)
                      case kb143z12 =>
                        intro K0 hK
                        go_simp
                        obtain ⟨gx, hgz⟩ : ∃ g, g = wl130.heap.size := ⟨_, rfl⟩
                        have SA144 := Lib.hid (SL130.out.alloc #[.string ⟨#[]⟩, .string ⟨#[]⟩, .bool false] 44)
                        rw [← hgz] at SA144 ⊢
                        clear hgz SL130
                        generalize World.alloc wl130 _ = wa144 at *
                        refine hK.out _ _ ?_ (fun hHeld => ?_)
                        · exact (aWd_three (SA144.out.re (show _ = aWd g gs S V vl l vp (ps.map du) n' * (Asn.blk gx 44 #[.string ⟨#[]⟩, .string ⟨#[]⟩, .bool false] * Asn.emp) by ac_rfl))).1
                        clear hK K0
                        (try simp only [Act.put, List.setIfInBounds_toArray, List.set_cons_zero, List.set_cons_succ])
                        (try clear hH2)
                        refine wpAnyH_ready (rs := [7]) (by kernel_rfl) (by simp) ?_
                        refine' AllReadyH.cons (o := ?ob145z7) ?hb145z7 ?kb145z7 AllReadyH.nil
                        case hb145z7 => (simp only [List.getElem?_toArray, List.getElem?_cons_succ, List.getElem?_cons_zero]; rfl)
                        case kb145z7 =>
                          intro K0 hK
                          go_simp
                          refine (HGt.out _ _ (SA144.out.re (show _ = aSf gs S V * (Asn.blk g 30 #[.pointer (some ⟨gs, 0, none⟩), vl, vp, .int .i64 n'] * (Asn.vec 44 3 vl l.length (cells3 l) * (Asn.vec 80 4 vp (ps.map du).length (poL (ps.map du)) * Asn.blk gx 44 #[.string ⟨#[]⟩, .string ⟨#[]⟩, .bool false]))) by unfold aWd sPtr; rw [mul_emp]; ac_rfl))).mono ?_
                          rintro er wg146 ⟨rfl, hX⟩
                          have SG146 := Lib.hid (hX.re (show _ = Asn.blk gx 44 #[.string ⟨#[]⟩, .string ⟨#[]⟩, .bool false] * (aWd g gs S V vl l vp (ps.map du) n' * Asn.emp) by unfold aWd sPtr; rw [mul_emp]; ac_rfl))
                          clear hX SA144
                          refine hK.out _ _ ?_ (fun hHeld => ?_)
                          · exact (aWd_three (SG146.out.re (show _ = aWd g gs S V vl l vp (ps.map du) n' * (Asn.blk gx 44 #[.string ⟨#[]⟩, .string ⟨#[]⟩, .bool false] * Asn.emp) by ac_rfl))).1
                          clear hK K0
                          (try simp only [Act.put, List.setIfInBounds_toArray, List.set_cons_zero, List.set_cons_succ])
                          (try clear hH2)
                          refine' wpAnyH_take (i := 8) (oi := ?ot147z8) (v := ?vt147z8) ?ht147z8 ?st147z8 ?ft147z8 ?zt147z8 ?qt147z8 ?yt147z8 ?at147z8 ?rt147z8
                          case ht147z8 => (simp only [List.getElem?_toArray, List.getElem?_cons_succ, List.getElem?_cons_zero]; rfl)
                          case st147z8 => kernel_rfl
                          case ft147z8 => kernel_rfl
                          case zt147z8 => kernel_rfl
                          case qt147z8 => exact fun _ _ _ h => h
                          case yt147z8 => (refine Or.inl ⟨rfl, ?_⟩; intro w hSw; (try dsimp only at hSw); go_simp; try with_reducible rfl)
                          case at147z8 => assumption
                          case rt147z8 =>
                          simp only [Act.put, List.setIfInBounds_toArray, List.set_cons_zero, List.set_cons_succ]
                          refine' wpAnyH_take (i := 9) (oi := ?ot148z9) (v := ?vt148z9) ?ht148z9 ?st148z9 ?ft148z9 ?zt148z9 ?qt148z9 ?yt148z9 ?at148z9 ?rt148z9
                          case ht148z9 => (simp only [List.getElem?_toArray, List.getElem?_cons_succ, List.getElem?_cons_zero]; rfl)
                          case st148z9 => kernel_rfl
                          case ft148z9 => kernel_rfl
                          case zt148z9 => kernel_rfl
                          case qt148z9 => exact fun _ _ _ h => h
                          case yt148z9 => (refine Or.inl ⟨rfl, ?_⟩; intro w hSw; (try dsimp only at hSw); go_simp; try with_reducible rfl)
                          case at148z9 => assumption
                          case rt148z9 =>
                          simp only [Act.put, List.setIfInBounds_toArray, List.set_cons_zero, List.set_cons_succ]
                          refine' wpAnyH_take (i := 10) (oi := ?ot149z10) (v := ?vt149z10) ?ht149z10 ?st149z10 ?ft149z10 ?zt149z10 ?qt149z10 ?yt149z10 ?at149z10 ?rt149z10
                          case ht149z10 => (simp only [List.getElem?_toArray, List.getElem?_cons_succ, List.getElem?_cons_zero]; rfl)
                          case st149z10 => kernel_rfl
                          case ft149z10 => kernel_rfl
                          case zt149z10 => kernel_rfl
                          case qt149z10 => exact fun _ _ _ h => h
                          case yt149z10 => (refine Or.inl ⟨rfl, ?_⟩; intro w hSw; (try dsimp only at hSw); go_simp; try with_reducible rfl)
                          case at149z10 => assumption
                          case rt149z10 =>
                          simp only [Act.put, List.setIfInBounds_toArray, List.set_cons_zero, List.set_cons_succ]
                          refine' wpAnyH_take (i := 11) (oi := ?ot150z11) (v := ?vt150z11) ?ht150z11 ?st150z11 ?ft150z11 ?zt150z11 ?qt150z11 ?yt150z11 ?at150z11 ?rt150z11
                          case ht150z11 => (simp only [List.getElem?_toArray, List.getElem?_cons_succ, List.getElem?_cons_zero]; rfl)
                          case st150z11 => kernel_rfl
                          case ft150z11 => kernel_rfl
                          case zt150z11 => kernel_rfl
                          case qt150z11 => exact fun _ _ _ h => h
                          case yt150z11 => (refine Or.inl ⟨rfl, ?_⟩; intro w hSw; (try dsimp only at hSw); go_simp; try with_reducible rfl)
                          case at150z11 => assumption
                          case rt150z11 =>
                          simp only [Act.put, List.setIfInBounds_toArray, List.set_cons_zero, List.set_cons_succ]
                          refine wpAnyH_ready (rs := [13]) (by kernel_rfl) (by simp) ?_
                          refine' AllReadyH.cons (o := ?ob151z13) ?hb151z13 ?kb151z13 AllReadyH.nil
                          case hb151z13 => (simp only [List.getElem?_toArray, List.getElem?_cons_succ, List.getElem?_cons_zero]; rfl)
                          case kb151z13 =>
                            intro K0 hK
                            have hst := store_entN (P := Try.prog) (e40 key) (SG146.out.has (Has.l (has_blk gx _ _)))
                            have hsz : (entCells (e40 key)).size = 3 := rfl
                            go_simp
                            clear hst hsz
                            have SB152 := Lib.hid (own_setRowB SG146.out (entCells (e40 key)))
                            clear SG146
                            generalize World.setRow _ _ _ = wb152 at *
                            refine hK.out _ _ ?_ (fun hHeld => ?_)
                            · exact (aWd_three (SB152.out.re (show _ = aWd g gs S V vl l vp (ps.map du) n' * (Asn.blk gx 44 (entCells (e40 key)) * Asn.emp) by ac_rfl))).1
                            clear hK K0
                            (try simp only [Act.put, List.setIfInBounds_toArray, List.set_cons_zero, List.set_cons_succ])
                            (try clear hH2)
                            refine' wpAnyH_take (i := 14) (oi := ?ot153z14) (v := ?vt153z14) ?ht153z14 ?st153z14 ?ft153z14 ?zt153z14 ?qt153z14 ?yt153z14 ?at153z14 ?rt153z14
                            case ht153z14 => (simp only [List.getElem?_toArray, List.getElem?_cons_succ, List.getElem?_cons_zero]; rfl)
                            case st153z14 => kernel_rfl
                            case ft153z14 => kernel_rfl
                            case zt153z14 => kernel_rfl
                            case qt153z14 => exact fun _ _ _ h => h
                            case yt153z14 => (refine Or.inl ⟨rfl, ?_⟩; intro w hSw; (try dsimp only at hSw); go_simp; try with_reducible rfl)
                            case at153z14 => assumption
                            case rt153z14 =>
                            simp only [Act.put, List.setIfInBounds_toArray, List.set_cons_zero, List.set_cons_succ]
                            refine' wpAnyH_take (i := 15) (oi := ?ot154z15) (v := ?vt154z15) ?ht154z15 ?st154z15 ?ft154z15 ?zt154z15 ?qt154z15 ?yt154z15 ?at154z15 ?rt154z15
                            case ht154z15 => (simp only [List.getElem?_toArray, List.getElem?_cons_succ, List.getElem?_cons_zero]; rfl)
                            case st154z15 => kernel_rfl
                            case ft154z15 => kernel_rfl
                            case zt154z15 => kernel_rfl
                            case qt154z15 => exact fun _ _ _ h => h
                            case yt154z15 => (refine Or.inl ⟨rfl, ?_⟩; intro w hSw; (try dsimp only at hSw); go_simp; try with_reducible rfl)
                            case at154z15 => assumption
                            case rt154z15 =>
                            simp only [Act.put, List.setIfInBounds_toArray, List.set_cons_zero, List.set_cons_succ]
                            refine wpAnyH_done (by kernel_rfl) ?_ _
                            obtain ⟨⟨q0, q1, q2⟩, -⟩ := three_ofE (SB152.out.has (Has.l (has_blk gx _ _)))
                            rw [show (e40 key).val = List.replicate 40 0 from rfl] at q1
                            have hz40 : (ofL (List.replicate 40 (0 : UInt8))).size = 40 := rfl
                            go_wp2_with fail
                            go_roundw
                            case rel => exact ⟨k + 1, S, V, vl, l, vp, ps, n', top, ch, by omega, by omega, by go_num, Lib.hid ⟨HW.out, hn2, SB152.out.right⟩⟩
                            case measure => simp only [intOf]; omega
                    case mb129z6 =>
                    refine' AllReadyH.cons (o := ?ob155z12) ?hb155z12 ?kb155z12 AllReadyH.nil
                    case hb155z12 => (simp only [List.getElem?_toArray, List.getElem?_cons_succ, List.getElem?_cons_zero]; rfl)
                    case kb155z12 =>
                      intro K0 hK
                      go_simp
                      obtain ⟨gx, hgz⟩ : ∃ g, g = w6.heap.size := ⟨_, rfl⟩
                      have SA156 := Lib.hid (S6.out.alloc #[.string ⟨#[]⟩, .string ⟨#[]⟩, .bool false] 44)
                      rw [← hgz] at SA156 ⊢
                      clear hgz S6
                      generalize World.alloc w6 _ = wa156 at *
                      refine hK.out _ _ ?_ (fun hHeld => ?_)
                      · exact (aWd_three (SA156.out.re (show _ = aWd g gs S V vl l vp (ps.map du) n' * (Asn.blk gx 44 #[.string ⟨#[]⟩, .string ⟨#[]⟩, .bool false] * Asn.emp) by ac_rfl))).1
                      clear hK K0
                      (try simp only [Act.put, List.setIfInBounds_toArray, List.set_cons_zero, List.set_cons_succ])
                      (try clear hH2)
                      refine wpAnyH_ready (rs := [6]) (by kernel_rfl) (by simp) ?_
                      refine' AllReadyH.cons (o := ?ob157z6) ?hb157z6 ?kb157z6 AllReadyH.nil
                      case hb157z6 => (simp only [List.getElem?_toArray, List.getElem?_cons_succ, List.getElem?_cons_zero]; rfl)
                      case kb157z6 =>
                        intro K0 hK
                        go_simp
                        refine (HKn.out _).mono ?_
                        rintro er wl158 ⟨rfl, hX⟩
                        have SL158 := Lib.hid (SA156.out.below hX)
                        clear hX SA156
                        refine hK.out _ _ ?_ (fun hHeld => ?_)
                        · exact (aWd_three (SL158.out.re (show _ = aWd g gs S V vl l vp (ps.map du) n' * (Asn.blk gx 44 #[.string ⟨#[]⟩, .string ⟨#[]⟩, .bool false] * Asn.emp) by ac_rfl))).1
                        clear hK K0
                        (try simp only [Act.put, List.setIfInBounds_toArray, List.set_cons_zero, List.set_cons_succ])
                        (try clear hH2)
                        refine wpAnyH_ready (rs := [7]) (by kernel_rfl) (by simp) ?_
                        refine' AllReadyH.cons (o := ?ob159z7) ?hb159z7 ?kb159z7 AllReadyH.nil
                        case hb159z7 => (simp only [List.getElem?_toArray, List.getElem?_cons_succ, List.getElem?_cons_zero]; rfl)
                        case kb159z7 =>
                          intro K0 hK
                          go_simp
                          refine (HGt.out _ _ (SL158.out.re (show _ = aSf gs S V * (Asn.blk g 30 #[.pointer (some ⟨gs, 0, none⟩), vl, vp, .int .i64 n'] * (Asn.vec 44 3 vl l.length (cells3 l) * (Asn.vec 80 4 vp (ps.map du).length (poL (ps.map du)) * Asn.blk gx 44 #[.string ⟨#[]⟩, .string ⟨#[]⟩, .bool false]))) by unfold aWd sPtr; rw [mul_emp]; ac_rfl))).mono ?_
                          rintro er wg160 ⟨rfl, hX⟩
                          have SG160 := Lib.hid (hX.re (show _ = Asn.blk gx 44 #[.string ⟨#[]⟩, .string ⟨#[]⟩, .bool false] * (aWd g gs S V vl l vp (ps.map du) n' * Asn.emp) by unfold aWd sPtr; rw [mul_emp]; ac_rfl))
                          clear hX SL158
                          refine hK.out _ _ ?_ (fun hHeld => ?_)
                          · exact (aWd_three (SG160.out.re (show _ = aWd g gs S V vl l vp (ps.map du) n' * (Asn.blk gx 44 #[.string ⟨#[]⟩, .string ⟨#[]⟩, .bool false] * Asn.emp) by ac_rfl))).1
                          clear hK K0
                          (try simp only [Act.put, List.setIfInBounds_toArray, List.set_cons_zero, List.set_cons_succ])
                          (try clear hH2)
                          refine' wpAnyH_take (i := 8) (oi := ?ot161z8) (v := ?vt161z8) ?ht161z8 ?st161z8 ?ft161z8 ?zt161z8 ?qt161z8 ?yt161z8 ?at161z8 ?rt161z8
                          case ht161z8 => (simp only [List.getElem?_toArray, List.getElem?_cons_succ, List.getElem?_cons_zero]; rfl)
                          case st161z8 => kernel_rfl
                          case ft161z8 => kernel_rfl
                          case zt161z8 => kernel_rfl
                          case qt161z8 => exact fun _ _ _ h => h
                          case yt161z8 => (refine Or.inl ⟨rfl, ?_⟩; intro w hSw; (try dsimp only at hSw); go_simp; try with_reducible rfl)
                          case at161z8 => assumption
                          case rt161z8 =>
                          simp only [Act.put, List.setIfInBounds_toArray, List.set_cons_zero, List.set_cons_succ]
                          refine' wpAnyH_take (i := 9) (oi := ?ot162z9) (v := ?vt162z9) ?ht162z9 ?st162z9 ?ft162z9 ?zt162z9 ?qt162z9 ?yt162z9 ?at162z9 ?rt162z9
                          case ht162z9 => (simp only [List.getElem?_toArray, List.getElem?_cons_succ, List.getElem?_cons_zero]; rfl)
                          case st162z9 => kernel_rfl
                          case ft162z9 => kernel_rfl
                          case zt162z9 => kernel_rfl
                          case qt162z9 => exact fun _ _ _ h => h
                          case yt162z9 => (refine Or.inl ⟨rfl, ?_⟩; intro w hSw; (try dsimp only at hSw); go_simp; try with_reducible rfl)
                          case at162z9 => assumption
                          case rt162z9 =>
                          simp only [Act.put, List.setIfInBounds_toArray, List.set_cons_zero, List.set_cons_succ]
                          refine' wpAnyH_take (i := 10) (oi := ?ot163z10) (v := ?vt163z10) ?ht163z10 ?st163z10 ?ft163z10 ?zt163z10 ?qt163z10 ?yt163z10 ?at163z10 ?rt163z10
                          case ht163z10 => (simp only [List.getElem?_toArray, List.getElem?_cons_succ, List.getElem?_cons_zero]; rfl)
                          case st163z10 => kernel_rfl
                          case ft163z10 => kernel_rfl
                          case zt163z10 => kernel_rfl
                          case qt163z10 => exact fun _ _ _ h => h
                          case yt163z10 => (refine Or.inl ⟨rfl, ?_⟩; intro w hSw; (try dsimp only at hSw); go_simp; try with_reducible rfl)
                          case at163z10 => assumption
                          case rt163z10 =>
                          simp only [Act.put, List.setIfInBounds_toArray, List.set_cons_zero, List.set_cons_succ]
                          refine' wpAnyH_take (i := 11) (oi := ?ot164z11) (v := ?vt164z11) ?ht164z11 ?st164z11 ?ft164z11 ?zt164z11 ?qt164z11 ?yt164z11 ?at164z11 ?rt164z11
                          case ht164z11 => (simp only [List.getElem?_toArray, List.getElem?_cons_succ, List.getElem?_cons_zero]; rfl)
                          case st164z11 => kernel_rfl
                          case ft164z11 => kernel_rfl
                          case zt164z11 => kernel_rfl
                          case qt164z11 => exact fun _ _ _ h => h
                          case yt164z11 => (refine Or.inl ⟨rfl, ?_⟩; intro w hSw; (try dsimp only at hSw); go_simp; try with_reducible rfl)
                          case at164z11 => assumption
                          case rt164z11 =>
                          simp only [Act.put, List.setIfInBounds_toArray, List.set_cons_zero, List.set_cons_succ]
                          refine wpAnyH_ready (rs := [13]) (by kernel_rfl) (by simp) ?_
                          refine' AllReadyH.cons (o := ?ob165z13) ?hb165z13 ?kb165z13 AllReadyH.nil
                          case hb165z13 => (simp only [List.getElem?_toArray, List.getElem?_cons_succ, List.getElem?_cons_zero]; rfl)
                          case kb165z13 =>
                            intro K0 hK
                            have hst := store_entN (P := Try.prog) (e40 key) (SG160.out.has (Has.l (has_blk gx _ _)))
                            have hsz : (entCells (e40 key)).size = 3 := rfl
                            go_simp
                            clear hst hsz
                            have SB166 := Lib.hid (own_setRowB SG160.out (entCells (e40 key)))
                            clear SG160
                            generalize World.setRow _ _ _ = wb166 at *
                            refine hK.out _ _ ?_ (fun hHeld => ?_)
                            · exact (aWd_three (SB166.out.re (show _ = aWd g gs S V vl l vp (ps.map du) n' * (Asn.blk gx 44 (entCells (e40 key)) * Asn.emp) by ac_rfl))).1
                            clear hK K0
                            (try simp only [Act.put, List.setIfInBounds_toArray, List.set_cons_zero, List.set_cons_succ])
                            (try clear hH2)
                            refine' wpAnyH_take (i := 14) (oi := ?ot167z14) (v := ?vt167z14) ?ht167z14 ?st167z14 ?ft167z14 ?zt167z14 ?qt167z14 ?yt167z14 ?at167z14 ?rt167z14
                            case ht167z14 => (simp only [List.getElem?_toArray, List.getElem?_cons_succ, List.getElem?_cons_zero]; rfl)
                            case st167z14 => kernel_rfl
                            case ft167z14 => kernel_rfl
                            case zt167z14 => kernel_rfl
                            case qt167z14 => exact fun _ _ _ h => h
                            case yt167z14 => (refine Or.inl ⟨rfl, ?_⟩; intro w hSw; (try dsimp only at hSw); go_simp; try with_reducible rfl)
                            case at167z14 => assumption
                            case rt167z14 =>
                            simp only [Act.put, List.setIfInBounds_toArray, List.set_cons_zero, List.set_cons_succ]
                            refine' wpAnyH_take (i := 15) (oi := ?ot168z15) (v := ?vt168z15) ?ht168z15 ?st168z15 ?ft168z15 ?zt168z15 ?qt168z15 ?yt168z15 ?at168z15 ?rt168z15
                            case ht168z15 => (simp only [List.getElem?_toArray, List.getElem?_cons_succ, List.getElem?_cons_zero]; rfl)
                            case st168z15 => kernel_rfl
                            case ft168z15 => kernel_rfl
                            case zt168z15 => kernel_rfl
                            case qt168z15 => exact fun _ _ _ h => h
                            case yt168z15 => (refine Or.inl ⟨rfl, ?_⟩; intro w hSw; (try dsimp only at hSw); go_simp; try with_reducible rfl)
                            case at168z15 => assumption
                            case rt168z15 =>
                            simp only [Act.put, List.setIfInBounds_toArray, List.set_cons_zero, List.set_cons_succ]
                            refine wpAnyH_done (by kernel_rfl) ?_ _
                            obtain ⟨⟨q0, q1, q2⟩, -⟩ := three_ofE (SB166.out.has (Has.l (has_blk gx _ _)))
                            rw [show (e40 key).val = List.replicate 40 0 from rfl] at q1
                            have hz40 : (ofL (List.replicate 40 (0 : UInt8))).size = 40 := rfl
                            go_wp2_with fail
                            go_roundw
                            case rel => exact ⟨k + 1, S, V, vl, l, vp, ps, n', top, ch, by omega, by omega, by go_num, Lib.hid ⟨HW.out, hn2, SB166.out.right⟩⟩
                            case measure => simp only [intOf]; omega

          · have hn8I : (256 : Int) ≤ (n : Int) + 8 := by omega
            go_wp2_with fail
            go_returns
            exact ⟨rfl, HX.out.own.bel⟩
        · by_cases hlt1 : k < m
          · have hltI : (k : Int) < (m : Int) := by omega
            obtain rfl : k = 60 := by omega
            go_wp2_with fail
            go_meet
            case rel => exact ⟨S, V, vl, l, vp, ps, n, top, ch, HX⟩
          · have hltI : ¬ (k : Int) < (m : Int) := by omega
            go_wp2_with fail
            go_meet
            case rel => exact ⟨S, V, vl, l, vp, ps, n, top, ch, HX⟩
  case rest =>
    obtain ⟨S, V, vl, l, vp, ps, n, top, ch, HX⟩ := hcut
    clear S1 V0
    go_upto_block 2 with fail
    go_cut [] (fun wx => ∃ (S : Sf) (V : Nat → Value) (vl : Value) (l : List Ent) (vp : Value) (n top : Nat) (ch : Nat → List Nat), Hid (Wx g gs w wx S V vl l vp [] n top ch))
    case first =>
      as_aux_lemma =>
        go_wp2_with fail
        go_loopw [11] (fun i wr => ∃ (k : Nat) (S : Sf) (V : Nat → Value) (vl : Value) (l : List Ent) (vp : Value) (ps : List Du) (n top : Nat) (ch : Nat → List Nat), i = .int .i64 k ∧ 2 * k + 2 * ps.length + 256 ≤ 512 + n ∧ Hid (Wx g gs w wr S V vl l vp ps n top ch)) (fun i _ => 300 - (intOf i).toNat)
        case atStart => exact ⟨0, S, V, vl, l, vp, ps, n, top, ch, rfl, by have := HX.out.ws.pl; have := HX.out.nn; omega, HX⟩
        case round =>
          clear HX S V vl l vp ps n top ch
          obtain ⟨k, S, V, vl, l, vp, ps, n, top, ch, rfl, hk, HX⟩ := hrel
          have hnn := HX.out.nn
          have hk3 : (k : Int) < 300 := by omega
          obtain ⟨PA, pc, hvp⟩ := (HX.out.own.re (show _ = Asn.vec 80 4 vp (ps.map du).length (poL (ps.map du)) * (Asn.blk g 30 #[.pointer (some ⟨gs, 0, none⟩), vl, vp, .int .i64 n] * (Asn.vec 44 3 vl l.length (cells3 l) * aSf gs S V)) by unfold aWd sPtr; rw [mul_emp]; ac_rfl)).vec.slice
          subst hvp
          obtain ⟨c0, c1, c2, c3⟩ := post_cellsB ((HX.out.own.re (show _ = Asn.blk g 30 #[.pointer (some ⟨gs, 0, none⟩), vl, .slice PA (ps.map du).length pc, .int .i64 n] * (Asn.vec 44 3 vl l.length (cells3 l) * (Asn.vec 80 4 (.slice PA (ps.map du).length pc) (ps.map du).length (poL (ps.map du)) * aSf gs S V)) by unfold aWd sPtr; rw [mul_emp])).has (Has.l (has_blk g _ _)))
          clear c0 c1
          by_cases hp : ps = []
          · subst hp
            rw [show ([] : List Du).map du = [] from rfl, List.length_nil] at c2
            go_wp2_with fail
            go_meet
            case rel => exact ⟨S, V, vl, l, _, n, top, ch, HX⟩
          · have hpp : 0 < ps.length := List.length_pos_iff.2 hp
            rw [List.length_map] at c2
            have hppI : (0 : Int) < (ps.length : Int) := by omega
            have hw8 : IntKind.i64.wrap ((n : Int) + 8) = (n : Int) + 8 := by rw [i64_is, IntWalk.wrap64_in _ ⟨by omega, by omega⟩]
            by_cases hn8 : n + 8 < 256
            · have hn8I : ¬ (256 : Int) ≤ (n : Int) + 8 := by omega
              have HHg := Lib.hid (fun N => hang_ps g gs S V vl l (.slice PA (ps.map du).length pc) ps n top ch N hp HX.out.ws hn8 w wr Asn.emp HX.out.own)
              clear HX hp
              go_wp2_with fail
              refine (HHg.out _).mono ?_
              rintro e w3 ⟨rfl, S, V, vp, ps', n', top, ch, h1, h2, h3, h4, hX⟩
              have HW := Lib.hid h1
              have hn2 : n' ≤ 256 := by omega
              have hnx := h1.wg.nx
              have hk' : 2 * (k + 1) + 2 * ps'.length + 256 ≤ 512 + n' := by omega
              have S2 := Lib.hid hX
              clear hX HHg h1 c2 c3 hw8 hn8 hn8I h2 hnn h3 h4 hk hpp hppI
              go_wp2_with fail
              refine (pages_any g gs S V vl l vp (ps'.map du) n' HW.out.sm hn2 w w3 _ S2.out).mono ?_
              rintro e w5 ⟨PA, pc, L, rfl, hpg, hX⟩
              have hv := (hX.re (show _ = Asn.vec 52 7 (.slice PA n' pc) n' (ndL L) * (aLs L * (aWd g gs S V vl l vp (ps'.map du) n' * Asn.emp)) by unfold aPg; ac_rfl)).vec
              rcases hv.forms with ⟨-, hz⟩ | ⟨pb, cap, he, -, -, -⟩
              · exact absurd hz (by omega)
              obtain ⟨rfl, -, rfl⟩ : PA = some ⟨pb, 0, none⟩ ∧ True ∧ pc = cap := by
                injection he with h1 h2 h3
                exact ⟨h1, trivial, h3⟩
              have HSo := Lib.hid (sound_any pb n' pc L S l ps' top ch HW.out hn2 hpg w w5 _ hX)
              rw [low_bytes] at HSo
              clear hX hv he hpg S2
              go_wp2_with fail
              refine HSo.out.mono ?_
              rintro e w6 ⟨rfl, hX⟩
              have HX := Lib.hid (show Wx g gs w w6 S V vl l vp ps' n' top ch from ⟨HW.out, hn2, hX.right⟩)
              clear hX HSo HW
              go_wp2_with fail
              go_round
              case rel => exact ⟨k + 1, S, V, vl, l, vp, ps', n', top, ch, by go_num, hk', HX⟩
              case measure => simp only [intOf]; omega
            · have hn8I : (256 : Int) ≤ (n : Int) + 8 := by omega
              go_wp2_with fail
              go_returns
              exact ⟨rfl, HX.out.own.bel⟩
    case rest =>
      clear HX S V vl l vp ps n top ch
      obtain ⟨S, V, vl, l, vp, n, top, ch, HX⟩ := hcut
      have HW := Lib.hid HX.out.ws
      have hnn := HX.out.nn
      have S1 := Lib.hid HX.out.own
      clear HX
      have hnx := HW.out.wg.nx
      have htop := HW.out.wg.four
      obtain ⟨QA, qc, hvp⟩ := (S1.out.re (show _ = Asn.vec 80 4 vp 0 [] * (Asn.blk g 30 #[.pointer (some ⟨gs, 0, none⟩), vl, vp, .int .i64 n] * (Asn.vec 44 3 vl l.length (cells3 l) * aSf gs S V)) by unfold aWd sPtr; rw [mul_emp, show ([] : List Du).map du = [] from rfl, show poL [] = [] from rfl, List.length_nil]; ac_rfl)).vec.slice
      subst hvp
      obtain ⟨c0, c1, c2, c3⟩ := post_cellsB ((S1.out.re (show _ = Asn.blk g 30 #[.pointer (some ⟨gs, 0, none⟩), vl, .slice QA 0 qc, .int .i64 n] * (Asn.vec 44 3 vl l.length (cells3 l) * (Asn.vec 80 4 (.slice QA 0 qc) ([] : List Du).length (poL []) * aSf gs S V)) by unfold aWd sPtr; rw [mul_emp]; rfl)).has (Has.l (has_blk g _ _)))
      clear c0 c1 c3
      go_wp2_with fail
      refine (pages_any g gs S V vl l (.slice QA 0 qc) [] n HW.out.sm hnn w wc _ S1.out).mono ?_
      rintro e w5 ⟨PA, pc, L, rfl, hpg, hX⟩
      have HPG := Lib.hid hpg
      have hv := (hX.re (show _ = Asn.vec 52 7 (.slice PA n pc) n (ndL L) * (aLs L * (aWd g gs S V vl l (.slice QA 0 qc) [] n * Asn.emp)) by unfold aPg; ac_rfl)).vec
      rcases hv.forms with ⟨-, hz⟩ | ⟨pb, cap, he, -, -, -⟩
      · exact absurd hz (by omega)
      obtain ⟨rfl, -, rfl⟩ : PA = some ⟨pb, 0, none⟩ ∧ True ∧ pc = cap := by
        injection he with h1 h2 h3
        exact ⟨h1, trivial, h3⟩
      clear hpg S1 c2 hv he
      go_upto_region 27 with fail
      have S2 := Lib.hid (hX.alloc z20 65)
      have HA := Lib.hid (store_20 (S2.out.has (Has.l (has_blk _ _ _))))
      clear hX
      go_upto_region 28 with (with_reducible first | refine list_build0 rfl 65 rfl (.agg z20) (run_b20 _) ?_ | refine list_alloc rfl 65 rfl _ (run_a20 _) ?_ | refine list_store rfl rfl (.tmp 13) (.tmp 113) 65 rfl (.pointer (some ⟨w5.heap.size, 0, none⟩)) (.agg z20) rfl rfl _ HA.out ?_)
      obtain ⟨gc, hgz⟩ : ∃ g, g = w5.heap.size := ⟨_, rfl⟩
      have S3 := Lib.hid (own_setRowB S2.out z20)
      rw [← hgz] at S3 ⊢
      clear hgz S2 HA
      generalize World.setRow (World.alloc w5 _) _ _ = w6 at *
      have S4 := Lib.hid (S3.out.alloc z20 65)
      have HA := Lib.hid (store_20 (S4.out.has (Has.l (has_blk _ _ _))))
      clear S3
      go_upto_region 29 with (with_reducible first | refine list_build0 rfl 65 rfl (.agg z20) (run_b20 _) ?_ | refine list_alloc rfl 65 rfl _ (run_a20 _) ?_ | refine list_store rfl rfl (.tmp 14) (.tmp 114) 65 rfl (.pointer (some ⟨w6.heap.size, 0, none⟩)) (.agg z20) rfl rfl _ HA.out ?_)
      obtain ⟨gl, hgz⟩ : ∃ g, g = w6.heap.size := ⟨_, rfl⟩
      have S5 := Lib.hid (own_setRowB S4.out z20)
      rw [← hgz] at S5 ⊢
      clear hgz S4 HA
      generalize World.setRow (World.alloc w6 _) _ _ = w7 at *
      obtain ⟨R, hR⟩ : ∃ R : Asn, R = aWd g gs S V vl l (.slice QA 0 qc) [] n * Asn.emp := ⟨_, rfl⟩
      have S6 := Lib.hid (show Own w No w7 (Asn.blk gl 65 (ar20 (leds S ch top 3)) * (Asn.blk gc 65 (ar20 (cnts ch top 3)) * (aPg (some ⟨pb, 0, none⟩) n pc L * R))) from by
        rw [show leds S ch top 3 = fun _ => 0 from funext fun j => (HW.out.wg.cnt_start j).2, show cnts ch top 3 = fun _ => 0 from funext fun j => (HW.out.wg.cnt_start j).1, hR]
        exact S5.out)
      clear S5
      go_wp2_with fail
      go_loopw [15] (fun i wr => ∃ (k : Nat), 3 ≤ k ∧ k ≤ n ∧ i = .int .i64 k ∧ Hid (Own w No wr (Asn.blk gl 65 (ar20 (leds S ch top k)) * (Asn.blk gc 65 (ar20 (cnts ch top k)) * (aPg (some ⟨pb, 0, none⟩) n pc L * R))))) (fun i _ => n - (intOf i).toNat)
      case atStart => exact ⟨3, by omega, by omega, rfl, S6⟩
      case round =>
        clear S6
        obtain ⟨k, hk3, hkn, rfl, S6⟩ := hrel
        by_cases hlt : k < n
        · have hkI : (k : Int) < (n : Int) := by omega
          obtain ⟨y, hy, hye⟩ := HPG.out.at hlt
          obtain ⟨⟨q0, q1, q2, q3, q4, q5, q6⟩, hrow⟩ := pg_seven (S6.out.re (show _ = aPg (some ⟨pb, 0, none⟩) n pc L * (Asn.blk gl 65 (ar20 (leds S ch top k)) * (Asn.blk gc 65 (ar20 (cnts ch top k)) * R)) by ac_rfl)) k y hy
          rw [hye] at q0 q1 q2 q3 q4 q5 hrow
          obtain ⟨EA, ec, hyv⟩ := hrow.slice
          rw [hyv] at q6 hrow
          have HSm := Lib.hid (fun W h => refSame_any (S k) Nod.none (.agg (nodCells (S k) (.slice EA (S k).list.length ec))) (.agg (nodCells Nod.none (.slice none 0 0))) W ⟨_, rfl, h⟩ ⟨_, rfl, Row3.nil _⟩)
          unfold nodCells at HSm
          rcases HW.out.wg.page k with ⟨K, hK, hm, hlv, htr⟩ | ⟨hno, hz⟩
          · have hne : decide (S k = Nod.none) = false := decide_eq_false (fun h => by rw [h] at htr; exact absurd htr (by decide))
            rw [hne] at HSm
            have hcb : cnts ch top k K ≤ 256 := by
              unfold cnts
              rw [if_pos hK]
              exact Nat.le_trans (List.length_filter_le _ _) (HW.out.wg.most hK)
            have hK0 : (0 : Int) ≤ (K : Int) := by omega
            have hK20 : (K : Int) < 20 := by omega
            have hll := (HW.out.sm k)
            by_cases hk0 : k = 3
            · as_aux_lemma =>
                have hk0I : ¬ (3 : Int) < (k : Int) := by omega
                rw [hlv] at q1
                clear HSm hne hk0
                have e1 := (S6.out.has (Has.r (Has.l (has_blk gc _ _)))).cell K
                rw [ar20_at _ (by omega)] at e1
                have f1 := (S6.out.has (Has.r (Has.l (has_blk gc _ _)))).free K
                have hcw : IntKind.i64.wrap (((cnts ch top k K : Nat) : Int) + 1) = ((cnts ch top k K + 1 : Nat) : Int) := by rw [i64_is, IntWalk.wrap64_in _ ⟨by omega, by omega⟩]; omega
                go_upto_region 34 with fail
                have S8 := Lib.hid (S6.out.set (Sets.r (Sets.l (sets_blk gc _ _ K (.int .i64 ((cnts ch top k K + 1 : Nat) : Int))))))
                rw [ar20_set, show (fun i => if i = K then cnts ch top k K + 1 else cnts ch top k i) = cnts ch top (k + 1) from funext fun j => by
                  rw [(HW.out.wg.cnt_yes hK hm j).1]
                  by_cases e : j = K
                  · subst e; rw [if_pos rfl]
                  · rw [if_neg e, if_neg e]] at S8
                rw [Int.natCast_add, Int.natCast_one] at S8
                clear e1 f1 hcw q0 q1 q2 q3 q4 q5 q6 S6
                generalize World.setCell wr _ _ = w9 at *
                obtain ⟨⟨q0, q1, q2, q3, q4, q5, q6⟩, -⟩ := pg_seven (S8.out.re (show _ = aPg (some ⟨pb, 0, none⟩) n pc L * (Asn.blk gl 65 (ar20 (leds S ch top k)) * (Asn.blk gc 65 (ar20 (cnts ch top (k + 1))) * R)) by ac_rfl)) k y hy
                rw [hye, hlv] at q1
                rw [hyv] at q6
                clear q0 q2 q3 q4 q5
                have HLD := Lib.hid (fun j => (HW.out.wg.cnt_yes hK hm j).2)
                by_cases hKz : K = 0
                · as_aux_lemma =>
                    have hKzI : ¬ (0 : Int) < (K : Int) := by omega
                    have hln : leds S ch top (k + 1) = leds S ch top k := funext fun j => by rw [HLD.out, if_neg (by omega)]
                    have HLN := Lib.hid hln
                    clear hln hKz
                    go_wp2_with fail
                    go_roundw
                    case rel => exact ⟨k + 1, by omega, by omega, by go_num, Lib.hid (by rw [HLN.out]; exact S8.out)⟩
                    case measure => simp only [intOf]; omega
                · as_aux_lemma =>
                    have hKzI : (0 : Int) < (K : Int) := by omega
                    have hKw : IntKind.i64.wrap ((K : Int) - 1) = (K : Int) - 1 := by rw [i64_is, IntWalk.wrap64_in _ ⟨by omega, by omega⟩]
                    go_upto_region 35 with fail
                    obtain ⟨K, rfl⟩ : ∃ K', K = K' + 1 := ⟨K - 1, by omega⟩
                    have hKm : ((K + 1 : Nat) : Int) - 1 = (K : Int) := by omega
                    have hKw2 : IntKind.i64.wrap (K : Int) = (K : Int) := by rw [i64_is, IntWalk.wrap64_in _ ⟨by omega, by omega⟩]
                    have hKa : (0 : Int) ≤ (K : Int) := by omega
                    have hKb : (K : Int) < 20 := by omega
                    have hlb : leds S ch top k K ≤ 6000 := by
                      unfold leds
                      rw [if_pos (by omega)]
                      have h1 := lists_le 21 (S := S) (A := upto (ch (K + 1)) k) (fun a ha => by
                        have hm2 : a ∈ ch (K + 1) := (List.mem_filter.1 ha).1
                        obtain ⟨X, Y, e2⟩ := List.append_of_mem hm2
                        have hl := HW.out.wg.tree.lvl (K + 1) hK
                        rw [e2] at hl
                        obtain ⟨l', hp⟩ := hl.pos
                        exact fits_len hp.ok.ft)
                      have h2 : (upto (ch (K + 1)) k).length ≤ 256 := Nat.le_trans (List.length_filter_le _ _) (HW.out.wg.most hK)
                      omega
                    refine wp_region_held_drew (S := fun W : World => W.cell? ⟨pb, k * 7 + 1, none⟩ = some (.int .i64 ((K + 1 : Nat) : Int)) ∧ W.cell? ⟨pb, k * 7 + 6, none⟩ = some (.slice EA (S k).list.length ec)) (by kernel_rfl) ⟨q1, q6⟩ (fun hHeld => ?_)
                    have S9 := Lib.hid S8.out.drew
                    clear S8 q1 q6
                    generalize w9.drew = w10 at *
                    refine' wpAnyH_take (i := 0) (oi := ?ot169z0) (v := ?vt169z0) ?ht169z0 ?st169z0 ?ft169z0 ?zt169z0 ?qt169z0 ?yt169z0 ?at169z0 ?rt169z0
                    case ht169z0 => (simp only [List.getElem?_toArray, List.getElem?_cons_succ, List.getElem?_cons_zero]; rfl)
                    case st169z0 => kernel_rfl
                    case ft169z0 => kernel_rfl
                    case zt169z0 => kernel_rfl
                    case qt169z0 => exact fun _ _ _ h => h
                    case yt169z0 => (refine Or.inl ⟨rfl, ?_⟩; intro w hSw; (try dsimp only at hSw); go_simp; try with_reducible rfl)
                    case at169z0 => assumption
                    case rt169z0 =>
                    simp only [Act.put, List.setIfInBounds_toArray, List.set_cons_zero, List.set_cons_succ]
                    refine' wpAnyH_take (i := 1) (oi := ?ot170z1) (v := ?vt170z1) ?ht170z1 ?st170z1 ?ft170z1 ?zt170z1 ?qt170z1 ?yt170z1 ?at170z1 ?rt170z1
                    case ht170z1 => (simp only [List.getElem?_toArray, List.getElem?_cons_succ, List.getElem?_cons_zero]; rfl)
                    case st170z1 => kernel_rfl
                    case ft170z1 => kernel_rfl
                    case zt170z1 => kernel_rfl
                    case qt170z1 => exact fun _ _ _ h => h
                    case yt170z1 => (refine Or.inl ⟨rfl, ?_⟩; intro w hSw; (try dsimp only at hSw); go_simp; try with_reducible rfl)
                    case at170z1 => assumption
                    case rt170z1 =>
                    simp only [Act.put, List.setIfInBounds_toArray, List.set_cons_zero, List.set_cons_succ]
                    refine' wpAnyH_take (i := 2) (oi := ?ot171z2) (v := ?vt171z2) ?ht171z2 ?st171z2 ?ft171z2 ?zt171z2 ?qt171z2 ?yt171z2 ?at171z2 ?rt171z2
                    case ht171z2 => (simp only [List.getElem?_toArray, List.getElem?_cons_succ, List.getElem?_cons_zero]; rfl)
                    case st171z2 => kernel_rfl
                    case ft171z2 => kernel_rfl
                    case zt171z2 => kernel_rfl
                    case qt171z2 => exact fun _ _ _ h => h
                    case yt171z2 => (refine Or.inl ⟨rfl, ?_⟩; intro w hSw; (try dsimp only at hSw); go_simp; try with_reducible rfl)
                    case at171z2 => assumption
                    case rt171z2 =>
                    simp only [Act.put, List.setIfInBounds_toArray, List.set_cons_zero, List.set_cons_succ]
                    refine' wpAnyH_take (i := 3) (oi := ?ot172z3) (v := ?vt172z3) ?ht172z3 ?st172z3 ?ft172z3 ?zt172z3 ?qt172z3 ?yt172z3 ?at172z3 ?rt172z3
                    case ht172z3 => (simp only [List.getElem?_toArray, List.getElem?_cons_succ, List.getElem?_cons_zero]; rfl)
                    case st172z3 => kernel_rfl
                    case ft172z3 => kernel_rfl
                    case zt172z3 => kernel_rfl
                    case qt172z3 => exact fun _ _ _ h => h
                    case yt172z3 => (refine Or.inl ⟨rfl, ?_⟩; intro w hSw; (try dsimp only at hSw); go_simp; try with_reducible rfl)
                    case at172z3 => assumption
                    case rt172z3 =>
                    simp only [Act.put, List.setIfInBounds_toArray, List.set_cons_zero, List.set_cons_succ]
                    refine' wpAnyH_take (i := 4) (oi := ?ot173z4) (v := ?vt173z4) ?ht173z4 ?st173z4 ?ft173z4 ?zt173z4 ?qt173z4 ?yt173z4 ?at173z4 ?rt173z4
                    case ht173z4 => (simp only [List.getElem?_toArray, List.getElem?_cons_succ, List.getElem?_cons_zero]; rfl)
                    case st173z4 => kernel_rfl
                    case ft173z4 => kernel_rfl
                    case zt173z4 => kernel_rfl
                    case qt173z4 => exact fun _ _ _ h => h
                    case yt173z4 => (refine Or.inl ⟨rfl, ?_⟩; intro w hSw; obtain ⟨hS1, hS2⟩ := hSw; go_simp; try with_reducible rfl)
                    case at173z4 => assumption
                    case rt173z4 =>
                    simp only [Act.put, List.setIfInBounds_toArray, List.set_cons_zero, List.set_cons_succ]
                    refine' wpAnyH_take (i := 5) (oi := ?ot174z5) (v := ?vt174z5) ?ht174z5 ?st174z5 ?ft174z5 ?zt174z5 ?qt174z5 ?yt174z5 ?at174z5 ?rt174z5
                    case ht174z5 => (simp only [List.getElem?_toArray, List.getElem?_cons_succ, List.getElem?_cons_zero]; rfl)
                    case st174z5 => kernel_rfl
                    case ft174z5 => kernel_rfl
                    case zt174z5 => kernel_rfl
                    case qt174z5 => exact fun _ _ _ h => h
                    case yt174z5 => (refine Or.inl ⟨rfl, ?_⟩; intro w hSw; (try dsimp only at hSw); go_simp; try with_reducible rfl)
                    case at174z5 => assumption
                    case rt174z5 =>
                    simp only [Act.put, List.setIfInBounds_toArray, List.set_cons_zero, List.set_cons_succ]
                    refine' wpAnyH_take (i := 6) (oi := ?ot175z6) (v := ?vt175z6) ?ht175z6 ?st175z6 ?ft175z6 ?zt175z6 ?qt175z6 ?yt175z6 ?at175z6 ?rt175z6
                    case ht175z6 => (simp only [List.getElem?_toArray, List.getElem?_cons_succ, List.getElem?_cons_zero]; rfl)
                    case st175z6 => kernel_rfl
                    case ft175z6 => kernel_rfl
                    case zt175z6 => kernel_rfl
                    case qt175z6 => exact fun _ _ _ h => h
                    case yt175z6 => (refine Or.inl ⟨rfl, ?_⟩; intro w hSw; (try dsimp only at hSw); go_simp; try with_reducible rfl)
                    case at175z6 => assumption
                    case rt175z6 =>
                    simp only [Act.put, List.setIfInBounds_toArray, List.set_cons_zero, List.set_cons_succ]
                    refine' wpAnyH_take (i := 7) (oi := ?ot176z7) (v := ?vt176z7) ?ht176z7 ?st176z7 ?ft176z7 ?zt176z7 ?qt176z7 ?yt176z7 ?at176z7 ?rt176z7
                    case ht176z7 => (simp only [List.getElem?_toArray, List.getElem?_cons_succ, List.getElem?_cons_zero]; rfl)
                    case st176z7 => kernel_rfl
                    case ft176z7 => kernel_rfl
                    case zt176z7 => kernel_rfl
                    case qt176z7 => exact fun _ _ _ h => h
                    case yt176z7 => (refine Or.inl ⟨rfl, ?_⟩; intro w hSw; (try dsimp only at hSw); go_simp; try with_reducible rfl)
                    case at176z7 => assumption
                    case rt176z7 =>
                    simp only [Act.put, List.setIfInBounds_toArray, List.set_cons_zero, List.set_cons_succ]
                    refine' wpAnyH_take (i := 8) (oi := ?ot177z8) (v := ?vt177z8) ?ht177z8 ?st177z8 ?ft177z8 ?zt177z8 ?qt177z8 ?yt177z8 ?at177z8 ?rt177z8
                    case ht177z8 => (simp only [List.getElem?_toArray, List.getElem?_cons_succ, List.getElem?_cons_zero]; rfl)
                    case st177z8 => kernel_rfl
                    case ft177z8 => kernel_rfl
                    case zt177z8 => kernel_rfl
                    case qt177z8 => exact fun _ _ _ h => h
                    case yt177z8 => (refine Or.inl ⟨rfl, ?_⟩; intro w hSw; (try dsimp only at hSw); go_simp; try with_reducible rfl)
                    case at177z8 => assumption
                    case rt177z8 =>
                    simp only [Act.put, List.setIfInBounds_toArray, List.set_cons_zero, List.set_cons_succ]
                    refine' wpAnyH_take (i := 9) (oi := ?ot178z9) (v := ?vt178z9) ?ht178z9 ?st178z9 ?ft178z9 ?zt178z9 ?qt178z9 ?yt178z9 ?at178z9 ?rt178z9
                    case ht178z9 => (simp only [List.getElem?_toArray, List.getElem?_cons_succ, List.getElem?_cons_zero]; rfl)
                    case st178z9 => kernel_rfl
                    case ft178z9 => kernel_rfl
                    case zt178z9 => kernel_rfl
                    case qt178z9 => exact fun _ _ _ h => h
                    case yt178z9 => (refine Or.inl ⟨rfl, ?_⟩; intro w hSw; (try dsimp only at hSw); go_simp; try with_reducible rfl)
                    case at178z9 => assumption
                    case rt178z9 =>
                    simp only [Act.put, List.setIfInBounds_toArray, List.set_cons_zero, List.set_cons_succ]
                    refine' wpAnyH_take (i := 10) (oi := ?ot179z10) (v := ?vt179z10) ?ht179z10 ?st179z10 ?ft179z10 ?zt179z10 ?qt179z10 ?yt179z10 ?at179z10 ?rt179z10
                    case ht179z10 => (simp only [List.getElem?_toArray, List.getElem?_cons_succ, List.getElem?_cons_zero]; rfl)
                    case st179z10 => kernel_rfl
                    case ft179z10 => kernel_rfl
                    case zt179z10 => kernel_rfl
                    case qt179z10 => exact fun _ _ _ h => h
                    case yt179z10 => (refine Or.inl ⟨rfl, ?_⟩; intro w hSw; obtain ⟨hS1, hS2⟩ := hSw; go_simp; try with_reducible rfl)
                    case at179z10 => assumption
                    case rt179z10 =>
                    simp only [Act.put, List.setIfInBounds_toArray, List.set_cons_zero, List.set_cons_succ]
                    refine' wpAnyH_take (i := 11) (oi := ?ot180z11) (v := ?vt180z11) ?ht180z11 ?st180z11 ?ft180z11 ?zt180z11 ?qt180z11 ?yt180z11 ?at180z11 ?rt180z11
                    case ht180z11 => (simp only [List.getElem?_toArray, List.getElem?_cons_succ, List.getElem?_cons_zero]; rfl)
                    case st180z11 => kernel_rfl
                    case ft180z11 => kernel_rfl
                    case zt180z11 => kernel_rfl
                    case qt180z11 => exact fun _ _ _ h => h
                    case yt180z11 => (refine Or.inl ⟨rfl, ?_⟩; intro w hSw; (try dsimp only at hSw); go_simp; try with_reducible rfl)
                    case at180z11 => assumption
                    case rt180z11 =>
                    simp only [Act.put, List.setIfInBounds_toArray, List.set_cons_zero, List.set_cons_succ]
                    refine' wpAnyH_take (i := 12) (oi := ?ot181z12) (v := ?vt181z12) ?ht181z12 ?st181z12 ?ft181z12 ?zt181z12 ?qt181z12 ?yt181z12 ?at181z12 ?rt181z12
                    case ht181z12 => (simp only [List.getElem?_toArray, List.getElem?_cons_succ, List.getElem?_cons_zero]; rfl)
                    case st181z12 => kernel_rfl
                    case ft181z12 => kernel_rfl
                    case zt181z12 => kernel_rfl
                    case qt181z12 => exact fun _ _ _ h => h
                    case yt181z12 => (refine Or.inl ⟨rfl, ?_⟩; intro w hSw; (try dsimp only at hSw); go_simp; try with_reducible rfl)
                    case at181z12 => assumption
                    case rt181z12 =>
                    simp only [Act.put, List.setIfInBounds_toArray, List.set_cons_zero, List.set_cons_succ]
                    refine' wpAnyH_take (i := 14) (oi := ?ot182z14) (v := ?vt182z14) ?ht182z14 ?st182z14 ?ft182z14 ?zt182z14 ?qt182z14 ?yt182z14 ?at182z14 ?rt182z14
                    case ht182z14 => (simp only [List.getElem?_toArray, List.getElem?_cons_succ, List.getElem?_cons_zero]; rfl)
                    case st182z14 => kernel_rfl
                    case ft182z14 => kernel_rfl
                    case zt182z14 => kernel_rfl
                    case qt182z14 => exact fun _ _ _ h => h
                    case yt182z14 => (refine Or.inl ⟨rfl, ?_⟩; intro w hSw; (try dsimp only at hSw); go_simp; try with_reducible rfl)
                    case at182z14 => assumption
                    case rt182z14 =>
                    simp only [Act.put, List.setIfInBounds_toArray, List.set_cons_zero, List.set_cons_succ]
                    refine' wpAnyH_take (i := 15) (oi := ?ot183z15) (v := ?vt183z15) ?ht183z15 ?st183z15 ?ft183z15 ?zt183z15 ?qt183z15 ?yt183z15 ?at183z15 ?rt183z15
                    case ht183z15 => (simp only [List.getElem?_toArray, List.getElem?_cons_succ, List.getElem?_cons_zero]; rfl)
                    case st183z15 => kernel_rfl
                    case ft183z15 => kernel_rfl
                    case zt183z15 => kernel_rfl
                    case qt183z15 => exact fun _ _ _ h => h
                    case yt183z15 => (refine Or.inl ⟨rfl, ?_⟩; intro w hSw; (try dsimp only at hSw); go_simp; try with_reducible rfl)
                    case at183z15 => assumption
                    case rt183z15 =>
                    simp only [Act.put, List.setIfInBounds_toArray, List.set_cons_zero, List.set_cons_succ]
                    refine' wpAnyH_take (i := 16) (oi := ?ot184z16) (v := ?vt184z16) ?ht184z16 ?st184z16 ?ft184z16 ?zt184z16 ?qt184z16 ?yt184z16 ?at184z16 ?rt184z16
                    case ht184z16 => (simp only [List.getElem?_toArray, List.getElem?_cons_succ, List.getElem?_cons_zero]; rfl)
                    case st184z16 => kernel_rfl
                    case ft184z16 => kernel_rfl
                    case zt184z16 => kernel_rfl
                    case qt184z16 => exact fun _ _ _ h => h
                    case yt184z16 => (refine Or.inl ⟨rfl, ?_⟩; intro w hSw; (try dsimp only at hSw); go_simp; try with_reducible rfl)
                    case at184z16 => assumption
                    case rt184z16 =>
                    simp only [Act.put, List.setIfInBounds_toArray, List.set_cons_zero, List.set_cons_succ]
                    refine' wpAnyH_take (i := 17) (oi := ?ot185z17) (v := ?vt185z17) ?ht185z17 ?st185z17 ?ft185z17 ?zt185z17 ?qt185z17 ?yt185z17 ?at185z17 ?rt185z17
                    case ht185z17 => (simp only [List.getElem?_toArray, List.getElem?_cons_succ, List.getElem?_cons_zero]; rfl)
                    case st185z17 => kernel_rfl
                    case ft185z17 => kernel_rfl
                    case zt185z17 => kernel_rfl
                    case qt185z17 => exact fun _ _ _ h => h
                    case yt185z17 => (refine Or.inl ⟨rfl, ?_⟩; intro w hSw; (try dsimp only at hSw); go_simp; try with_reducible rfl)
                    case at185z17 => assumption
                    case rt185z17 =>
                    simp only [Act.put, List.setIfInBounds_toArray, List.set_cons_zero, List.set_cons_succ]
                    refine' wpAnyH_take (i := 18) (oi := ?ot186z18) (v := ?vt186z18) ?ht186z18 ?st186z18 ?ft186z18 ?zt186z18 ?qt186z18 ?yt186z18 ?at186z18 ?rt186z18
                    case ht186z18 => (simp only [List.getElem?_toArray, List.getElem?_cons_succ, List.getElem?_cons_zero]; rfl)
                    case st186z18 => kernel_rfl
                    case ft186z18 => kernel_rfl
                    case zt186z18 => kernel_rfl
                    case qt186z18 => exact fun _ _ _ h => h
                    case yt186z18 => (refine Or.inl ⟨rfl, ?_⟩; intro w hSw; obtain ⟨hS1, hS2⟩ := hSw; go_simp; try with_reducible rfl)
                    case at186z18 => assumption
                    case rt186z18 =>
                    simp only [Act.put, List.setIfInBounds_toArray, List.set_cons_zero, List.set_cons_succ]
                    refine' wpAnyH_take (i := 19) (oi := ?ot187z19) (v := ?vt187z19) ?ht187z19 ?st187z19 ?ft187z19 ?zt187z19 ?qt187z19 ?yt187z19 ?at187z19 ?rt187z19
                    case ht187z19 => (simp only [List.getElem?_toArray, List.getElem?_cons_succ, List.getElem?_cons_zero]; rfl)
                    case st187z19 => kernel_rfl
                    case ft187z19 => kernel_rfl
                    case zt187z19 => kernel_rfl
                    case qt187z19 => exact fun _ _ _ h => h
                    case yt187z19 => (refine Or.inl ⟨rfl, ?_⟩; intro w hSw; (try dsimp only at hSw); go_simp; try with_reducible rfl)
                    case at187z19 => assumption
                    case rt187z19 =>
                    simp only [Act.put, List.setIfInBounds_toArray, List.set_cons_zero, List.set_cons_succ]
                    refine wpAnyH_ready (rs := [13]) (by kernel_rfl) (by simp) ?_
                    refine' AllReadyH.cons (o := ?ob188z13) ?hb188z13 ?kb188z13 AllReadyH.nil
                    case hb188z13 => (simp only [List.getElem?_toArray, List.getElem?_cons_succ, List.getElem?_cons_zero]; rfl)
                    case kb188z13 =>
                      intro K0 hK
                      have e2 := (S9.out.has (Has.l (has_blk gl _ _))).cell K
                      rw [ar20_at _ (by omega)] at e2
                      go_simp
                      clear e2
                      refine hK.out _ _ ?_ (fun hHeld => ?_)
                      · obtain ⟨⟨q0, q1, q2, q3, q4, q5, q6⟩, -⟩ := pg_seven (S9.out.re (show _ = aPg (some ⟨pb, 0, none⟩) n pc L * (Asn.blk gl 65 (ar20 (leds S ch top k)) * (Asn.blk gc 65 (ar20 (cnts ch top (k + 1))) * R)) by ac_rfl)) k y hy
                        rw [hye, hlv] at q1
                        rw [hyv] at q6
                        exact ⟨q1, q6⟩
                      clear hK K0
                      (try simp only [Act.put, List.setIfInBounds_toArray, List.set_cons_zero, List.set_cons_succ])
                      (try clear hH2)
                      refine' wpAnyH_take (i := 20) (oi := ?ot190z20) (v := ?vt190z20) ?ht190z20 ?st190z20 ?ft190z20 ?zt190z20 ?qt190z20 ?yt190z20 ?at190z20 ?rt190z20
                      case ht190z20 => (simp only [List.getElem?_toArray, List.getElem?_cons_succ, List.getElem?_cons_zero]; rfl)
                      case st190z20 => kernel_rfl
                      case ft190z20 => kernel_rfl
                      case zt190z20 => kernel_rfl
                      case qt190z20 => exact fun _ _ _ h => h
                      case yt190z20 => (refine Or.inl ⟨rfl, ?_⟩; intro w hSw; (try dsimp only at hSw); go_simp; try with_reducible rfl)
                      case at190z20 => assumption
                      case rt190z20 =>
                      simp only [Act.put, List.setIfInBounds_toArray, List.set_cons_zero, List.set_cons_succ]
                      refine' wpAnyH_take (i := 21) (oi := ?ot191z21) (v := ?vt191z21) ?ht191z21 ?st191z21 ?ft191z21 ?zt191z21 ?qt191z21 ?yt191z21 ?at191z21 ?rt191z21
                      case ht191z21 => (simp only [List.getElem?_toArray, List.getElem?_cons_succ, List.getElem?_cons_zero]; rfl)
                      case st191z21 => kernel_rfl
                      case ft191z21 => kernel_rfl
                      case zt191z21 => kernel_rfl
                      case qt191z21 => exact fun _ _ _ h => h
                      case yt191z21 => (refine Or.inl ⟨rfl, ?_⟩; intro w hSw; (try dsimp only at hSw); go_simp; try with_reducible rfl)
                      case at191z21 => assumption
                      case rt191z21 =>
                      simp only [Act.put, List.setIfInBounds_toArray, List.set_cons_zero, List.set_cons_succ]
                      refine wpAnyH_ready (rs := [22]) (by kernel_rfl) (by simp) ?_
                      refine' AllReadyH.cons (o := ?ob192z22) ?hb192z22 ?kb192z22 AllReadyH.nil
                      case hb192z22 => (simp only [List.getElem?_toArray, List.getElem?_cons_succ, List.getElem?_cons_zero]; rfl)
                      case kb192z22 =>
                        intro K0 hK
                        have e2 := (S9.out.has (Has.l (has_blk gl _ _))).cell K
                        rw [ar20_at _ (by omega)] at e2
                        have f2 := (S9.out.has (Has.l (has_blk gl _ _))).free K
                        have hlw2 : IntKind.i64.wrap (((leds S ch top k K : Nat) : Int) + ((S k).list.length : Int)) = ((leds S ch top k K + (S k).list.length : Nat) : Int) := by rw [i64_is, IntWalk.wrap64_in _ ⟨by omega, by omega⟩]; omega
                        go_simp
                        clear e2 f2 hlw2
                        have S10 := Lib.hid (S9.out.set (Sets.l (sets_blk gl _ _ K (.int .i64 ((leds S ch top k K + (S k).list.length : Nat) : Int)))))
                        rw [ar20_set, show (fun i => if i = K then leds S ch top k K + (S k).list.length else leds S ch top k i) = leds S ch top (k + 1) from funext fun j => by
                          rw [HLD.out]
                          by_cases e : j = K
                          · subst e; rw [if_pos rfl, if_pos rfl]
                          · rw [if_neg e, if_neg (by omega)]] at S10
                        rw [Int.natCast_add] at S10
                        clear S9
                        generalize World.setCell w10 _ _ = w11 at *
                        refine hK.out _ _ ?_ (fun hHeld => ?_)
                        · obtain ⟨⟨q0, q1, q2, q3, q4, q5, q6⟩, -⟩ := pg_seven (S10.out.re (show _ = aPg (some ⟨pb, 0, none⟩) n pc L * (Asn.blk gl 65 (ar20 (leds S ch top (k + 1))) * (Asn.blk gc 65 (ar20 (cnts ch top (k + 1))) * R)) by ac_rfl)) k y hy
                          rw [hye, hlv] at q1
                          rw [hyv] at q6
                          exact ⟨q1, q6⟩
                        clear hK K0
                        (try simp only [Act.put, List.setIfInBounds_toArray, List.set_cons_zero, List.set_cons_succ])
                        (try clear hH2)
                        refine wpAnyH_done (by kernel_rfl) ?_ _
                        go_wp2_with fail
                        go_roundw
                        case rel => exact ⟨k + 1, by omega, by omega, by go_num, S10⟩
                        case measure => simp only [intOf]; omega


            · as_aux_lemma =>
                have hk0I : (3 : Int) < (k : Int) := by omega
                clear hk0 hne
                have HLV := Lib.hid hlv
                clear hlv htr
                go_wp2_with fail
                refine (HSm.out _ hrow).mono ?_
                rintro er w8 ⟨rfl, hb⟩
                have S7 := Lib.hid (S6.out.below hb)
                clear hb S6 HSm q0 q1 q2 q3 q4 q5 q6 hrow
                have hlv := HLV.out
                obtain ⟨⟨q0, q1, q2, q3, q4, q5, q6⟩, hrow⟩ := pg_seven (S7.out.re (show _ = aPg (some ⟨pb, 0, none⟩) n pc L * (Asn.blk gl 65 (ar20 (leds S ch top k)) * (Asn.blk gc 65 (ar20 (cnts ch top k)) * R)) by ac_rfl)) k y hy
                rw [hye, hlv] at q1
                rw [hyv] at q6
                have e1 := (S7.out.has (Has.r (Has.l (has_blk gc _ _)))).cell K
                rw [ar20_at _ (by omega)] at e1
                have f1 := (S7.out.has (Has.r (Has.l (has_blk gc _ _)))).free K
                have hcw : IntKind.i64.wrap (((cnts ch top k K : Nat) : Int) + 1) = ((cnts ch top k K + 1 : Nat) : Int) := by rw [i64_is, IntWalk.wrap64_in _ ⟨by omega, by omega⟩]; omega
                go_upto_region 34 with fail
                have S8 := Lib.hid (S7.out.set (Sets.r (Sets.l (sets_blk gc _ _ K (.int .i64 ((cnts ch top k K + 1 : Nat) : Int))))))
                rw [ar20_set, show (fun i => if i = K then cnts ch top k K + 1 else cnts ch top k i) = cnts ch top (k + 1) from funext fun j => by
                  rw [(HW.out.wg.cnt_yes hK hm j).1]
                  by_cases e : j = K
                  · subst e; rw [if_pos rfl]
                  · rw [if_neg e, if_neg e]] at S8
                rw [Int.natCast_add, Int.natCast_one] at S8
                clear e1 f1 hcw q0 q1 q2 q3 q4 q5 q6 S7
                generalize World.setCell w8 _ _ = w9 at *
                obtain ⟨⟨q0, q1, q2, q3, q4, q5, q6⟩, -⟩ := pg_seven (S8.out.re (show _ = aPg (some ⟨pb, 0, none⟩) n pc L * (Asn.blk gl 65 (ar20 (leds S ch top k)) * (Asn.blk gc 65 (ar20 (cnts ch top (k + 1))) * R)) by ac_rfl)) k y hy
                rw [hye, hlv] at q1
                rw [hyv] at q6
                clear q0 q2 q3 q4 q5
                have HLD := Lib.hid (fun j => (HW.out.wg.cnt_yes hK hm j).2)
                by_cases hKz : K = 0
                · as_aux_lemma =>
                    have hKzI : ¬ (0 : Int) < (K : Int) := by omega
                    have hln : leds S ch top (k + 1) = leds S ch top k := funext fun j => by rw [HLD.out, if_neg (by omega)]
                    have HLN := Lib.hid hln
                    clear hln hKz
                    go_wp2_with fail
                    go_roundw
                    case rel => exact ⟨k + 1, by omega, by omega, by go_num, Lib.hid (by rw [HLN.out]; exact S8.out)⟩
                    case measure => simp only [intOf]; omega
                · as_aux_lemma =>
                    have hKzI : (0 : Int) < (K : Int) := by omega
                    have hKw : IntKind.i64.wrap ((K : Int) - 1) = (K : Int) - 1 := by rw [i64_is, IntWalk.wrap64_in _ ⟨by omega, by omega⟩]
                    go_upto_region 35 with fail
                    obtain ⟨K, rfl⟩ : ∃ K', K = K' + 1 := ⟨K - 1, by omega⟩
                    have hKm : ((K + 1 : Nat) : Int) - 1 = (K : Int) := by omega
                    have hKw2 : IntKind.i64.wrap (K : Int) = (K : Int) := by rw [i64_is, IntWalk.wrap64_in _ ⟨by omega, by omega⟩]
                    have hKa : (0 : Int) ≤ (K : Int) := by omega
                    have hKb : (K : Int) < 20 := by omega
                    have hlb : leds S ch top k K ≤ 6000 := by
                      unfold leds
                      rw [if_pos (by omega)]
                      have h1 := lists_le 21 (S := S) (A := upto (ch (K + 1)) k) (fun a ha => by
                        have hm2 : a ∈ ch (K + 1) := (List.mem_filter.1 ha).1
                        obtain ⟨X, Y, e2⟩ := List.append_of_mem hm2
                        have hl := HW.out.wg.tree.lvl (K + 1) hK
                        rw [e2] at hl
                        obtain ⟨l', hp⟩ := hl.pos
                        exact fits_len hp.ok.ft)
                      have h2 : (upto (ch (K + 1)) k).length ≤ 256 := Nat.le_trans (List.length_filter_le _ _) (HW.out.wg.most hK)
                      omega
                    refine wp_region_held_drew (S := fun W : World => W.cell? ⟨pb, k * 7 + 1, none⟩ = some (.int .i64 ((K + 1 : Nat) : Int)) ∧ W.cell? ⟨pb, k * 7 + 6, none⟩ = some (.slice EA (S k).list.length ec)) (by kernel_rfl) ⟨q1, q6⟩ (fun hHeld => ?_)
                    have S9 := Lib.hid S8.out.drew
                    clear S8 q1 q6
                    generalize w9.drew = w10 at *
                    refine' wpAnyH_take (i := 0) (oi := ?otx169z0) (v := ?vtx169z0) ?htx169z0 ?stx169z0 ?ftx169z0 ?ztx169z0 ?qtx169z0 ?ytx169z0 ?atx169z0 ?rtx169z0
                    case htx169z0 => (simp only [List.getElem?_toArray, List.getElem?_cons_succ, List.getElem?_cons_zero]; rfl)
                    case stx169z0 => kernel_rfl
                    case ftx169z0 => kernel_rfl
                    case ztx169z0 => kernel_rfl
                    case qtx169z0 => exact fun _ _ _ h => h
                    case ytx169z0 => (refine Or.inl ⟨rfl, ?_⟩; intro w hSw; (try dsimp only at hSw); go_simp; try with_reducible rfl)
                    case atx169z0 => assumption
                    case rtx169z0 =>
                    simp only [Act.put, List.setIfInBounds_toArray, List.set_cons_zero, List.set_cons_succ]
                    refine' wpAnyH_take (i := 1) (oi := ?otx170z1) (v := ?vtx170z1) ?htx170z1 ?stx170z1 ?ftx170z1 ?ztx170z1 ?qtx170z1 ?ytx170z1 ?atx170z1 ?rtx170z1
                    case htx170z1 => (simp only [List.getElem?_toArray, List.getElem?_cons_succ, List.getElem?_cons_zero]; rfl)
                    case stx170z1 => kernel_rfl
                    case ftx170z1 => kernel_rfl
                    case ztx170z1 => kernel_rfl
                    case qtx170z1 => exact fun _ _ _ h => h
                    case ytx170z1 => (refine Or.inl ⟨rfl, ?_⟩; intro w hSw; (try dsimp only at hSw); go_simp; try with_reducible rfl)
                    case atx170z1 => assumption
                    case rtx170z1 =>
                    simp only [Act.put, List.setIfInBounds_toArray, List.set_cons_zero, List.set_cons_succ]
                    refine' wpAnyH_take (i := 2) (oi := ?otx171z2) (v := ?vtx171z2) ?htx171z2 ?stx171z2 ?ftx171z2 ?ztx171z2 ?qtx171z2 ?ytx171z2 ?atx171z2 ?rtx171z2
                    case htx171z2 => (simp only [List.getElem?_toArray, List.getElem?_cons_succ, List.getElem?_cons_zero]; rfl)
                    case stx171z2 => kernel_rfl
                    case ftx171z2 => kernel_rfl
                    case ztx171z2 => kernel_rfl
                    case qtx171z2 => exact fun _ _ _ h => h
                    case ytx171z2 => (refine Or.inl ⟨rfl, ?_⟩; intro w hSw; (try dsimp only at hSw); go_simp; try with_reducible rfl)
                    case atx171z2 => assumption
                    case rtx171z2 =>
                    simp only [Act.put, List.setIfInBounds_toArray, List.set_cons_zero, List.set_cons_succ]
                    refine' wpAnyH_take (i := 3) (oi := ?otx172z3) (v := ?vtx172z3) ?htx172z3 ?stx172z3 ?ftx172z3 ?ztx172z3 ?qtx172z3 ?ytx172z3 ?atx172z3 ?rtx172z3
                    case htx172z3 => (simp only [List.getElem?_toArray, List.getElem?_cons_succ, List.getElem?_cons_zero]; rfl)
                    case stx172z3 => kernel_rfl
                    case ftx172z3 => kernel_rfl
                    case ztx172z3 => kernel_rfl
                    case qtx172z3 => exact fun _ _ _ h => h
                    case ytx172z3 => (refine Or.inl ⟨rfl, ?_⟩; intro w hSw; (try dsimp only at hSw); go_simp; try with_reducible rfl)
                    case atx172z3 => assumption
                    case rtx172z3 =>
                    simp only [Act.put, List.setIfInBounds_toArray, List.set_cons_zero, List.set_cons_succ]
                    refine' wpAnyH_take (i := 4) (oi := ?otx173z4) (v := ?vtx173z4) ?htx173z4 ?stx173z4 ?ftx173z4 ?ztx173z4 ?qtx173z4 ?ytx173z4 ?atx173z4 ?rtx173z4
                    case htx173z4 => (simp only [List.getElem?_toArray, List.getElem?_cons_succ, List.getElem?_cons_zero]; rfl)
                    case stx173z4 => kernel_rfl
                    case ftx173z4 => kernel_rfl
                    case ztx173z4 => kernel_rfl
                    case qtx173z4 => exact fun _ _ _ h => h
                    case ytx173z4 => (refine Or.inl ⟨rfl, ?_⟩; intro w hSw; obtain ⟨hS1, hS2⟩ := hSw; go_simp; try with_reducible rfl)
                    case atx173z4 => assumption
                    case rtx173z4 =>
                    simp only [Act.put, List.setIfInBounds_toArray, List.set_cons_zero, List.set_cons_succ]
                    refine' wpAnyH_take (i := 5) (oi := ?otx174z5) (v := ?vtx174z5) ?htx174z5 ?stx174z5 ?ftx174z5 ?ztx174z5 ?qtx174z5 ?ytx174z5 ?atx174z5 ?rtx174z5
                    case htx174z5 => (simp only [List.getElem?_toArray, List.getElem?_cons_succ, List.getElem?_cons_zero]; rfl)
                    case stx174z5 => kernel_rfl
                    case ftx174z5 => kernel_rfl
                    case ztx174z5 => kernel_rfl
                    case qtx174z5 => exact fun _ _ _ h => h
                    case ytx174z5 => (refine Or.inl ⟨rfl, ?_⟩; intro w hSw; (try dsimp only at hSw); go_simp; try with_reducible rfl)
                    case atx174z5 => assumption
                    case rtx174z5 =>
                    simp only [Act.put, List.setIfInBounds_toArray, List.set_cons_zero, List.set_cons_succ]
                    refine' wpAnyH_take (i := 6) (oi := ?otx175z6) (v := ?vtx175z6) ?htx175z6 ?stx175z6 ?ftx175z6 ?ztx175z6 ?qtx175z6 ?ytx175z6 ?atx175z6 ?rtx175z6
                    case htx175z6 => (simp only [List.getElem?_toArray, List.getElem?_cons_succ, List.getElem?_cons_zero]; rfl)
                    case stx175z6 => kernel_rfl
                    case ftx175z6 => kernel_rfl
                    case ztx175z6 => kernel_rfl
                    case qtx175z6 => exact fun _ _ _ h => h
                    case ytx175z6 => (refine Or.inl ⟨rfl, ?_⟩; intro w hSw; (try dsimp only at hSw); go_simp; try with_reducible rfl)
                    case atx175z6 => assumption
                    case rtx175z6 =>
                    simp only [Act.put, List.setIfInBounds_toArray, List.set_cons_zero, List.set_cons_succ]
                    refine' wpAnyH_take (i := 7) (oi := ?otx176z7) (v := ?vtx176z7) ?htx176z7 ?stx176z7 ?ftx176z7 ?ztx176z7 ?qtx176z7 ?ytx176z7 ?atx176z7 ?rtx176z7
                    case htx176z7 => (simp only [List.getElem?_toArray, List.getElem?_cons_succ, List.getElem?_cons_zero]; rfl)
                    case stx176z7 => kernel_rfl
                    case ftx176z7 => kernel_rfl
                    case ztx176z7 => kernel_rfl
                    case qtx176z7 => exact fun _ _ _ h => h
                    case ytx176z7 => (refine Or.inl ⟨rfl, ?_⟩; intro w hSw; (try dsimp only at hSw); go_simp; try with_reducible rfl)
                    case atx176z7 => assumption
                    case rtx176z7 =>
                    simp only [Act.put, List.setIfInBounds_toArray, List.set_cons_zero, List.set_cons_succ]
                    refine' wpAnyH_take (i := 8) (oi := ?otx177z8) (v := ?vtx177z8) ?htx177z8 ?stx177z8 ?ftx177z8 ?ztx177z8 ?qtx177z8 ?ytx177z8 ?atx177z8 ?rtx177z8
                    case htx177z8 => (simp only [List.getElem?_toArray, List.getElem?_cons_succ, List.getElem?_cons_zero]; rfl)
                    case stx177z8 => kernel_rfl
                    case ftx177z8 => kernel_rfl
                    case ztx177z8 => kernel_rfl
                    case qtx177z8 => exact fun _ _ _ h => h
                    case ytx177z8 => (refine Or.inl ⟨rfl, ?_⟩; intro w hSw; (try dsimp only at hSw); go_simp; try with_reducible rfl)
                    case atx177z8 => assumption
                    case rtx177z8 =>
                    simp only [Act.put, List.setIfInBounds_toArray, List.set_cons_zero, List.set_cons_succ]
                    refine' wpAnyH_take (i := 9) (oi := ?otx178z9) (v := ?vtx178z9) ?htx178z9 ?stx178z9 ?ftx178z9 ?ztx178z9 ?qtx178z9 ?ytx178z9 ?atx178z9 ?rtx178z9
                    case htx178z9 => (simp only [List.getElem?_toArray, List.getElem?_cons_succ, List.getElem?_cons_zero]; rfl)
                    case stx178z9 => kernel_rfl
                    case ftx178z9 => kernel_rfl
                    case ztx178z9 => kernel_rfl
                    case qtx178z9 => exact fun _ _ _ h => h
                    case ytx178z9 => (refine Or.inl ⟨rfl, ?_⟩; intro w hSw; (try dsimp only at hSw); go_simp; try with_reducible rfl)
                    case atx178z9 => assumption
                    case rtx178z9 =>
                    simp only [Act.put, List.setIfInBounds_toArray, List.set_cons_zero, List.set_cons_succ]
                    refine' wpAnyH_take (i := 10) (oi := ?otx179z10) (v := ?vtx179z10) ?htx179z10 ?stx179z10 ?ftx179z10 ?ztx179z10 ?qtx179z10 ?ytx179z10 ?atx179z10 ?rtx179z10
                    case htx179z10 => (simp only [List.getElem?_toArray, List.getElem?_cons_succ, List.getElem?_cons_zero]; rfl)
                    case stx179z10 => kernel_rfl
                    case ftx179z10 => kernel_rfl
                    case ztx179z10 => kernel_rfl
                    case qtx179z10 => exact fun _ _ _ h => h
                    case ytx179z10 => (refine Or.inl ⟨rfl, ?_⟩; intro w hSw; obtain ⟨hS1, hS2⟩ := hSw; go_simp; try with_reducible rfl)
                    case atx179z10 => assumption
                    case rtx179z10 =>
                    simp only [Act.put, List.setIfInBounds_toArray, List.set_cons_zero, List.set_cons_succ]
                    refine' wpAnyH_take (i := 11) (oi := ?otx180z11) (v := ?vtx180z11) ?htx180z11 ?stx180z11 ?ftx180z11 ?ztx180z11 ?qtx180z11 ?ytx180z11 ?atx180z11 ?rtx180z11
                    case htx180z11 => (simp only [List.getElem?_toArray, List.getElem?_cons_succ, List.getElem?_cons_zero]; rfl)
                    case stx180z11 => kernel_rfl
                    case ftx180z11 => kernel_rfl
                    case ztx180z11 => kernel_rfl
                    case qtx180z11 => exact fun _ _ _ h => h
                    case ytx180z11 => (refine Or.inl ⟨rfl, ?_⟩; intro w hSw; (try dsimp only at hSw); go_simp; try with_reducible rfl)
                    case atx180z11 => assumption
                    case rtx180z11 =>
                    simp only [Act.put, List.setIfInBounds_toArray, List.set_cons_zero, List.set_cons_succ]
                    refine' wpAnyH_take (i := 12) (oi := ?otx181z12) (v := ?vtx181z12) ?htx181z12 ?stx181z12 ?ftx181z12 ?ztx181z12 ?qtx181z12 ?ytx181z12 ?atx181z12 ?rtx181z12
                    case htx181z12 => (simp only [List.getElem?_toArray, List.getElem?_cons_succ, List.getElem?_cons_zero]; rfl)
                    case stx181z12 => kernel_rfl
                    case ftx181z12 => kernel_rfl
                    case ztx181z12 => kernel_rfl
                    case qtx181z12 => exact fun _ _ _ h => h
                    case ytx181z12 => (refine Or.inl ⟨rfl, ?_⟩; intro w hSw; (try dsimp only at hSw); go_simp; try with_reducible rfl)
                    case atx181z12 => assumption
                    case rtx181z12 =>
                    simp only [Act.put, List.setIfInBounds_toArray, List.set_cons_zero, List.set_cons_succ]
                    refine' wpAnyH_take (i := 14) (oi := ?otx182z14) (v := ?vtx182z14) ?htx182z14 ?stx182z14 ?ftx182z14 ?ztx182z14 ?qtx182z14 ?ytx182z14 ?atx182z14 ?rtx182z14
                    case htx182z14 => (simp only [List.getElem?_toArray, List.getElem?_cons_succ, List.getElem?_cons_zero]; rfl)
                    case stx182z14 => kernel_rfl
                    case ftx182z14 => kernel_rfl
                    case ztx182z14 => kernel_rfl
                    case qtx182z14 => exact fun _ _ _ h => h
                    case ytx182z14 => (refine Or.inl ⟨rfl, ?_⟩; intro w hSw; (try dsimp only at hSw); go_simp; try with_reducible rfl)
                    case atx182z14 => assumption
                    case rtx182z14 =>
                    simp only [Act.put, List.setIfInBounds_toArray, List.set_cons_zero, List.set_cons_succ]
                    refine' wpAnyH_take (i := 15) (oi := ?otx183z15) (v := ?vtx183z15) ?htx183z15 ?stx183z15 ?ftx183z15 ?ztx183z15 ?qtx183z15 ?ytx183z15 ?atx183z15 ?rtx183z15
                    case htx183z15 => (simp only [List.getElem?_toArray, List.getElem?_cons_succ, List.getElem?_cons_zero]; rfl)
                    case stx183z15 => kernel_rfl
                    case ftx183z15 => kernel_rfl
                    case ztx183z15 => kernel_rfl
                    case qtx183z15 => exact fun _ _ _ h => h
                    case ytx183z15 => (refine Or.inl ⟨rfl, ?_⟩; intro w hSw; (try dsimp only at hSw); go_simp; try with_reducible rfl)
                    case atx183z15 => assumption
                    case rtx183z15 =>
                    simp only [Act.put, List.setIfInBounds_toArray, List.set_cons_zero, List.set_cons_succ]
                    refine' wpAnyH_take (i := 16) (oi := ?otx184z16) (v := ?vtx184z16) ?htx184z16 ?stx184z16 ?ftx184z16 ?ztx184z16 ?qtx184z16 ?ytx184z16 ?atx184z16 ?rtx184z16
                    case htx184z16 => (simp only [List.getElem?_toArray, List.getElem?_cons_succ, List.getElem?_cons_zero]; rfl)
                    case stx184z16 => kernel_rfl
                    case ftx184z16 => kernel_rfl
                    case ztx184z16 => kernel_rfl
                    case qtx184z16 => exact fun _ _ _ h => h
                    case ytx184z16 => (refine Or.inl ⟨rfl, ?_⟩; intro w hSw; (try dsimp only at hSw); go_simp; try with_reducible rfl)
                    case atx184z16 => assumption
                    case rtx184z16 =>
                    simp only [Act.put, List.setIfInBounds_toArray, List.set_cons_zero, List.set_cons_succ]
                    refine' wpAnyH_take (i := 17) (oi := ?otx185z17) (v := ?vtx185z17) ?htx185z17 ?stx185z17 ?ftx185z17 ?ztx185z17 ?qtx185z17 ?ytx185z17 ?atx185z17 ?rtx185z17
                    case htx185z17 => (simp only [List.getElem?_toArray, List.getElem?_cons_succ, List.getElem?_cons_zero]; rfl)
                    case stx185z17 => kernel_rfl
                    case ftx185z17 => kernel_rfl
                    case ztx185z17 => kernel_rfl
                    case qtx185z17 => exact fun _ _ _ h => h
                    case ytx185z17 => (refine Or.inl ⟨rfl, ?_⟩; intro w hSw; (try dsimp only at hSw); go_simp; try with_reducible rfl)
                    case atx185z17 => assumption
                    case rtx185z17 =>
                    simp only [Act.put, List.setIfInBounds_toArray, List.set_cons_zero, List.set_cons_succ]
                    refine' wpAnyH_take (i := 18) (oi := ?otx186z18) (v := ?vtx186z18) ?htx186z18 ?stx186z18 ?ftx186z18 ?ztx186z18 ?qtx186z18 ?ytx186z18 ?atx186z18 ?rtx186z18
                    case htx186z18 => (simp only [List.getElem?_toArray, List.getElem?_cons_succ, List.getElem?_cons_zero]; rfl)
                    case stx186z18 => kernel_rfl
                    case ftx186z18 => kernel_rfl
                    case ztx186z18 => kernel_rfl
                    case qtx186z18 => exact fun _ _ _ h => h
                    case ytx186z18 => (refine Or.inl ⟨rfl, ?_⟩; intro w hSw; obtain ⟨hS1, hS2⟩ := hSw; go_simp; try with_reducible rfl)
                    case atx186z18 => assumption
                    case rtx186z18 =>
                    simp only [Act.put, List.setIfInBounds_toArray, List.set_cons_zero, List.set_cons_succ]
                    refine' wpAnyH_take (i := 19) (oi := ?otx187z19) (v := ?vtx187z19) ?htx187z19 ?stx187z19 ?ftx187z19 ?ztx187z19 ?qtx187z19 ?ytx187z19 ?atx187z19 ?rtx187z19
                    case htx187z19 => (simp only [List.getElem?_toArray, List.getElem?_cons_succ, List.getElem?_cons_zero]; rfl)
                    case stx187z19 => kernel_rfl
                    case ftx187z19 => kernel_rfl
                    case ztx187z19 => kernel_rfl
                    case qtx187z19 => exact fun _ _ _ h => h
                    case ytx187z19 => (refine Or.inl ⟨rfl, ?_⟩; intro w hSw; (try dsimp only at hSw); go_simp; try with_reducible rfl)
                    case atx187z19 => assumption
                    case rtx187z19 =>
                    simp only [Act.put, List.setIfInBounds_toArray, List.set_cons_zero, List.set_cons_succ]
                    refine wpAnyH_ready (rs := [13]) (by kernel_rfl) (by simp) ?_
                    refine' AllReadyH.cons (o := ?obx188z13) ?hbx188z13 ?kbx188z13 AllReadyH.nil
                    case hbx188z13 => (simp only [List.getElem?_toArray, List.getElem?_cons_succ, List.getElem?_cons_zero]; rfl)
                    case kbx188z13 =>
                      intro K0 hK
                      have e2 := (S9.out.has (Has.l (has_blk gl _ _))).cell K
                      rw [ar20_at _ (by omega)] at e2
                      go_simp
                      clear e2
                      refine hK.out _ _ ?_ (fun hHeld => ?_)
                      · obtain ⟨⟨q0, q1, q2, q3, q4, q5, q6⟩, -⟩ := pg_seven (S9.out.re (show _ = aPg (some ⟨pb, 0, none⟩) n pc L * (Asn.blk gl 65 (ar20 (leds S ch top k)) * (Asn.blk gc 65 (ar20 (cnts ch top (k + 1))) * R)) by ac_rfl)) k y hy
                        rw [hye, hlv] at q1
                        rw [hyv] at q6
                        exact ⟨q1, q6⟩
                      clear hK K0
                      (try simp only [Act.put, List.setIfInBounds_toArray, List.set_cons_zero, List.set_cons_succ])
                      (try clear hH2)
                      refine' wpAnyH_take (i := 20) (oi := ?otx190z20) (v := ?vtx190z20) ?htx190z20 ?stx190z20 ?ftx190z20 ?ztx190z20 ?qtx190z20 ?ytx190z20 ?atx190z20 ?rtx190z20
                      case htx190z20 => (simp only [List.getElem?_toArray, List.getElem?_cons_succ, List.getElem?_cons_zero]; rfl)
                      case stx190z20 => kernel_rfl
                      case ftx190z20 => kernel_rfl
                      case ztx190z20 => kernel_rfl
                      case qtx190z20 => exact fun _ _ _ h => h
                      case ytx190z20 => (refine Or.inl ⟨rfl, ?_⟩; intro w hSw; (try dsimp only at hSw); go_simp; try with_reducible rfl)
                      case atx190z20 => assumption
                      case rtx190z20 =>
                      simp only [Act.put, List.setIfInBounds_toArray, List.set_cons_zero, List.set_cons_succ]
                      refine' wpAnyH_take (i := 21) (oi := ?otx191z21) (v := ?vtx191z21) ?htx191z21 ?stx191z21 ?ftx191z21 ?ztx191z21 ?qtx191z21 ?ytx191z21 ?atx191z21 ?rtx191z21
                      case htx191z21 => (simp only [List.getElem?_toArray, List.getElem?_cons_succ, List.getElem?_cons_zero]; rfl)
                      case stx191z21 => kernel_rfl
                      case ftx191z21 => kernel_rfl
                      case ztx191z21 => kernel_rfl
                      case qtx191z21 => exact fun _ _ _ h => h
                      case ytx191z21 => (refine Or.inl ⟨rfl, ?_⟩; intro w hSw; (try dsimp only at hSw); go_simp; try with_reducible rfl)
                      case atx191z21 => assumption
                      case rtx191z21 =>
                      simp only [Act.put, List.setIfInBounds_toArray, List.set_cons_zero, List.set_cons_succ]
                      refine wpAnyH_ready (rs := [22]) (by kernel_rfl) (by simp) ?_
                      refine' AllReadyH.cons (o := ?obx192z22) ?hbx192z22 ?kbx192z22 AllReadyH.nil
                      case hbx192z22 => (simp only [List.getElem?_toArray, List.getElem?_cons_succ, List.getElem?_cons_zero]; rfl)
                      case kbx192z22 =>
                        intro K0 hK
                        have e2 := (S9.out.has (Has.l (has_blk gl _ _))).cell K
                        rw [ar20_at _ (by omega)] at e2
                        have f2 := (S9.out.has (Has.l (has_blk gl _ _))).free K
                        have hlw2 : IntKind.i64.wrap (((leds S ch top k K : Nat) : Int) + ((S k).list.length : Int)) = ((leds S ch top k K + (S k).list.length : Nat) : Int) := by rw [i64_is, IntWalk.wrap64_in _ ⟨by omega, by omega⟩]; omega
                        go_simp
                        clear e2 f2 hlw2
                        have S10 := Lib.hid (S9.out.set (Sets.l (sets_blk gl _ _ K (.int .i64 ((leds S ch top k K + (S k).list.length : Nat) : Int)))))
                        rw [ar20_set, show (fun i => if i = K then leds S ch top k K + (S k).list.length else leds S ch top k i) = leds S ch top (k + 1) from funext fun j => by
                          rw [HLD.out]
                          by_cases e : j = K
                          · subst e; rw [if_pos rfl, if_pos rfl]
                          · rw [if_neg e, if_neg (by omega)]] at S10
                        rw [Int.natCast_add] at S10
                        clear S9
                        generalize World.setCell w10 _ _ = w11 at *
                        refine hK.out _ _ ?_ (fun hHeld => ?_)
                        · obtain ⟨⟨q0, q1, q2, q3, q4, q5, q6⟩, -⟩ := pg_seven (S10.out.re (show _ = aPg (some ⟨pb, 0, none⟩) n pc L * (Asn.blk gl 65 (ar20 (leds S ch top (k + 1))) * (Asn.blk gc 65 (ar20 (cnts ch top (k + 1))) * R)) by ac_rfl)) k y hy
                          rw [hye, hlv] at q1
                          rw [hyv] at q6
                          exact ⟨q1, q6⟩
                        clear hK K0
                        (try simp only [Act.put, List.setIfInBounds_toArray, List.set_cons_zero, List.set_cons_succ])
                        (try clear hH2)
                        refine wpAnyH_done (by kernel_rfl) ?_ _
                        go_wp2_with fail
                        go_roundw
                        case rel => exact ⟨k + 1, by omega, by omega, by go_num, S10⟩
                        case measure => simp only [intOf]; omega


          · as_aux_lemma =>
              have hk0 : (3 : Int) < (k : Int) := by
                have : k ≠ 3 := fun e => hno top (Nat.le_refl _) (by rw [HW.out.wg.tree.root, e]; simp)
                omega
              rw [decide_eq_true hz, hz] at HSm
              rw [hz] at q0 q1 q2 q3 q4 q5 q6 hrow
              have hcn : cnts ch top (k + 1) = cnts ch top k := funext fun j => (HW.out.wg.cnt_no hno j).1
              have hln : leds S ch top (k + 1) = leds S ch top k := funext fun j => (HW.out.wg.cnt_no hno j).2
              have HCN := Lib.hid hcn
              have HLN := Lib.hid hln
              clear hcn hln
              go_wp2_with fail
              refine (HSm.out _ hrow).mono ?_
              rintro er w8 ⟨rfl, hb⟩
              have S7 := Lib.hid (S6.out.below hb)
              clear hb S6 HSm q0 q1 q2 q3 q4 q5 q6 hrow
              go_wp2_with fail
              go_roundw
              case rel => exact ⟨k + 1, by omega, by omega, by go_num, Lib.hid (by rw [HCN.out, HLN.out]; exact S7.out)⟩
              case measure => simp only [intOf]; omega
        · as_aux_lemma =>
            obtain rfl : k = n := by omega
            obtain ⟨y, hy, hye⟩ := HPG.out.at (show 3 < k by omega)
            have hl3 := HW.out.wg.root3.1
            have HL3 := Lib.hid hl3
            clear hl3
            go_wp2_with fail
            go_loopw [16] (fun i wr => ∃ (j : Nat), j ≤ top ∧ i = .int .i64 j ∧ Hid (Own w No wr (Asn.blk gl 65 (ar20 (leds S ch top k)) * (Asn.blk gc 65 (ar20 (cnts ch top k)) * (aPg (some ⟨pb, 0, none⟩) k pc L * R))))) (fun i _ => top - (intOf i).toNat)
            case atStart => exact ⟨0, by omega, rfl, S6⟩
            case round =>
              clear S6
              obtain ⟨j, hj, rfl, S6⟩ := hrel
              obtain ⟨⟨q0, q1, q2, q3, q4, q5, q6⟩, hrow⟩ := pg_seven (S6.out.re (show _ = aPg (some ⟨pb, 0, none⟩) k pc L * (Asn.blk gl 65 (ar20 (leds S ch top k)) * (Asn.blk gc 65 (ar20 (cnts ch top k)) * R)) by ac_rfl)) 3 y hy
              rw [hye, HL3.out] at q1
              clear q0 q2 q3 q4 q5 q6 hrow
              by_cases hlt : j < top
              · have hjI : (j : Int) < (top : Int) := by omega
                have hj2 : (j : Int) < 20 := by omega
                have e1 := (S6.out.has (Has.r (Has.l (has_blk gc _ _)))).cell j
                rw [ar20_at _ (by omega)] at e1
                have e2 := (S6.out.has (Has.l (has_blk gl _ _))).cell j
                rw [ar20_at _ (by omega), ← HW.out.wg.cnt_end hlt] at e2
                generalize ((cnts ch top k j : Nat) : Int) = cc at e1 e2
                go_wp2_with fail
                go_quiet (fail)
                have S7 := Lib.hid (S6.out.drewN nq)
                clear S6 e1 e2 q1
                generalize wr.drewN nq = w12 at *
                go_wp2_with fail
                go_roundw
                case rel => exact ⟨j + 1, by omega, by go_num, S7⟩
                case measure => simp only [intOf]; omega
              · obtain rfl : j = top := by omega
                have S7 := Lib.hid (show Own w No wr (aWd g gs S V vl l (.slice QA 0 qc) [] k * (aPg (some ⟨pb, 0, none⟩) k pc L * (Asn.blk gl 65 (ar20 (leds S ch j k)) * Asn.blk gc 65 (ar20 (cnts ch j k))))) from S6.out.re (by rw [hR, mul_emp]; ac_rfl))
                have S8 := Lib.hid (S7.out.left)
                clear S6 S7
                have hle : l.length ≤ 5376 := HW.out.wg.rowlen
                obtain ⟨VA, vc, hvl⟩ := (S8.out.re (show _ = Asn.vec 44 3 vl l.length (cells3 l) * (Asn.blk g 30 #[.pointer (some ⟨gs, 0, none⟩), vl, .slice QA 0 qc, .int .i64 k] * (Asn.vec 80 4 (.slice QA 0 qc) ([] : List Du).length (poL []) * aSf gs S V)) by unfold aWd sPtr; ac_rfl)).vec.slice
                subst hvl
                have HLi := Lib.hid (List_any gs S V HW.out.sm HW.out.lo 3 w wr (Asn.blk g 30 #[.pointer (some ⟨gs, 0, none⟩), .slice VA l.length vc, .slice QA 0 qc, .int .i64 k] * (Asn.vec 44 3 (.slice VA l.length vc) l.length (cells3 l) * Asn.vec 80 4 (.slice QA 0 qc) ([] : List Du).length (poL []))) (S8.out.re (by unfold aWd sPtr; ac_rfl)))
                rw [HW.out.wg.list] at HLi
                dsimp only at HLi
                unfold pgs at HLi
                obtain ⟨c0, -⟩ := aWd_three (S8.out.re (show _ = aWd g gs S V (.slice VA l.length vc) l (.slice QA 0 qc) [] k * Asn.emp by rw [mul_emp]))
                clear S8
                go_wp2_with fail
                refine HLi.out.mono ?_
                rintro e w7 ⟨v, rfl, hX⟩
                have S4 := Lib.hid (hX.re (show _ = Asn.vec 44 3 v l.length (cells3 l) * (Asn.vec 44 3 (.slice VA l.length vc) l.length (cells3 l) * (Asn.blk g 30 #[.pointer (some ⟨gs, 0, none⟩), .slice VA l.length vc, .slice QA 0 qc, .int .i64 k] * (Asn.vec 80 4 (.slice QA 0 qc) ([] : List Du).length (poL []) * aSf gs S V))) by ac_rfl))
                clear hX HLi c0
                have HSa := Lib.hid (Wk.same10_any l v (.slice VA l.length vc) w7 (Row3.of_vec S4.out.vec) (Row3.of_vec S4.out.right.vec))
                obtain ⟨c0, c1, -, -⟩ := post_cellsB (S4.out.has (Has.r (Has.r (Has.l (has_blk g _ _)))))
                clear c0
                go_wp2_with fail
                refine HSa.out.mono ?_
                rintro e w8 ⟨rfl, hX⟩
                have S5 := Lib.hid (S4.out.below hX.bel)
                clear hX HSa S4 c1
                go_wp2_with fail
                go_returns
                exact ⟨rfl, S5.out.bel⟩
end Go.Proofs.Ythoaangmekkcmaa.Bk
