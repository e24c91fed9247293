/- The document's log: Add. -/
import Derived.Test.YtaacinhmgmmcaaaDoorDyR
import Derived.Test.YtaacinhmgmmcaaaDoorNtF
import Derived.Deep.DeepCutAuto
namespace Go.Proofs.YtaacinhmgmmcaaaDoor.Nt
open Go.ChangeShapes Go.WideShapes Go.ChangeAt Go.RowKit Go.PlainAid Aid Cr
set_option linter.unusedVariables false
set_option linter.unusedSimpArgs false
theorem infoRec : (Tryd.prog.info? 45).map (fun i => (i.zero, i.size, i.bytes)) = some (some (.agg zeroCells), 11, 152) := by kernel_rfl
theorem infoInt : (Tryd.prog.info? 3).map (fun i => (i.zero, i.size, i.bytes)) = some (some (.int .i64 0), 1, 8) := by kernel_rfl
section
variable {w0 w : World} {O0 : Nat → Prop} {G U V S C A B D : Asn}
theorem ua_in (h : Own w0 O0 w (G * ((U * (V * S)) * C))) : Own w0 O0 w (V * (U * (S * (G * C)))) := by
  have h1 : Own w0 O0 w ((U * (V * S)) * (G * C)) := own_front h
  have h2 : Own w0 O0 w (U * ((V * S) * (G * C))) := h1.assoc
  have h3 : Own w0 O0 w (U * (V * (S * (G * C)))) := h2.imp (Imp.r (fun _ _ => sep_assoc))
  exact own_front h3
theorem ua_mid (h : Own w0 O0 w (V * (U * (S * (G * C))))) : Own w0 O0 w (S * (U * (V * (G * C)))) := by
  have h1 : Own w0 O0 w (V * (S * (U * (G * C)))) := h.imp (Imp.r imp_front)
  have h2 : Own w0 O0 w (S * (V * (U * (G * C)))) := own_front h1
  exact h2.imp (Imp.r imp_front)
theorem ua_out (h : Own w0 O0 w (S * (U * (V * (G * C))))) : Own w0 O0 w ((U * (V * S)) * C) := by
  have h1 : Own w0 O0 w (S * (U * (G * (V * C)))) := h.imp (Imp.r (Imp.r imp_front))
  have h2 : Own w0 O0 w (S * (G * (U * (V * C)))) := h1.imp (Imp.r imp_front)
  have h3 : Own w0 O0 w (S * (U * (V * C))) := (own_front h2).right
  have h4 : Own w0 O0 w (U * (S * (V * C))) := own_front h3
  have h5 : Own w0 O0 w (U * (V * (S * C))) := h4.imp (Imp.r imp_front)
  exact (h5.imp (Imp.r (fun _ _ => sep_assoc'))).assoc'
end
section
variable (gu : Nat) (vl vs : Value) (M : List (Rec × Q3)) (safe held size : Nat)
set_option maxRecDepth 100000 in
set_option maxHeartbeats 16000000 in
theorem UAdd (hb : (flat (recsOf M)).length ≤ 262144) (hm : M.length ≤ 100000) (r : Rec) (A1 : Option Addr) (m1 : Nat) (A2 : Option Addr) (m2 : Nat) (A3 : Option Addr) (m3 : Nat) (hg : goodB r = true) (w0 w : World) (C : Asn)
    (hv : RecAt w0 (.agg (recCells r (.slice A1 r.pages.length m1) (.slice A2 r.opn.length m2) (.slice A3 r.dty.length m3))) r) (hS : Own w0 No w (aUl gu vl vs M safe held size * C)) :
    Calls Tryd.prog 13 #[uPtr gu, .agg (recCells r (.slice A1 r.pages.length m1) (.slice A2 r.opn.length m2) (.slice A3 r.dty.length m3))] w fun e w' => ∃ p : Value × Value, e = .returned (.int .i64 (((flat (recsOf M)).length + 1 : Nat) : Int)) ∧
      Own w0 No w' (aUl gu p.1 p.2 (M ++ [(r, (.slice A1 r.pages.length m1, .slice A2 r.opn.length m2, .slice A3 r.dty.length m3))]) safe held size * C) := by
  obtain ⟨AL, cl, rfl⟩ := hS.left.right.vec.slice
  obtain ⟨AS, cs, rfl⟩ := hS.left.right.vecR.slice
  have EB : Hid (∀ w', Below w0.heap.size w0 w' → _) := Lib.hid (fun w' (hb : Below w0.heap.size w0 w') => refBytes_any r (goods hg) _ w' (hv.keep hb))
  have hsm := small_bytes hg
  have X0 := Lib.hid (ua_in (hS.alloc (recCells r (.slice A1 r.pages.length m1) (.slice A2 r.opn.length m2) (.slice A3 r.dty.length m3)) 45))
  have hN : Hid (recs11 M ++ [.int .i64 r.kind, .int .i64 r.deal, .int .i64 r.prev, .int .i64 r.next, .slice A1 r.pages.length m1, .int .i64 r.und.kind, .int .i64 r.und.tree, .string (ofL r.und.key), .string (ofL r.und.val), .slice A2 r.opn.length m2, .slice A3 r.dty.length m3] = recs11 (M ++ [(r, (.slice A1 r.pages.length m1, .slice A2 r.opn.length m2, .slice A3 r.dty.length m3))])) := Lib.hid (by rw [recs11_snoc]; rfl)
  have hT := sts_snoc 0 (recsOf M) r
  have hR : recsOf (M ++ [(r, (.slice A1 r.pages.length m1, .slice A2 r.opn.length m2, .slice A3 r.dty.length m3))]) = recsOf M ++ [r] := by simp [recsOf]
  have hF : (flat (recsOf M ++ [r])).length = (flat (recsOf M)).length + (bytes r).length := by rw [flat_snoc, List.length_append]
  have hML : (M ++ [(r, ((.slice A1 r.pages.length m1 : Value), (.slice A2 r.opn.length m2 : Value), (.slice A3 r.dty.length m3 : Value)))]).length = M.length + 1 := by rw [List.length_append]; rfl
  rw [Nat.zero_add] at hT
  have hrl := rec_len M
  have HT := Lib.hid hT
  have HR := Lib.hid hR
  have HF := Lib.hid hF
  have HML := Lib.hid hML
  have HRL := Lib.hid hrl
  have hbz : (ofL (bytes r)).size = (bytes r).length := rfl
  clear hS hv hT hR hF hML hrl hg
  unfold uPtr recCells aUl ulRow at *
  generalize hnb : (flat (recsOf M)).length = nb at *
  have HNB := Lib.hid hnb
  have hw1 : IntKind.i64.wrap ((nb : Int) + 1) = (nb : Int) + 1 := by rw [IntKind.wrap_i64]; omega
  have hw2 : IntKind.i64.wrap ((nb : Int) + ((bytes r).length : Int)) = (nb : Int) + ((bytes r).length : Int) := by rw [IntKind.wrap_i64]; omega
  clear hnb
  go_enter Tryd.func13, Tryd.ntmps13
  go_upto_region 1 with fail
  obtain ⟨g3, hgz⟩ : ∃ g, g = w.heap.size := ⟨_, rfl⟩
  have hgz2 := Lib.hid hgz
  rw [← hgz] at X0 ⊢
  clear hgz
  generalize w.alloc _ = w1 at *
  go_cut [] (fun wx => ∃ (BL : Option Addr) (dl : Nat), Hid (Own w0 No wx (Asn.vec 45 11 (.slice BL (M.length + 1) dl) (M.length + 1) (recs11 M ++ [.int .i64 r.kind, .int .i64 r.deal, .int .i64 r.prev, .int .i64 r.next, .slice A1 r.pages.length m1, .int .i64 r.und.kind, .int .i64 r.und.tree, .string (ofL r.und.key), .string (ofL r.und.val), .slice A2 r.opn.length m2, .slice A3 r.dty.length m3]) * (Asn.blk gu 38 #[.slice BL (M.length + 1) dl, .slice AS M.length cs, .int .i64 ((nb : Int)), .int .i64 safe, .int .i64 held, .int .i64 size] * (Asn.vec 3 1 (.slice AS M.length cs) M.length (sts 0 (recsOf M)) * (Asn.blk g3 45 #[.int .i64 r.kind, .int .i64 r.deal, .int .i64 r.prev, .int .i64 r.next, .slice A1 r.pages.length m1, .int .i64 r.und.kind, .int .i64 r.und.tree, .string (ofL r.und.key), .string (ofL r.und.val), .slice A2 r.opn.length m2, .slice A3 r.dty.length m3] * C))))))
  case first =>
    refine wp_region_held_drew (S := fun W => True) (by kernel_rfl) trivial (fun hHeld => ?_)
    have X1 := Lib.hid X0.out.drew
    refine' wpAnyH_take (i := 0) (oi := ?ou10) (v := ?vu10) ?hu10 ?su10 ?fu10 ?zu10 ?qu10 ?yu10 ?au10 ?ru10
    case hu10 => (simp only [List.getElem?_toArray, List.getElem?_cons_succ, List.getElem?_cons_zero]; rfl)
    case su10 => kernel_rfl
    case fu10 => kernel_rfl
    case zu10 => kernel_rfl
    case qu10 => exact fun _ _ _ h => h
    case yu10 => (refine Or.inl ⟨rfl, ?_⟩; intro w hSw; (try dsimp only at hSw); go_simp; try with_reducible rfl)
    case au10 => assumption
    case ru10 =>
    simp only [Act.put, List.setIfInBounds_toArray, List.set_cons_zero, List.set_cons_succ]
    refine' wpAnyH_take (i := 1) (oi := ?ou11) (v := ?vu11) ?hu11 ?su11 ?fu11 ?zu11 ?qu11 ?yu11 ?au11 ?ru11
    case hu11 => (simp only [List.getElem?_toArray, List.getElem?_cons_succ, List.getElem?_cons_zero]; rfl)
    case su11 => kernel_rfl
    case fu11 => kernel_rfl
    case zu11 => kernel_rfl
    case qu11 => exact fun _ _ _ h => h
    case yu11 => (refine Or.inl ⟨rfl, ?_⟩; intro w hSw; (try dsimp only at hSw); go_simp; try with_reducible rfl)
    case au11 => assumption
    case ru11 =>
    simp only [Act.put, List.setIfInBounds_toArray, List.set_cons_zero, List.set_cons_succ]
    refine' wpAnyH_take (i := 2) (oi := ?ou12) (v := ?vu12) ?hu12 ?su12 ?fu12 ?zu12 ?qu12 ?yu12 ?au12 ?ru12
    case hu12 => (simp only [List.getElem?_toArray, List.getElem?_cons_succ, List.getElem?_cons_zero]; rfl)
    case su12 => kernel_rfl
    case fu12 => kernel_rfl
    case zu12 => kernel_rfl
    case qu12 => exact fun _ _ _ h => h
    case yu12 => (refine Or.inl ⟨rfl, ?_⟩; intro w hSw; (try dsimp only at hSw); go_simp; try with_reducible rfl)
    case au12 => assumption
    case ru12 =>
    simp only [Act.put, List.setIfInBounds_toArray, List.set_cons_zero, List.set_cons_succ]
    refine' wpAnyH_take (i := 3) (oi := ?ou13) (v := ?vu13) ?hu13 ?su13 ?fu13 ?zu13 ?qu13 ?yu13 ?au13 ?ru13
    case hu13 => (simp only [List.getElem?_toArray, List.getElem?_cons_succ, List.getElem?_cons_zero]; rfl)
    case su13 => kernel_rfl
    case fu13 => kernel_rfl
    case zu13 => kernel_rfl
    case qu13 => exact fun _ _ _ h => h
    case yu13 => (refine Or.inl ⟨rfl, ?_⟩; intro w hSw; (try dsimp only at hSw); go_simp; try with_reducible rfl)
    case au13 => assumption
    case ru13 =>
    simp only [Act.put, List.setIfInBounds_toArray, List.set_cons_zero, List.set_cons_succ]
    refine wpAnyH_ready (rs := [4, 5]) (by kernel_rfl) (by simp) ?_
    refine' AllReadyH.cons (o := ?oa4) ?ha4 ?ka4 ?ma4
    case ha4 => (simp only [List.getElem?_toArray, List.getElem?_cons_succ, List.getElem?_cons_zero]; rfl)
    case ka4 =>
      intro K hK
      obtain ⟨⟨l0, l1, l2, l3, l4, l5⟩, fz0, fz1, fz2, fz3, fz4⟩ := ul_cells (X1.out.has (Has.r (Has.l (has_blk _ _ _))))
      go_simp
      refine hK.out _ _ trivial (fun hHeld => ?_)
      clear hK K l0 l1 l2 l3 l4 l5 fz0 fz1 fz2 fz3 fz4
      (try simp only [Act.put, List.setIfInBounds_toArray, List.set_cons_zero, List.set_cons_succ])
      refine wpAnyH_ready (rs := [5]) (by kernel_rfl) (by simp) ?_
      refine' AllReadyH.cons (o := ?oa4_5) ?ha4_5 ?ka4_5 AllReadyH.nil
      case ha4_5 => (simp only [List.getElem?_toArray, List.getElem?_cons_succ, List.getElem?_cons_zero]; rfl)
      case ka4_5 =>
        intro K hK
        obtain ⟨⟨e0, e1, e2, e3, e4, e5, e6, e7, e8, e9, e10⟩, -⟩ := eleven (X1.out.has (Has.r (Has.r (Has.r (Has.l (has_blk _ _ _))))))
        go_simp
        refine hK.out _ _ trivial (fun hHeld => ?_)
        clear hK K e0 e1 e2 e3 e4 e5 e6 e7 e8 e9 e10
        (try simp only [Act.put, List.setIfInBounds_toArray, List.set_cons_zero, List.set_cons_succ])
        refine wpAnyH_ready (rs := [6]) (by kernel_rfl) (by simp) ?_
        refine' AllReadyH.cons (o := ?oa4_5_6) ?ha4_5_6 ?ka4_5_6 AllReadyH.nil
        case ha4_5_6 => (simp only [List.getElem?_toArray, List.getElem?_cons_succ, List.getElem?_cons_zero]; rfl)
        case ka4_5_6 =>
          intro K hK
          have XE := Lib.hid (own_front (X0.out.alloc #[.int .i64 r.kind, .int .i64 r.deal, .int .i64 r.prev, .int .i64 r.next, .slice A1 r.pages.length m1, .int .i64 r.und.kind, .int .i64 r.und.tree, .string (ofL r.und.key), .string (ofL r.und.val), .slice A2 r.opn.length m2, .slice A3 r.dty.length m3] 45)).drew
          go_simp
          refine hK.out _ _ trivial (fun hHeld => ?_)
          clear hK K
          (try simp only [Act.put, List.setIfInBounds_toArray, List.set_cons_zero, List.set_cons_succ])
          obtain ⟨ge, hge⟩ : ∃ g, g = w1.heap.size := ⟨_, rfl⟩
          rw [← hge] at XE ⊢
          clear hge
          generalize (w1.alloc _).drew = wx at *
          refine wpAnyH_ready (rs := [7]) (by kernel_rfl) (by simp) ?_
          refine' AllReadyH.cons (o := ?oa4_5_6_7) ?ha4_5_6_7 ?ka4_5_6_7 AllReadyH.nil
          case ha4_5_6_7 => (simp only [List.getElem?_toArray, List.getElem?_cons_succ, List.getElem?_cons_zero]; rfl)
          case ka4_5_6_7 =>
            intro K hK
            have cx := Lib.hid (Src.ofSlice (P := Tryd.prog) (size := 11) wx Tryd.underlying35 ⟨ge, 0, none⟩ 1 1 [.int .i64 r.kind, .int .i64 r.deal, .int .i64 r.prev, .int .i64 r.next, .slice A1 r.pages.length m1, .int .i64 r.und.kind, .int .i64 r.und.tree, .string (ofL r.und.key), .string (ofL r.und.val), .slice A2 r.opn.length m2, .slice A3 r.dty.length m3] rfl (blk_cells (XE.out.has (Has.r (Has.l (has_blk _ _ _))))) (by intro u hu; simp at hu; rcases hu with rfl | rfl | rfl | rfl | rfl | rfl | rfl | rfl | rfl | rfl | rfl <;> rfl))
            refine step_append_vec rfl (.tmp 9) (.tmp 11) 35 35 rfl 45 _ 11 152 Tryd.underlying35 infoRec rfl (by decide) (.slice AL M.length cl) M.length (recs11 M) rfl XE.out.vec (.slice (some ⟨ge, 0, none⟩) 1 1) rfl 1 [.int .i64 r.kind, .int .i64 r.deal, .int .i64 r.prev, .int .i64 r.next, .slice A1 r.pages.length m1, .int .i64 r.und.kind, .int .i64 r.und.tree, .string (ofL r.und.key), .string (ofL r.und.val), .slice A2 r.opn.length m2, .slice A3 r.dty.length m3] cx.out (by unfold maxLen; omega) (by omega) ?_
            intro v' w' hv hc hf
            have XF := Lib.hid (XE.out.app hv hc hf)
            obtain ⟨BL, dl, rfl⟩ := hv.slice
            clear hv hc hf cx XE
            refine hK.out _ _ trivial (fun hHeld => ?_)
            clear hK K
            (try simp only [Act.put, List.setIfInBounds_toArray, List.set_cons_zero, List.set_cons_succ])
            refine wpAnyH_ready (rs := [8]) (by kernel_rfl) (by simp) ?_
            refine' AllReadyH.cons (o := ?oa4_5_6_7_8) ?ha4_5_6_7_8 ?ka4_5_6_7_8 AllReadyH.nil
            case ha4_5_6_7_8 => (simp only [List.getElem?_toArray, List.getElem?_cons_succ, List.getElem?_cons_zero]; rfl)
            case ka4_5_6_7_8 =>
            intro K hK
            go_simp
            refine hK.out _ _ trivial (fun hHeld => ?_)
            clear hK K
            (try simp only [Act.put, List.setIfInBounds_toArray, List.set_cons_zero, List.set_cons_succ])
            refine wpAnyH_ready (rs := [9]) (by kernel_rfl) (by simp) ?_
            refine' AllReadyH.cons (o := ?oa4_5_6_7_9) ?ha4_5_6_7_9 ?ka4_5_6_7_9 AllReadyH.nil
            case ha4_5_6_7_9 => (simp only [List.getElem?_toArray, List.getElem?_cons_succ, List.getElem?_cons_zero]; rfl)
            case ka4_5_6_7_9 =>
            intro K hK
            go_simp
            refine hK.out _ _ trivial (fun hHeld => ?_)
            clear hK K
            (try simp only [Act.put, List.setIfInBounds_toArray, List.set_cons_zero, List.set_cons_succ])
            refine wpAnyH_ready (rs := [10]) (by kernel_rfl) (by simp) ?_
            refine' AllReadyH.cons (o := ?oa4_5_6_7_10) ?ha4_5_6_7_10 ?ka4_5_6_7_10 AllReadyH.nil
            case ha4_5_6_7_10 => (simp only [List.getElem?_toArray, List.getElem?_cons_succ, List.getElem?_cons_zero]; rfl)
            case ka4_5_6_7_10 =>
            intro K hK
            obtain ⟨⟨l0, l1, l2, l3, l4, l5⟩, fz0, fz1, fz2, fz3, fz4⟩ := ul_cells (XF.out.has (Has.r (Has.r (Has.l (has_blk _ _ _)))))
            go_simp
            refine hK.out _ _ trivial (fun hHeld => ?_)
            clear hK K l0 l1 l2 l3 l4 l5 fz0 fz1 fz2 fz3 fz4
            (try simp only [Act.put, List.setIfInBounds_toArray, List.set_cons_zero, List.set_cons_succ])
            have XG := (own_front (XF.out.set (Sets.r (Sets.r (Sets.l (sets_blk gu 38 _ 0 (.slice BL (M.length + 1) dl))))))).right
            refine wpAnyH_done (by kernel_rfl) ?_ _
            generalize World.setCell _ _ _ = wz at *
            go_wp2_with fail
            go_meet
            case rel => exact ⟨BL, dl, Lib.hid XG⟩
    case ma4 =>
    refine' AllReadyH.cons (o := ?oa5) ?ha5 ?ka5 AllReadyH.nil
    case ha5 => (simp only [List.getElem?_toArray, List.getElem?_cons_succ, List.getElem?_cons_zero]; rfl)
    case ka5 =>
      intro K hK
      obtain ⟨⟨e0, e1, e2, e3, e4, e5, e6, e7, e8, e9, e10⟩, -⟩ := eleven (X1.out.has (Has.r (Has.r (Has.r (Has.l (has_blk _ _ _))))))
      go_simp
      refine hK.out _ _ trivial (fun hHeld => ?_)
      clear hK K e0 e1 e2 e3 e4 e5 e6 e7 e8 e9 e10
      (try simp only [Act.put, List.setIfInBounds_toArray, List.set_cons_zero, List.set_cons_succ])
      refine wpAnyH_ready (rs := [4, 6]) (by kernel_rfl) (by simp) ?_
      refine' AllReadyH.cons (o := ?oa5_4) ?ha5_4 ?ka5_4 ?ma5_4
      case ha5_4 => (simp only [List.getElem?_toArray, List.getElem?_cons_succ, List.getElem?_cons_zero]; rfl)
      case ka5_4 =>
        intro K hK
        obtain ⟨⟨l0, l1, l2, l3, l4, l5⟩, fz0, fz1, fz2, fz3, fz4⟩ := ul_cells (X1.out.has (Has.r (Has.l (has_blk _ _ _))))
        go_simp
        refine hK.out _ _ trivial (fun hHeld => ?_)
        clear hK K l0 l1 l2 l3 l4 l5 fz0 fz1 fz2 fz3 fz4
        (try simp only [Act.put, List.setIfInBounds_toArray, List.set_cons_zero, List.set_cons_succ])
        refine wpAnyH_ready (rs := [6]) (by kernel_rfl) (by simp) ?_
        refine' AllReadyH.cons (o := ?oa5_4_6) ?ha5_4_6 ?ka5_4_6 AllReadyH.nil
        case ha5_4_6 => (simp only [List.getElem?_toArray, List.getElem?_cons_succ, List.getElem?_cons_zero]; rfl)
        case ka5_4_6 =>
          intro K hK
          have XE := Lib.hid (own_front (X0.out.alloc #[.int .i64 r.kind, .int .i64 r.deal, .int .i64 r.prev, .int .i64 r.next, .slice A1 r.pages.length m1, .int .i64 r.und.kind, .int .i64 r.und.tree, .string (ofL r.und.key), .string (ofL r.und.val), .slice A2 r.opn.length m2, .slice A3 r.dty.length m3] 45)).drew
          go_simp
          refine hK.out _ _ trivial (fun hHeld => ?_)
          clear hK K
          (try simp only [Act.put, List.setIfInBounds_toArray, List.set_cons_zero, List.set_cons_succ])
          obtain ⟨ge, hge⟩ : ∃ g, g = w1.heap.size := ⟨_, rfl⟩
          rw [← hge] at XE ⊢
          clear hge
          generalize (w1.alloc _).drew = wx at *
          refine wpAnyH_ready (rs := [7]) (by kernel_rfl) (by simp) ?_
          refine' AllReadyH.cons (o := ?oa5_4_6_7) ?ha5_4_6_7 ?ka5_4_6_7 AllReadyH.nil
          case ha5_4_6_7 => (simp only [List.getElem?_toArray, List.getElem?_cons_succ, List.getElem?_cons_zero]; rfl)
          case ka5_4_6_7 =>
            intro K hK
            have cx := Lib.hid (Src.ofSlice (P := Tryd.prog) (size := 11) wx Tryd.underlying35 ⟨ge, 0, none⟩ 1 1 [.int .i64 r.kind, .int .i64 r.deal, .int .i64 r.prev, .int .i64 r.next, .slice A1 r.pages.length m1, .int .i64 r.und.kind, .int .i64 r.und.tree, .string (ofL r.und.key), .string (ofL r.und.val), .slice A2 r.opn.length m2, .slice A3 r.dty.length m3] rfl (blk_cells (XE.out.has (Has.r (Has.l (has_blk _ _ _))))) (by intro u hu; simp at hu; rcases hu with rfl | rfl | rfl | rfl | rfl | rfl | rfl | rfl | rfl | rfl | rfl <;> rfl))
            refine step_append_vec rfl (.tmp 9) (.tmp 11) 35 35 rfl 45 _ 11 152 Tryd.underlying35 infoRec rfl (by decide) (.slice AL M.length cl) M.length (recs11 M) rfl XE.out.vec (.slice (some ⟨ge, 0, none⟩) 1 1) rfl 1 [.int .i64 r.kind, .int .i64 r.deal, .int .i64 r.prev, .int .i64 r.next, .slice A1 r.pages.length m1, .int .i64 r.und.kind, .int .i64 r.und.tree, .string (ofL r.und.key), .string (ofL r.und.val), .slice A2 r.opn.length m2, .slice A3 r.dty.length m3] cx.out (by unfold maxLen; omega) (by omega) ?_
            intro v' w' hv hc hf
            have XF := Lib.hid (XE.out.app hv hc hf)
            obtain ⟨BL, dl, rfl⟩ := hv.slice
            clear hv hc hf cx XE
            refine hK.out _ _ trivial (fun hHeld => ?_)
            clear hK K
            (try simp only [Act.put, List.setIfInBounds_toArray, List.set_cons_zero, List.set_cons_succ])
            refine wpAnyH_ready (rs := [8]) (by kernel_rfl) (by simp) ?_
            refine' AllReadyH.cons (o := ?oa5_4_6_7_8) ?ha5_4_6_7_8 ?ka5_4_6_7_8 AllReadyH.nil
            case ha5_4_6_7_8 => (simp only [List.getElem?_toArray, List.getElem?_cons_succ, List.getElem?_cons_zero]; rfl)
            case ka5_4_6_7_8 =>
            intro K hK
            go_simp
            refine hK.out _ _ trivial (fun hHeld => ?_)
            clear hK K
            (try simp only [Act.put, List.setIfInBounds_toArray, List.set_cons_zero, List.set_cons_succ])
            refine wpAnyH_ready (rs := [9]) (by kernel_rfl) (by simp) ?_
            refine' AllReadyH.cons (o := ?oa5_4_6_7_9) ?ha5_4_6_7_9 ?ka5_4_6_7_9 AllReadyH.nil
            case ha5_4_6_7_9 => (simp only [List.getElem?_toArray, List.getElem?_cons_succ, List.getElem?_cons_zero]; rfl)
            case ka5_4_6_7_9 =>
            intro K hK
            go_simp
            refine hK.out _ _ trivial (fun hHeld => ?_)
            clear hK K
            (try simp only [Act.put, List.setIfInBounds_toArray, List.set_cons_zero, List.set_cons_succ])
            refine wpAnyH_ready (rs := [10]) (by kernel_rfl) (by simp) ?_
            refine' AllReadyH.cons (o := ?oa5_4_6_7_10) ?ha5_4_6_7_10 ?ka5_4_6_7_10 AllReadyH.nil
            case ha5_4_6_7_10 => (simp only [List.getElem?_toArray, List.getElem?_cons_succ, List.getElem?_cons_zero]; rfl)
            case ka5_4_6_7_10 =>
            intro K hK
            obtain ⟨⟨l0, l1, l2, l3, l4, l5⟩, fz0, fz1, fz2, fz3, fz4⟩ := ul_cells (XF.out.has (Has.r (Has.r (Has.l (has_blk _ _ _)))))
            go_simp
            refine hK.out _ _ trivial (fun hHeld => ?_)
            clear hK K l0 l1 l2 l3 l4 l5 fz0 fz1 fz2 fz3 fz4
            (try simp only [Act.put, List.setIfInBounds_toArray, List.set_cons_zero, List.set_cons_succ])
            have XG := (own_front (XF.out.set (Sets.r (Sets.r (Sets.l (sets_blk gu 38 _ 0 (.slice BL (M.length + 1) dl))))))).right
            refine wpAnyH_done (by kernel_rfl) ?_ _
            generalize World.setCell _ _ _ = wz at *
            go_wp2_with fail
            go_meet
            case rel => exact ⟨BL, dl, Lib.hid XG⟩
      case ma5_4 =>
      refine' AllReadyH.cons (o := ?oa5_6) ?ha5_6 ?ka5_6 AllReadyH.nil
      case ha5_6 => (simp only [List.getElem?_toArray, List.getElem?_cons_succ, List.getElem?_cons_zero]; rfl)
      case ka5_6 =>
        intro K hK
        have XE := Lib.hid (own_front (X0.out.alloc #[.int .i64 r.kind, .int .i64 r.deal, .int .i64 r.prev, .int .i64 r.next, .slice A1 r.pages.length m1, .int .i64 r.und.kind, .int .i64 r.und.tree, .string (ofL r.und.key), .string (ofL r.und.val), .slice A2 r.opn.length m2, .slice A3 r.dty.length m3] 45)).drew
        go_simp
        refine hK.out _ _ trivial (fun hHeld => ?_)
        clear hK K
        (try simp only [Act.put, List.setIfInBounds_toArray, List.set_cons_zero, List.set_cons_succ])
        obtain ⟨ge, hge⟩ : ∃ g, g = w1.heap.size := ⟨_, rfl⟩
        rw [← hge] at XE ⊢
        clear hge
        generalize (w1.alloc _).drew = wx at *
        refine wpAnyH_ready (rs := [4]) (by kernel_rfl) (by simp) ?_
        refine' AllReadyH.cons (o := ?oa5_6_4) ?ha5_6_4 ?ka5_6_4 AllReadyH.nil
        case ha5_6_4 => (simp only [List.getElem?_toArray, List.getElem?_cons_succ, List.getElem?_cons_zero]; rfl)
        case ka5_6_4 =>
          intro K hK
          obtain ⟨⟨l0, l1, l2, l3, l4, l5⟩, fz0, fz1, fz2, fz3, fz4⟩ := ul_cells (XE.out.has (Has.r (Has.r (Has.l (has_blk _ _ _)))))
          go_simp
          refine hK.out _ _ trivial (fun hHeld => ?_)
          clear hK K l0 l1 l2 l3 l4 l5 fz0 fz1 fz2 fz3 fz4
          (try simp only [Act.put, List.setIfInBounds_toArray, List.set_cons_zero, List.set_cons_succ])
          refine wpAnyH_ready (rs := [7]) (by kernel_rfl) (by simp) ?_
          refine' AllReadyH.cons (o := ?oa5_6_4_7) ?ha5_6_4_7 ?ka5_6_4_7 AllReadyH.nil
          case ha5_6_4_7 => (simp only [List.getElem?_toArray, List.getElem?_cons_succ, List.getElem?_cons_zero]; rfl)
          case ka5_6_4_7 =>
            intro K hK
            have cx := Lib.hid (Src.ofSlice (P := Tryd.prog) (size := 11) wx Tryd.underlying35 ⟨ge, 0, none⟩ 1 1 [.int .i64 r.kind, .int .i64 r.deal, .int .i64 r.prev, .int .i64 r.next, .slice A1 r.pages.length m1, .int .i64 r.und.kind, .int .i64 r.und.tree, .string (ofL r.und.key), .string (ofL r.und.val), .slice A2 r.opn.length m2, .slice A3 r.dty.length m3] rfl (blk_cells (XE.out.has (Has.r (Has.l (has_blk _ _ _))))) (by intro u hu; simp at hu; rcases hu with rfl | rfl | rfl | rfl | rfl | rfl | rfl | rfl | rfl | rfl | rfl <;> rfl))
            refine step_append_vec rfl (.tmp 9) (.tmp 11) 35 35 rfl 45 _ 11 152 Tryd.underlying35 infoRec rfl (by decide) (.slice AL M.length cl) M.length (recs11 M) rfl XE.out.vec (.slice (some ⟨ge, 0, none⟩) 1 1) rfl 1 [.int .i64 r.kind, .int .i64 r.deal, .int .i64 r.prev, .int .i64 r.next, .slice A1 r.pages.length m1, .int .i64 r.und.kind, .int .i64 r.und.tree, .string (ofL r.und.key), .string (ofL r.und.val), .slice A2 r.opn.length m2, .slice A3 r.dty.length m3] cx.out (by unfold maxLen; omega) (by omega) ?_
            intro v' w' hv hc hf
            have XF := Lib.hid (XE.out.app hv hc hf)
            obtain ⟨BL, dl, rfl⟩ := hv.slice
            clear hv hc hf cx XE
            refine hK.out _ _ trivial (fun hHeld => ?_)
            clear hK K
            (try simp only [Act.put, List.setIfInBounds_toArray, List.set_cons_zero, List.set_cons_succ])
            refine wpAnyH_ready (rs := [8]) (by kernel_rfl) (by simp) ?_
            refine' AllReadyH.cons (o := ?oa5_6_4_7_8) ?ha5_6_4_7_8 ?ka5_6_4_7_8 AllReadyH.nil
            case ha5_6_4_7_8 => (simp only [List.getElem?_toArray, List.getElem?_cons_succ, List.getElem?_cons_zero]; rfl)
            case ka5_6_4_7_8 =>
            intro K hK
            go_simp
            refine hK.out _ _ trivial (fun hHeld => ?_)
            clear hK K
            (try simp only [Act.put, List.setIfInBounds_toArray, List.set_cons_zero, List.set_cons_succ])
            refine wpAnyH_ready (rs := [9]) (by kernel_rfl) (by simp) ?_
            refine' AllReadyH.cons (o := ?oa5_6_4_7_9) ?ha5_6_4_7_9 ?ka5_6_4_7_9 AllReadyH.nil
            case ha5_6_4_7_9 => (simp only [List.getElem?_toArray, List.getElem?_cons_succ, List.getElem?_cons_zero]; rfl)
            case ka5_6_4_7_9 =>
            intro K hK
            go_simp
            refine hK.out _ _ trivial (fun hHeld => ?_)
            clear hK K
            (try simp only [Act.put, List.setIfInBounds_toArray, List.set_cons_zero, List.set_cons_succ])
            refine wpAnyH_ready (rs := [10]) (by kernel_rfl) (by simp) ?_
            refine' AllReadyH.cons (o := ?oa5_6_4_7_10) ?ha5_6_4_7_10 ?ka5_6_4_7_10 AllReadyH.nil
            case ha5_6_4_7_10 => (simp only [List.getElem?_toArray, List.getElem?_cons_succ, List.getElem?_cons_zero]; rfl)
            case ka5_6_4_7_10 =>
            intro K hK
            obtain ⟨⟨l0, l1, l2, l3, l4, l5⟩, fz0, fz1, fz2, fz3, fz4⟩ := ul_cells (XF.out.has (Has.r (Has.r (Has.l (has_blk _ _ _)))))
            go_simp
            refine hK.out _ _ trivial (fun hHeld => ?_)
            clear hK K l0 l1 l2 l3 l4 l5 fz0 fz1 fz2 fz3 fz4
            (try simp only [Act.put, List.setIfInBounds_toArray, List.set_cons_zero, List.set_cons_succ])
            have XG := (own_front (XF.out.set (Sets.r (Sets.r (Sets.l (sets_blk gu 38 _ 0 (.slice BL (M.length + 1) dl))))))).right
            refine wpAnyH_done (by kernel_rfl) ?_ _
            generalize World.setCell _ _ _ = wz at *
            go_wp2_with fail
            go_meet
            case rel => exact ⟨BL, dl, Lib.hid XG⟩
  case rest =>
  obtain ⟨BL, dl, hX⟩ := hcut
  have Y0 := Lib.hid (ua_mid hX.out)
  clear hX X0
  go_upto_region 2 with fail
  generalize wc = w2 at *
  go_cut [] (fun wx => ∃ (BS : Option Addr) (ds : Nat), Hid (Own w0 No wx (Asn.vec 3 1 (.slice BS (M.length + 1) ds) (M.length + 1) (sts 0 (recsOf M) ++ [.int .i64 ((nb : Int) + 1)]) * (Asn.blk gu 38 #[.slice BL (M.length + 1) dl, .slice BS (M.length + 1) ds, .int .i64 ((nb : Int)), .int .i64 safe, .int .i64 held, .int .i64 size] * (Asn.vec 45 11 (.slice BL (M.length + 1) dl) (M.length + 1) (recs11 M ++ [.int .i64 r.kind, .int .i64 r.deal, .int .i64 r.prev, .int .i64 r.next, .slice A1 r.pages.length m1, .int .i64 r.und.kind, .int .i64 r.und.tree, .string (ofL r.und.key), .string (ofL r.und.val), .slice A2 r.opn.length m2, .slice A3 r.dty.length m3]) * (Asn.blk g3 45 #[.int .i64 r.kind, .int .i64 r.deal, .int .i64 r.prev, .int .i64 r.next, .slice A1 r.pages.length m1, .int .i64 r.und.kind, .int .i64 r.und.tree, .string (ofL r.und.key), .string (ofL r.und.val), .slice A2 r.opn.length m2, .slice A3 r.dty.length m3] * C))))))
  case first =>
    refine wp_region_held_drew (S := fun W => True) (by kernel_rfl) trivial (fun hHeld => ?_)
    have Y1 := Lib.hid Y0.out.drew
    refine' wpAnyH_take (i := 0) (oi := ?ou20) (v := ?vu20) ?hu20 ?su20 ?fu20 ?zu20 ?qu20 ?yu20 ?au20 ?ru20
    case hu20 => (simp only [List.getElem?_toArray, List.getElem?_cons_succ, List.getElem?_cons_zero]; rfl)
    case su20 => kernel_rfl
    case fu20 => kernel_rfl
    case zu20 => kernel_rfl
    case qu20 => exact fun _ _ _ h => h
    case yu20 => (refine Or.inl ⟨rfl, ?_⟩; intro w hSw; (try dsimp only at hSw); go_simp; try with_reducible rfl)
    case au20 => assumption
    case ru20 =>
    simp only [Act.put, List.setIfInBounds_toArray, List.set_cons_zero, List.set_cons_succ]
    refine' wpAnyH_take (i := 1) (oi := ?ou21) (v := ?vu21) ?hu21 ?su21 ?fu21 ?zu21 ?qu21 ?yu21 ?au21 ?ru21
    case hu21 => (simp only [List.getElem?_toArray, List.getElem?_cons_succ, List.getElem?_cons_zero]; rfl)
    case su21 => kernel_rfl
    case fu21 => kernel_rfl
    case zu21 => kernel_rfl
    case qu21 => exact fun _ _ _ h => h
    case yu21 => (refine Or.inl ⟨rfl, ?_⟩; intro w hSw; (try dsimp only at hSw); go_simp; try with_reducible rfl)
    case au21 => assumption
    case ru21 =>
    simp only [Act.put, List.setIfInBounds_toArray, List.set_cons_zero, List.set_cons_succ]
    refine' wpAnyH_take (i := 2) (oi := ?ou22) (v := ?vu22) ?hu22 ?su22 ?fu22 ?zu22 ?qu22 ?yu22 ?au22 ?ru22
    case hu22 => (simp only [List.getElem?_toArray, List.getElem?_cons_succ, List.getElem?_cons_zero]; rfl)
    case su22 => kernel_rfl
    case fu22 => kernel_rfl
    case zu22 => kernel_rfl
    case qu22 => exact fun _ _ _ h => h
    case yu22 => (refine Or.inl ⟨rfl, ?_⟩; intro w hSw; (try dsimp only at hSw); go_simp; try with_reducible rfl)
    case au22 => assumption
    case ru22 =>
    simp only [Act.put, List.setIfInBounds_toArray, List.set_cons_zero, List.set_cons_succ]
    refine' wpAnyH_take (i := 3) (oi := ?ou23) (v := ?vu23) ?hu23 ?su23 ?fu23 ?zu23 ?qu23 ?yu23 ?au23 ?ru23
    case hu23 => (simp only [List.getElem?_toArray, List.getElem?_cons_succ, List.getElem?_cons_zero]; rfl)
    case su23 => kernel_rfl
    case fu23 => kernel_rfl
    case zu23 => kernel_rfl
    case qu23 => exact fun _ _ _ h => h
    case yu23 => (refine Or.inl ⟨rfl, ?_⟩; intro w hSw; (try dsimp only at hSw); go_simp; try with_reducible rfl)
    case au23 => assumption
    case ru23 =>
    simp only [Act.put, List.setIfInBounds_toArray, List.set_cons_zero, List.set_cons_succ]
    refine' wpAnyH_take (i := 5) (oi := ?ou25) (v := ?vu25) ?hu25 ?su25 ?fu25 ?zu25 ?qu25 ?yu25 ?au25 ?ru25
    case hu25 => (simp only [List.getElem?_toArray, List.getElem?_cons_succ, List.getElem?_cons_zero]; rfl)
    case su25 => kernel_rfl
    case fu25 => kernel_rfl
    case zu25 => kernel_rfl
    case qu25 => exact fun _ _ _ h => h
    case yu25 => (refine Or.inl ⟨rfl, ?_⟩; intro w hSw; (try dsimp only at hSw); go_simp; try with_reducible rfl)
    case au25 => assumption
    case ru25 =>
    simp only [Act.put, List.setIfInBounds_toArray, List.set_cons_zero, List.set_cons_succ]
    refine' wpAnyH_take (i := 6) (oi := ?ou26) (v := ?vu26) ?hu26 ?su26 ?fu26 ?zu26 ?qu26 ?yu26 ?au26 ?ru26
    case hu26 => (simp only [List.getElem?_toArray, List.getElem?_cons_succ, List.getElem?_cons_zero]; rfl)
    case su26 => kernel_rfl
    case fu26 => kernel_rfl
    case zu26 => kernel_rfl
    case qu26 => exact fun _ _ _ h => h
    case yu26 => (refine Or.inl ⟨rfl, ?_⟩; intro w hSw; (try dsimp only at hSw); go_simp; try with_reducible rfl)
    case au26 => assumption
    case ru26 =>
    simp only [Act.put, List.setIfInBounds_toArray, List.set_cons_zero, List.set_cons_succ]
    refine' wpAnyH_take (i := 7) (oi := ?ou27) (v := ?vu27) ?hu27 ?su27 ?fu27 ?zu27 ?qu27 ?yu27 ?au27 ?ru27
    case hu27 => (simp only [List.getElem?_toArray, List.getElem?_cons_succ, List.getElem?_cons_zero]; rfl)
    case su27 => kernel_rfl
    case fu27 => kernel_rfl
    case zu27 => kernel_rfl
    case qu27 => exact fun _ _ _ h => h
    case yu27 => (refine Or.inl ⟨rfl, ?_⟩; intro w hSw; (try dsimp only at hSw); go_simp; try with_reducible rfl)
    case au27 => assumption
    case ru27 =>
    simp only [Act.put, List.setIfInBounds_toArray, List.set_cons_zero, List.set_cons_succ]
    refine wpAnyH_ready (rs := [4, 8]) (by kernel_rfl) (by simp) ?_
    refine' AllReadyH.cons (o := ?ob4) ?hb4 ?kb4 ?mb4
    case hb4 => (simp only [List.getElem?_toArray, List.getElem?_cons_succ, List.getElem?_cons_zero]; rfl)
    case kb4 =>
      intro K hK
      obtain ⟨⟨l0, l1, l2, l3, l4, l5⟩, fz0, fz1, fz2, fz3, fz4⟩ := ul_cells (Y1.out.has (Has.r (Has.l (has_blk _ _ _))))
      go_simp
      refine hK.out _ _ trivial (fun hHeld => ?_)
      clear hK K l0 l1 l2 l3 l4 l5 fz0 fz1 fz2 fz3 fz4
      (try simp only [Act.put, List.setIfInBounds_toArray, List.set_cons_zero, List.set_cons_succ])
      refine wpAnyH_ready (rs := [8]) (by kernel_rfl) (by simp) ?_
      refine' AllReadyH.cons (o := ?ob4_8) ?hb4_8 ?kb4_8 AllReadyH.nil
      case hb4_8 => (simp only [List.getElem?_toArray, List.getElem?_cons_succ, List.getElem?_cons_zero]; rfl)
      case kb4_8 =>
        intro K hK
        obtain ⟨⟨l0, l1, l2, l3, l4, l5⟩, fz0, fz1, fz2, fz3, fz4⟩ := ul_cells (Y1.out.has (Has.r (Has.l (has_blk _ _ _))))
        go_simp
        refine hK.out _ _ trivial (fun hHeld => ?_)
        clear hK K l0 l1 l2 l3 l4 l5 fz0 fz1 fz2 fz3 fz4
        (try simp only [Act.put, List.setIfInBounds_toArray, List.set_cons_zero, List.set_cons_succ])
        refine' wpAnyH_take (i := 9) (oi := ?ob4_8t9) (v := ?vb4_8t9) ?hb4_8t9 ?sb4_8t9 ?fb4_8t9 ?zb4_8t9 ?qb4_8t9 ?yb4_8t9 ?ab4_8t9 ?rb4_8t9
        case hb4_8t9 => (simp only [List.getElem?_toArray, List.getElem?_cons_succ, List.getElem?_cons_zero]; rfl)
        case sb4_8t9 => kernel_rfl
        case fb4_8t9 => kernel_rfl
        case zb4_8t9 => kernel_rfl
        case qb4_8t9 => exact fun _ _ _ h => h
        case yb4_8t9 => (refine Or.inl ⟨rfl, ?_⟩; intro w hSw; (try dsimp only at hSw); go_simp; try with_reducible rfl)
        case ab4_8t9 => assumption
        case rb4_8t9 =>
        simp only [Act.put, List.setIfInBounds_toArray, List.set_cons_zero, List.set_cons_succ]
        refine wpAnyH_ready (rs := [10]) (by kernel_rfl) (by simp) ?_
        refine' AllReadyH.cons (o := ?ob4_8_10) ?hb4_8_10 ?kb4_8_10 AllReadyH.nil
        case hb4_8_10 => (simp only [List.getElem?_toArray, List.getElem?_cons_succ, List.getElem?_cons_zero]; rfl)
        case kb4_8_10 =>
          intro K hK
          have YE := Lib.hid (own_front (Y0.out.alloc #[.int .i64 ((nb : Int) + 1)] 3)).drew
          go_simp
          refine hK.out _ _ trivial (fun hHeld => ?_)
          clear hK K
          (try simp only [Act.put, List.setIfInBounds_toArray, List.set_cons_zero, List.set_cons_succ])
          obtain ⟨ge, hge⟩ : ∃ g, g = w2.heap.size := ⟨_, rfl⟩
          rw [← hge] at YE ⊢
          clear hge
          generalize (w2.alloc _).drew = wx at *
          refine wpAnyH_ready (rs := [11]) (by kernel_rfl) (by simp) ?_
          refine' AllReadyH.cons (o := ?ob4_8_10_11) ?hb4_8_10_11 ?kb4_8_10_11 AllReadyH.nil
          case hb4_8_10_11 => (simp only [List.getElem?_toArray, List.getElem?_cons_succ, List.getElem?_cons_zero]; rfl)
          case kb4_8_10_11 =>
            intro K hK
            have cx := Lib.hid (Src.ofSlice (P := Tryd.prog) (size := 1) wx Tryd.underlying36 ⟨ge, 0, none⟩ 1 1 [.int .i64 ((nb : Int) + 1)] rfl (append1 ((YE.out.has (Has.r (Has.l (has_blk _ _ _)))).cell 0)) (by intro u hu; simp at hu; subst hu; rfl))
            refine step_append_vec rfl (.tmp 19) (.tmp 25) 36 36 rfl 3 _ 1 8 Tryd.underlying36 infoInt rfl (by decide) (.slice AS M.length cs) M.length (sts 0 (recsOf M)) rfl YE.out.vec (.slice (some ⟨ge, 0, none⟩) 1 1) rfl 1 [.int .i64 ((nb : Int) + 1)] cx.out (by unfold maxLen; omega) (by omega) ?_
            intro v' w' hv hc hf
            have YF := Lib.hid (YE.out.app hv hc hf)
            obtain ⟨BS, ds, rfl⟩ := hv.slice
            clear hv hc hf cx YE
            refine hK.out _ _ trivial (fun hHeld => ?_)
            clear hK K
            (try simp only [Act.put, List.setIfInBounds_toArray, List.set_cons_zero, List.set_cons_succ])
            refine wpAnyH_ready (rs := [12]) (by kernel_rfl) (by simp) ?_
            refine' AllReadyH.cons (o := ?ob4_8_10_11_12) ?hb4_8_10_11_12 ?kb4_8_10_11_12 AllReadyH.nil
            case hb4_8_10_11_12 => (simp only [List.getElem?_toArray, List.getElem?_cons_succ, List.getElem?_cons_zero]; rfl)
            case kb4_8_10_11_12 =>
            intro K hK
            go_simp
            refine hK.out _ _ trivial (fun hHeld => ?_)
            clear hK K
            (try simp only [Act.put, List.setIfInBounds_toArray, List.set_cons_zero, List.set_cons_succ])
            refine wpAnyH_ready (rs := [13]) (by kernel_rfl) (by simp) ?_
            refine' AllReadyH.cons (o := ?ob4_8_10_11_13) ?hb4_8_10_11_13 ?kb4_8_10_11_13 AllReadyH.nil
            case hb4_8_10_11_13 => (simp only [List.getElem?_toArray, List.getElem?_cons_succ, List.getElem?_cons_zero]; rfl)
            case kb4_8_10_11_13 =>
            intro K hK
            go_simp
            refine hK.out _ _ trivial (fun hHeld => ?_)
            clear hK K
            (try simp only [Act.put, List.setIfInBounds_toArray, List.set_cons_zero, List.set_cons_succ])
            refine wpAnyH_ready (rs := [14]) (by kernel_rfl) (by simp) ?_
            refine' AllReadyH.cons (o := ?ob4_8_10_11_14) ?hb4_8_10_11_14 ?kb4_8_10_11_14 AllReadyH.nil
            case hb4_8_10_11_14 => (simp only [List.getElem?_toArray, List.getElem?_cons_succ, List.getElem?_cons_zero]; rfl)
            case kb4_8_10_11_14 =>
            intro K hK
            obtain ⟨⟨l0, l1, l2, l3, l4, l5⟩, fz0, fz1, fz2, fz3, fz4⟩ := ul_cells (YF.out.has (Has.r (Has.r (Has.l (has_blk _ _ _)))))
            go_simp
            refine hK.out _ _ trivial (fun hHeld => ?_)
            clear hK K l0 l1 l2 l3 l4 l5 fz0 fz1 fz2 fz3 fz4
            (try simp only [Act.put, List.setIfInBounds_toArray, List.set_cons_zero, List.set_cons_succ])
            have XG := (own_front (YF.out.set (Sets.r (Sets.r (Sets.l (sets_blk gu 38 _ 1 (.slice BS (M.length + 1) ds))))))).right
            refine wpAnyH_done (by kernel_rfl) ?_ _
            generalize World.setCell _ _ _ = wz at *
            go_wp2_with fail
            go_meet
            case rel => exact ⟨BS, ds, Lib.hid XG⟩
    case mb4 =>
    refine' AllReadyH.cons (o := ?ob8) ?hb8 ?kb8 AllReadyH.nil
    case hb8 => (simp only [List.getElem?_toArray, List.getElem?_cons_succ, List.getElem?_cons_zero]; rfl)
    case kb8 =>
      intro K hK
      obtain ⟨⟨l0, l1, l2, l3, l4, l5⟩, fz0, fz1, fz2, fz3, fz4⟩ := ul_cells (Y1.out.has (Has.r (Has.l (has_blk _ _ _))))
      go_simp
      refine hK.out _ _ trivial (fun hHeld => ?_)
      clear hK K l0 l1 l2 l3 l4 l5 fz0 fz1 fz2 fz3 fz4
      (try simp only [Act.put, List.setIfInBounds_toArray, List.set_cons_zero, List.set_cons_succ])
      refine' wpAnyH_take (i := 9) (oi := ?ob8t9) (v := ?vb8t9) ?hb8t9 ?sb8t9 ?fb8t9 ?zb8t9 ?qb8t9 ?yb8t9 ?ab8t9 ?rb8t9
      case hb8t9 => (simp only [List.getElem?_toArray, List.getElem?_cons_succ, List.getElem?_cons_zero]; rfl)
      case sb8t9 => kernel_rfl
      case fb8t9 => kernel_rfl
      case zb8t9 => kernel_rfl
      case qb8t9 => exact fun _ _ _ h => h
      case yb8t9 => (refine Or.inl ⟨rfl, ?_⟩; intro w hSw; (try dsimp only at hSw); go_simp; try with_reducible rfl)
      case ab8t9 => assumption
      case rb8t9 =>
      simp only [Act.put, List.setIfInBounds_toArray, List.set_cons_zero, List.set_cons_succ]
      refine wpAnyH_ready (rs := [4, 10]) (by kernel_rfl) (by simp) ?_
      refine' AllReadyH.cons (o := ?ob8_4) ?hb8_4 ?kb8_4 ?mb8_4
      case hb8_4 => (simp only [List.getElem?_toArray, List.getElem?_cons_succ, List.getElem?_cons_zero]; rfl)
      case kb8_4 =>
        intro K hK
        obtain ⟨⟨l0, l1, l2, l3, l4, l5⟩, fz0, fz1, fz2, fz3, fz4⟩ := ul_cells (Y1.out.has (Has.r (Has.l (has_blk _ _ _))))
        go_simp
        refine hK.out _ _ trivial (fun hHeld => ?_)
        clear hK K l0 l1 l2 l3 l4 l5 fz0 fz1 fz2 fz3 fz4
        (try simp only [Act.put, List.setIfInBounds_toArray, List.set_cons_zero, List.set_cons_succ])
        refine wpAnyH_ready (rs := [10]) (by kernel_rfl) (by simp) ?_
        refine' AllReadyH.cons (o := ?ob8_4_10) ?hb8_4_10 ?kb8_4_10 AllReadyH.nil
        case hb8_4_10 => (simp only [List.getElem?_toArray, List.getElem?_cons_succ, List.getElem?_cons_zero]; rfl)
        case kb8_4_10 =>
          intro K hK
          have YE := Lib.hid (own_front (Y0.out.alloc #[.int .i64 ((nb : Int) + 1)] 3)).drew
          go_simp
          refine hK.out _ _ trivial (fun hHeld => ?_)
          clear hK K
          (try simp only [Act.put, List.setIfInBounds_toArray, List.set_cons_zero, List.set_cons_succ])
          obtain ⟨ge, hge⟩ : ∃ g, g = w2.heap.size := ⟨_, rfl⟩
          rw [← hge] at YE ⊢
          clear hge
          generalize (w2.alloc _).drew = wx at *
          refine wpAnyH_ready (rs := [11]) (by kernel_rfl) (by simp) ?_
          refine' AllReadyH.cons (o := ?ob8_4_10_11) ?hb8_4_10_11 ?kb8_4_10_11 AllReadyH.nil
          case hb8_4_10_11 => (simp only [List.getElem?_toArray, List.getElem?_cons_succ, List.getElem?_cons_zero]; rfl)
          case kb8_4_10_11 =>
            intro K hK
            have cx := Lib.hid (Src.ofSlice (P := Tryd.prog) (size := 1) wx Tryd.underlying36 ⟨ge, 0, none⟩ 1 1 [.int .i64 ((nb : Int) + 1)] rfl (append1 ((YE.out.has (Has.r (Has.l (has_blk _ _ _)))).cell 0)) (by intro u hu; simp at hu; subst hu; rfl))
            refine step_append_vec rfl (.tmp 19) (.tmp 25) 36 36 rfl 3 _ 1 8 Tryd.underlying36 infoInt rfl (by decide) (.slice AS M.length cs) M.length (sts 0 (recsOf M)) rfl YE.out.vec (.slice (some ⟨ge, 0, none⟩) 1 1) rfl 1 [.int .i64 ((nb : Int) + 1)] cx.out (by unfold maxLen; omega) (by omega) ?_
            intro v' w' hv hc hf
            have YF := Lib.hid (YE.out.app hv hc hf)
            obtain ⟨BS, ds, rfl⟩ := hv.slice
            clear hv hc hf cx YE
            refine hK.out _ _ trivial (fun hHeld => ?_)
            clear hK K
            (try simp only [Act.put, List.setIfInBounds_toArray, List.set_cons_zero, List.set_cons_succ])
            refine wpAnyH_ready (rs := [12]) (by kernel_rfl) (by simp) ?_
            refine' AllReadyH.cons (o := ?ob8_4_10_11_12) ?hb8_4_10_11_12 ?kb8_4_10_11_12 AllReadyH.nil
            case hb8_4_10_11_12 => (simp only [List.getElem?_toArray, List.getElem?_cons_succ, List.getElem?_cons_zero]; rfl)
            case kb8_4_10_11_12 =>
            intro K hK
            go_simp
            refine hK.out _ _ trivial (fun hHeld => ?_)
            clear hK K
            (try simp only [Act.put, List.setIfInBounds_toArray, List.set_cons_zero, List.set_cons_succ])
            refine wpAnyH_ready (rs := [13]) (by kernel_rfl) (by simp) ?_
            refine' AllReadyH.cons (o := ?ob8_4_10_11_13) ?hb8_4_10_11_13 ?kb8_4_10_11_13 AllReadyH.nil
            case hb8_4_10_11_13 => (simp only [List.getElem?_toArray, List.getElem?_cons_succ, List.getElem?_cons_zero]; rfl)
            case kb8_4_10_11_13 =>
            intro K hK
            go_simp
            refine hK.out _ _ trivial (fun hHeld => ?_)
            clear hK K
            (try simp only [Act.put, List.setIfInBounds_toArray, List.set_cons_zero, List.set_cons_succ])
            refine wpAnyH_ready (rs := [14]) (by kernel_rfl) (by simp) ?_
            refine' AllReadyH.cons (o := ?ob8_4_10_11_14) ?hb8_4_10_11_14 ?kb8_4_10_11_14 AllReadyH.nil
            case hb8_4_10_11_14 => (simp only [List.getElem?_toArray, List.getElem?_cons_succ, List.getElem?_cons_zero]; rfl)
            case kb8_4_10_11_14 =>
            intro K hK
            obtain ⟨⟨l0, l1, l2, l3, l4, l5⟩, fz0, fz1, fz2, fz3, fz4⟩ := ul_cells (YF.out.has (Has.r (Has.r (Has.l (has_blk _ _ _)))))
            go_simp
            refine hK.out _ _ trivial (fun hHeld => ?_)
            clear hK K l0 l1 l2 l3 l4 l5 fz0 fz1 fz2 fz3 fz4
            (try simp only [Act.put, List.setIfInBounds_toArray, List.set_cons_zero, List.set_cons_succ])
            have XG := (own_front (YF.out.set (Sets.r (Sets.r (Sets.l (sets_blk gu 38 _ 1 (.slice BS (M.length + 1) ds))))))).right
            refine wpAnyH_done (by kernel_rfl) ?_ _
            generalize World.setCell _ _ _ = wz at *
            go_wp2_with fail
            go_meet
            case rel => exact ⟨BS, ds, Lib.hid XG⟩
      case mb8_4 =>
      refine' AllReadyH.cons (o := ?ob8_10) ?hb8_10 ?kb8_10 AllReadyH.nil
      case hb8_10 => (simp only [List.getElem?_toArray, List.getElem?_cons_succ, List.getElem?_cons_zero]; rfl)
      case kb8_10 =>
        intro K hK
        have YE := Lib.hid (own_front (Y0.out.alloc #[.int .i64 ((nb : Int) + 1)] 3)).drew
        go_simp
        refine hK.out _ _ trivial (fun hHeld => ?_)
        clear hK K
        (try simp only [Act.put, List.setIfInBounds_toArray, List.set_cons_zero, List.set_cons_succ])
        obtain ⟨ge, hge⟩ : ∃ g, g = w2.heap.size := ⟨_, rfl⟩
        rw [← hge] at YE ⊢
        clear hge
        generalize (w2.alloc _).drew = wx at *
        refine wpAnyH_ready (rs := [4]) (by kernel_rfl) (by simp) ?_
        refine' AllReadyH.cons (o := ?ob8_10_4) ?hb8_10_4 ?kb8_10_4 AllReadyH.nil
        case hb8_10_4 => (simp only [List.getElem?_toArray, List.getElem?_cons_succ, List.getElem?_cons_zero]; rfl)
        case kb8_10_4 =>
          intro K hK
          obtain ⟨⟨l0, l1, l2, l3, l4, l5⟩, fz0, fz1, fz2, fz3, fz4⟩ := ul_cells (YE.out.has (Has.r (Has.r (Has.l (has_blk _ _ _)))))
          go_simp
          refine hK.out _ _ trivial (fun hHeld => ?_)
          clear hK K l0 l1 l2 l3 l4 l5 fz0 fz1 fz2 fz3 fz4
          (try simp only [Act.put, List.setIfInBounds_toArray, List.set_cons_zero, List.set_cons_succ])
          refine wpAnyH_ready (rs := [11]) (by kernel_rfl) (by simp) ?_
          refine' AllReadyH.cons (o := ?ob8_10_4_11) ?hb8_10_4_11 ?kb8_10_4_11 AllReadyH.nil
          case hb8_10_4_11 => (simp only [List.getElem?_toArray, List.getElem?_cons_succ, List.getElem?_cons_zero]; rfl)
          case kb8_10_4_11 =>
            intro K hK
            have cx := Lib.hid (Src.ofSlice (P := Tryd.prog) (size := 1) wx Tryd.underlying36 ⟨ge, 0, none⟩ 1 1 [.int .i64 ((nb : Int) + 1)] rfl (append1 ((YE.out.has (Has.r (Has.l (has_blk _ _ _)))).cell 0)) (by intro u hu; simp at hu; subst hu; rfl))
            refine step_append_vec rfl (.tmp 19) (.tmp 25) 36 36 rfl 3 _ 1 8 Tryd.underlying36 infoInt rfl (by decide) (.slice AS M.length cs) M.length (sts 0 (recsOf M)) rfl YE.out.vec (.slice (some ⟨ge, 0, none⟩) 1 1) rfl 1 [.int .i64 ((nb : Int) + 1)] cx.out (by unfold maxLen; omega) (by omega) ?_
            intro v' w' hv hc hf
            have YF := Lib.hid (YE.out.app hv hc hf)
            obtain ⟨BS, ds, rfl⟩ := hv.slice
            clear hv hc hf cx YE
            refine hK.out _ _ trivial (fun hHeld => ?_)
            clear hK K
            (try simp only [Act.put, List.setIfInBounds_toArray, List.set_cons_zero, List.set_cons_succ])
            refine wpAnyH_ready (rs := [12]) (by kernel_rfl) (by simp) ?_
            refine' AllReadyH.cons (o := ?ob8_10_4_11_12) ?hb8_10_4_11_12 ?kb8_10_4_11_12 AllReadyH.nil
            case hb8_10_4_11_12 => (simp only [List.getElem?_toArray, List.getElem?_cons_succ, List.getElem?_cons_zero]; rfl)
            case kb8_10_4_11_12 =>
            intro K hK
            go_simp
            refine hK.out _ _ trivial (fun hHeld => ?_)
            clear hK K
            (try simp only [Act.put, List.setIfInBounds_toArray, List.set_cons_zero, List.set_cons_succ])
            refine wpAnyH_ready (rs := [13]) (by kernel_rfl) (by simp) ?_
            refine' AllReadyH.cons (o := ?ob8_10_4_11_13) ?hb8_10_4_11_13 ?kb8_10_4_11_13 AllReadyH.nil
            case hb8_10_4_11_13 => (simp only [List.getElem?_toArray, List.getElem?_cons_succ, List.getElem?_cons_zero]; rfl)
            case kb8_10_4_11_13 =>
            intro K hK
            go_simp
            refine hK.out _ _ trivial (fun hHeld => ?_)
            clear hK K
            (try simp only [Act.put, List.setIfInBounds_toArray, List.set_cons_zero, List.set_cons_succ])
            refine wpAnyH_ready (rs := [14]) (by kernel_rfl) (by simp) ?_
            refine' AllReadyH.cons (o := ?ob8_10_4_11_14) ?hb8_10_4_11_14 ?kb8_10_4_11_14 AllReadyH.nil
            case hb8_10_4_11_14 => (simp only [List.getElem?_toArray, List.getElem?_cons_succ, List.getElem?_cons_zero]; rfl)
            case kb8_10_4_11_14 =>
            intro K hK
            obtain ⟨⟨l0, l1, l2, l3, l4, l5⟩, fz0, fz1, fz2, fz3, fz4⟩ := ul_cells (YF.out.has (Has.r (Has.r (Has.l (has_blk _ _ _)))))
            go_simp
            refine hK.out _ _ trivial (fun hHeld => ?_)
            clear hK K l0 l1 l2 l3 l4 l5 fz0 fz1 fz2 fz3 fz4
            (try simp only [Act.put, List.setIfInBounds_toArray, List.set_cons_zero, List.set_cons_succ])
            have XG := (own_front (YF.out.set (Sets.r (Sets.r (Sets.l (sets_blk gu 38 _ 1 (.slice BS (M.length + 1) ds))))))).right
            refine wpAnyH_done (by kernel_rfl) ?_ _
            generalize World.setCell _ _ _ = wz at *
            go_wp2_with fail
            go_meet
            case rel => exact ⟨BS, ds, Lib.hid XG⟩
  case rest =>
  obtain ⟨BS, ds, hX⟩ := hcut
  have Z0 := Lib.hid hX.out
  clear hX Y0
  go_upto_region 3 with fail
  generalize wc = w3 at *
  go_cut [] (fun wx => Hid (Own w0 No wx (Asn.vec 3 1 (.slice BS (M.length + 1) ds) (M.length + 1) (sts 0 (recsOf M) ++ [.int .i64 ((nb : Int) + 1)]) * (Asn.blk gu 38 #[.slice BL (M.length + 1) dl, .slice BS (M.length + 1) ds, .int .i64 ((nb : Int) + ((bytes r).length : Int)), .int .i64 safe, .int .i64 held, .int .i64 size] * (Asn.vec 45 11 (.slice BL (M.length + 1) dl) (M.length + 1) (recs11 M ++ [.int .i64 r.kind, .int .i64 r.deal, .int .i64 r.prev, .int .i64 r.next, .slice A1 r.pages.length m1, .int .i64 r.und.kind, .int .i64 r.und.tree, .string (ofL r.und.key), .string (ofL r.und.val), .slice A2 r.opn.length m2, .slice A3 r.dty.length m3]) * (Asn.blk g3 45 #[.int .i64 r.kind, .int .i64 r.deal, .int .i64 r.prev, .int .i64 r.next, .slice A1 r.pages.length m1, .int .i64 r.und.kind, .int .i64 r.und.tree, .string (ofL r.und.key), .string (ofL r.und.val), .slice A2 r.opn.length m2, .slice A3 r.dty.length m3] * C))))))
  case first =>
    refine wp_region_held_drew (S := fun W => True) (by kernel_rfl) trivial (fun hHeld => ?_)
    have Z1 := Lib.hid Z0.out.drew
    refine' wpAnyH_take (i := 0) (oi := ?ou30) (v := ?vu30) ?hu30 ?su30 ?fu30 ?zu30 ?qu30 ?yu30 ?au30 ?ru30
    case hu30 => (simp only [List.getElem?_toArray, List.getElem?_cons_succ, List.getElem?_cons_zero]; rfl)
    case su30 => kernel_rfl
    case fu30 => kernel_rfl
    case zu30 => kernel_rfl
    case qu30 => exact fun _ _ _ h => h
    case yu30 => (refine Or.inl ⟨rfl, ?_⟩; intro w hSw; (try dsimp only at hSw); go_simp; try with_reducible rfl)
    case au30 => assumption
    case ru30 =>
    simp only [Act.put, List.setIfInBounds_toArray, List.set_cons_zero, List.set_cons_succ]
    refine' wpAnyH_take (i := 1) (oi := ?ou31) (v := ?vu31) ?hu31 ?su31 ?fu31 ?zu31 ?qu31 ?yu31 ?au31 ?ru31
    case hu31 => (simp only [List.getElem?_toArray, List.getElem?_cons_succ, List.getElem?_cons_zero]; rfl)
    case su31 => kernel_rfl
    case fu31 => kernel_rfl
    case zu31 => kernel_rfl
    case qu31 => exact fun _ _ _ h => h
    case yu31 => (refine Or.inl ⟨rfl, ?_⟩; intro w hSw; (try dsimp only at hSw); go_simp; try with_reducible rfl)
    case au31 => assumption
    case ru31 =>
    simp only [Act.put, List.setIfInBounds_toArray, List.set_cons_zero, List.set_cons_succ]
    refine' wpAnyH_take (i := 2) (oi := ?ou32) (v := ?vu32) ?hu32 ?su32 ?fu32 ?zu32 ?qu32 ?yu32 ?au32 ?ru32
    case hu32 => (simp only [List.getElem?_toArray, List.getElem?_cons_succ, List.getElem?_cons_zero]; rfl)
    case su32 => kernel_rfl
    case fu32 => kernel_rfl
    case zu32 => kernel_rfl
    case qu32 => exact fun _ _ _ h => h
    case yu32 => (refine Or.inl ⟨rfl, ?_⟩; intro w hSw; (try dsimp only at hSw); go_simp; try with_reducible rfl)
    case au32 => assumption
    case ru32 =>
    simp only [Act.put, List.setIfInBounds_toArray, List.set_cons_zero, List.set_cons_succ]
    refine' wpAnyH_take (i := 3) (oi := ?ou33) (v := ?vu33) ?hu33 ?su33 ?fu33 ?zu33 ?qu33 ?yu33 ?au33 ?ru33
    case hu33 => (simp only [List.getElem?_toArray, List.getElem?_cons_succ, List.getElem?_cons_zero]; rfl)
    case su33 => kernel_rfl
    case fu33 => kernel_rfl
    case zu33 => kernel_rfl
    case qu33 => exact fun _ _ _ h => h
    case yu33 => (refine Or.inl ⟨rfl, ?_⟩; intro w hSw; (try dsimp only at hSw); go_simp; try with_reducible rfl)
    case au33 => assumption
    case ru33 =>
    simp only [Act.put, List.setIfInBounds_toArray, List.set_cons_zero, List.set_cons_succ]
    refine wpAnyH_ready (rs := [4, 5]) (by kernel_rfl) (by simp) ?_
    refine' AllReadyH.cons (o := ?oc4) ?hc4 ?kc4 ?mc4
    case hc4 => (simp only [List.getElem?_toArray, List.getElem?_cons_succ, List.getElem?_cons_zero]; rfl)
    case kc4 =>
      intro K hK
      obtain ⟨⟨l0, l1, l2, l3, l4, l5⟩, fz0, fz1, fz2, fz3, fz4⟩ := ul_cells (Z1.out.has (Has.r (Has.l (has_blk _ _ _))))
      go_simp
      refine hK.out _ _ trivial (fun hHeld => ?_)
      clear hK K l0 l1 l2 l3 l4 l5 fz0 fz1 fz2 fz3 fz4
      (try simp only [Act.put, List.setIfInBounds_toArray, List.set_cons_zero, List.set_cons_succ])
      refine wpAnyH_ready (rs := [5]) (by kernel_rfl) (by simp) ?_
      refine' AllReadyH.cons (o := ?oc4_5) ?hc4_5 ?kc4_5 AllReadyH.nil
      case hc4_5 => (simp only [List.getElem?_toArray, List.getElem?_cons_succ, List.getElem?_cons_zero]; rfl)
      case kc4_5 =>
        intro K hK
        obtain ⟨⟨e0, e1, e2, e3, e4, e5, e6, e7, e8, e9, e10⟩, -⟩ := eleven (Z1.out.has (Has.r (Has.r (Has.r (Has.l (has_blk _ _ _))))))
        go_simp
        refine hK.out _ _ trivial (fun hHeld => ?_)
        clear hK K e0 e1 e2 e3 e4 e5 e6 e7 e8 e9 e10
        (try simp only [Act.put, List.setIfInBounds_toArray, List.set_cons_zero, List.set_cons_succ])
        refine wpAnyH_ready (rs := [6]) (by kernel_rfl) (by simp) ?_
        refine' AllReadyH.cons (o := ?oc4_5_6) ?hc4_5_6 ?kc4_5_6 AllReadyH.nil
        case hc4_5_6 => (simp only [List.getElem?_toArray, List.getElem?_cons_succ, List.getElem?_cons_zero]; rfl)
        case kc4_5_6 =>
          intro K hK
          go_simp
          go_at_call 11
          refine (EB.out _ Z1.out.bel).mono ?_
          rintro e w' ⟨rfl, hX⟩
          have ZF := Lib.hid (Z1.out.below hX)
          clear hX
          refine hK.out _ _ trivial (fun hHeld => ?_)
          clear hK K
          (try simp only [Act.put, List.setIfInBounds_toArray, List.set_cons_zero, List.set_cons_succ])
          refine' wpAnyH_take (i := 7) (oi := ?oc4_5_6t7) (v := ?vc4_5_6t7) ?hc4_5_6t7 ?sc4_5_6t7 ?fc4_5_6t7 ?zc4_5_6t7 ?qc4_5_6t7 ?yc4_5_6t7 ?ac4_5_6t7 ?rc4_5_6t7
          case hc4_5_6t7 => (simp only [List.getElem?_toArray, List.getElem?_cons_succ, List.getElem?_cons_zero]; rfl)
          case sc4_5_6t7 => kernel_rfl
          case fc4_5_6t7 => kernel_rfl
          case zc4_5_6t7 => kernel_rfl
          case qc4_5_6t7 => exact fun _ _ _ h => h
          case yc4_5_6t7 => (refine Or.inl ⟨rfl, ?_⟩; intro w hSw; (try dsimp only at hSw); go_simp; try with_reducible rfl)
          case ac4_5_6t7 => assumption
          case rc4_5_6t7 =>
          simp only [Act.put, List.setIfInBounds_toArray, List.set_cons_zero, List.set_cons_succ]
          refine' wpAnyH_take (i := 8) (oi := ?oc4_5_6_v8) (v := ?vc4_5_6_v8) ?hc4_5_6_v8 ?sc4_5_6_v8 ?fc4_5_6_v8 ?zc4_5_6_v8 ?qc4_5_6_v8 ?yc4_5_6_v8 ?ac4_5_6_v8 ?rc4_5_6_v8
          case hc4_5_6_v8 => (simp only [List.getElem?_toArray, List.getElem?_cons_succ, List.getElem?_cons_zero]; rfl)
          case sc4_5_6_v8 => kernel_rfl
          case fc4_5_6_v8 => kernel_rfl
          case zc4_5_6_v8 => kernel_rfl
          case qc4_5_6_v8 => exact fun _ _ _ h => h
          case yc4_5_6_v8 => (refine Or.inl ⟨rfl, ?_⟩; intro w hSw; (try dsimp only at hSw); go_simp; try with_reducible rfl)
          case ac4_5_6_v8 => assumption
          case rc4_5_6_v8 =>
          simp only [Act.put, List.setIfInBounds_toArray, List.set_cons_zero, List.set_cons_succ]
          refine wpAnyH_ready (rs := [9]) (by kernel_rfl) (by simp) ?_
          refine' AllReadyH.cons (o := ?oc4_5_6_9) ?hc4_5_6_9 ?kc4_5_6_9 AllReadyH.nil
          case hc4_5_6_9 => (simp only [List.getElem?_toArray, List.getElem?_cons_succ, List.getElem?_cons_zero]; rfl)
          case kc4_5_6_9 =>
          intro K hK
          go_simp
          refine hK.out _ _ trivial (fun hHeld => ?_)
          clear hK K
          (try simp only [Act.put, List.setIfInBounds_toArray, List.set_cons_zero, List.set_cons_succ])
          refine wpAnyH_ready (rs := [10]) (by kernel_rfl) (by simp) ?_
          refine' AllReadyH.cons (o := ?oc4_5_6_10) ?hc4_5_6_10 ?kc4_5_6_10 AllReadyH.nil
          case hc4_5_6_10 => (simp only [List.getElem?_toArray, List.getElem?_cons_succ, List.getElem?_cons_zero]; rfl)
          case kc4_5_6_10 =>
          intro K hK
          go_simp
          refine hK.out _ _ trivial (fun hHeld => ?_)
          clear hK K
          (try simp only [Act.put, List.setIfInBounds_toArray, List.set_cons_zero, List.set_cons_succ])
          refine wpAnyH_ready (rs := [11]) (by kernel_rfl) (by simp) ?_
          refine' AllReadyH.cons (o := ?oc4_5_6_11) ?hc4_5_6_11 ?kc4_5_6_11 AllReadyH.nil
          case hc4_5_6_11 => (simp only [List.getElem?_toArray, List.getElem?_cons_succ, List.getElem?_cons_zero]; rfl)
          case kc4_5_6_11 =>
          intro K hK
          obtain ⟨⟨l0, l1, l2, l3, l4, l5⟩, fz0, fz1, fz2, fz3, fz4⟩ := ul_cells (ZF.out.has (Has.r (Has.l (has_blk _ _ _))))
          go_simp
          refine hK.out _ _ trivial (fun hHeld => ?_)
          clear hK K l0 l1 l2 l3 l4 l5 fz0 fz1 fz2 fz3 fz4
          (try simp only [Act.put, List.setIfInBounds_toArray, List.set_cons_zero, List.set_cons_succ])
          have XG := ZF.out.set (Sets.r (Sets.l (sets_blk gu 38 _ 2 (.int .i64 ((nb : Int) + ((bytes r).length : Int))))))
          refine wpAnyH_done (by kernel_rfl) ?_ _
          generalize World.setCell _ _ _ = wz at *
          go_wp2_with fail
          go_meet
          case rel => exact Lib.hid XG
    case mc4 =>
    refine' AllReadyH.cons (o := ?oc5) ?hc5 ?kc5 AllReadyH.nil
    case hc5 => (simp only [List.getElem?_toArray, List.getElem?_cons_succ, List.getElem?_cons_zero]; rfl)
    case kc5 =>
      intro K hK
      obtain ⟨⟨e0, e1, e2, e3, e4, e5, e6, e7, e8, e9, e10⟩, -⟩ := eleven (Z1.out.has (Has.r (Has.r (Has.r (Has.l (has_blk _ _ _))))))
      go_simp
      refine hK.out _ _ trivial (fun hHeld => ?_)
      clear hK K e0 e1 e2 e3 e4 e5 e6 e7 e8 e9 e10
      (try simp only [Act.put, List.setIfInBounds_toArray, List.set_cons_zero, List.set_cons_succ])
      refine wpAnyH_ready (rs := [4, 6]) (by kernel_rfl) (by simp) ?_
      refine' AllReadyH.cons (o := ?oc5_4) ?hc5_4 ?kc5_4 ?mc5_4
      case hc5_4 => (simp only [List.getElem?_toArray, List.getElem?_cons_succ, List.getElem?_cons_zero]; rfl)
      case kc5_4 =>
        intro K hK
        obtain ⟨⟨l0, l1, l2, l3, l4, l5⟩, fz0, fz1, fz2, fz3, fz4⟩ := ul_cells (Z1.out.has (Has.r (Has.l (has_blk _ _ _))))
        go_simp
        refine hK.out _ _ trivial (fun hHeld => ?_)
        clear hK K l0 l1 l2 l3 l4 l5 fz0 fz1 fz2 fz3 fz4
        (try simp only [Act.put, List.setIfInBounds_toArray, List.set_cons_zero, List.set_cons_succ])
        refine wpAnyH_ready (rs := [6]) (by kernel_rfl) (by simp) ?_
        refine' AllReadyH.cons (o := ?oc5_4_6) ?hc5_4_6 ?kc5_4_6 AllReadyH.nil
        case hc5_4_6 => (simp only [List.getElem?_toArray, List.getElem?_cons_succ, List.getElem?_cons_zero]; rfl)
        case kc5_4_6 =>
          intro K hK
          go_simp
          go_at_call 11
          refine (EB.out _ Z1.out.bel).mono ?_
          rintro e w' ⟨rfl, hX⟩
          have ZF := Lib.hid (Z1.out.below hX)
          clear hX
          refine hK.out _ _ trivial (fun hHeld => ?_)
          clear hK K
          (try simp only [Act.put, List.setIfInBounds_toArray, List.set_cons_zero, List.set_cons_succ])
          refine' wpAnyH_take (i := 7) (oi := ?oc5_4_6t7) (v := ?vc5_4_6t7) ?hc5_4_6t7 ?sc5_4_6t7 ?fc5_4_6t7 ?zc5_4_6t7 ?qc5_4_6t7 ?yc5_4_6t7 ?ac5_4_6t7 ?rc5_4_6t7
          case hc5_4_6t7 => (simp only [List.getElem?_toArray, List.getElem?_cons_succ, List.getElem?_cons_zero]; rfl)
          case sc5_4_6t7 => kernel_rfl
          case fc5_4_6t7 => kernel_rfl
          case zc5_4_6t7 => kernel_rfl
          case qc5_4_6t7 => exact fun _ _ _ h => h
          case yc5_4_6t7 => (refine Or.inl ⟨rfl, ?_⟩; intro w hSw; (try dsimp only at hSw); go_simp; try with_reducible rfl)
          case ac5_4_6t7 => assumption
          case rc5_4_6t7 =>
          simp only [Act.put, List.setIfInBounds_toArray, List.set_cons_zero, List.set_cons_succ]
          refine' wpAnyH_take (i := 8) (oi := ?oc5_4_6_v8) (v := ?vc5_4_6_v8) ?hc5_4_6_v8 ?sc5_4_6_v8 ?fc5_4_6_v8 ?zc5_4_6_v8 ?qc5_4_6_v8 ?yc5_4_6_v8 ?ac5_4_6_v8 ?rc5_4_6_v8
          case hc5_4_6_v8 => (simp only [List.getElem?_toArray, List.getElem?_cons_succ, List.getElem?_cons_zero]; rfl)
          case sc5_4_6_v8 => kernel_rfl
          case fc5_4_6_v8 => kernel_rfl
          case zc5_4_6_v8 => kernel_rfl
          case qc5_4_6_v8 => exact fun _ _ _ h => h
          case yc5_4_6_v8 => (refine Or.inl ⟨rfl, ?_⟩; intro w hSw; (try dsimp only at hSw); go_simp; try with_reducible rfl)
          case ac5_4_6_v8 => assumption
          case rc5_4_6_v8 =>
          simp only [Act.put, List.setIfInBounds_toArray, List.set_cons_zero, List.set_cons_succ]
          refine wpAnyH_ready (rs := [9]) (by kernel_rfl) (by simp) ?_
          refine' AllReadyH.cons (o := ?oc5_4_6_9) ?hc5_4_6_9 ?kc5_4_6_9 AllReadyH.nil
          case hc5_4_6_9 => (simp only [List.getElem?_toArray, List.getElem?_cons_succ, List.getElem?_cons_zero]; rfl)
          case kc5_4_6_9 =>
          intro K hK
          go_simp
          refine hK.out _ _ trivial (fun hHeld => ?_)
          clear hK K
          (try simp only [Act.put, List.setIfInBounds_toArray, List.set_cons_zero, List.set_cons_succ])
          refine wpAnyH_ready (rs := [10]) (by kernel_rfl) (by simp) ?_
          refine' AllReadyH.cons (o := ?oc5_4_6_10) ?hc5_4_6_10 ?kc5_4_6_10 AllReadyH.nil
          case hc5_4_6_10 => (simp only [List.getElem?_toArray, List.getElem?_cons_succ, List.getElem?_cons_zero]; rfl)
          case kc5_4_6_10 =>
          intro K hK
          go_simp
          refine hK.out _ _ trivial (fun hHeld => ?_)
          clear hK K
          (try simp only [Act.put, List.setIfInBounds_toArray, List.set_cons_zero, List.set_cons_succ])
          refine wpAnyH_ready (rs := [11]) (by kernel_rfl) (by simp) ?_
          refine' AllReadyH.cons (o := ?oc5_4_6_11) ?hc5_4_6_11 ?kc5_4_6_11 AllReadyH.nil
          case hc5_4_6_11 => (simp only [List.getElem?_toArray, List.getElem?_cons_succ, List.getElem?_cons_zero]; rfl)
          case kc5_4_6_11 =>
          intro K hK
          obtain ⟨⟨l0, l1, l2, l3, l4, l5⟩, fz0, fz1, fz2, fz3, fz4⟩ := ul_cells (ZF.out.has (Has.r (Has.l (has_blk _ _ _))))
          go_simp
          refine hK.out _ _ trivial (fun hHeld => ?_)
          clear hK K l0 l1 l2 l3 l4 l5 fz0 fz1 fz2 fz3 fz4
          (try simp only [Act.put, List.setIfInBounds_toArray, List.set_cons_zero, List.set_cons_succ])
          have XG := ZF.out.set (Sets.r (Sets.l (sets_blk gu 38 _ 2 (.int .i64 ((nb : Int) + ((bytes r).length : Int))))))
          refine wpAnyH_done (by kernel_rfl) ?_ _
          generalize World.setCell _ _ _ = wz at *
          go_wp2_with fail
          go_meet
          case rel => exact Lib.hid XG
      case mc5_4 =>
      refine' AllReadyH.cons (o := ?oc5_6) ?hc5_6 ?kc5_6 AllReadyH.nil
      case hc5_6 => (simp only [List.getElem?_toArray, List.getElem?_cons_succ, List.getElem?_cons_zero]; rfl)
      case kc5_6 =>
        intro K hK
        go_simp
        go_at_call 11
        refine (EB.out _ Z1.out.bel).mono ?_
        rintro e w' ⟨rfl, hX⟩
        have ZF := Lib.hid (Z1.out.below hX)
        clear hX
        refine hK.out _ _ trivial (fun hHeld => ?_)
        clear hK K
        (try simp only [Act.put, List.setIfInBounds_toArray, List.set_cons_zero, List.set_cons_succ])
        refine' wpAnyH_take (i := 7) (oi := ?oc5_6t7) (v := ?vc5_6t7) ?hc5_6t7 ?sc5_6t7 ?fc5_6t7 ?zc5_6t7 ?qc5_6t7 ?yc5_6t7 ?ac5_6t7 ?rc5_6t7
        case hc5_6t7 => (simp only [List.getElem?_toArray, List.getElem?_cons_succ, List.getElem?_cons_zero]; rfl)
        case sc5_6t7 => kernel_rfl
        case fc5_6t7 => kernel_rfl
        case zc5_6t7 => kernel_rfl
        case qc5_6t7 => exact fun _ _ _ h => h
        case yc5_6t7 => (refine Or.inl ⟨rfl, ?_⟩; intro w hSw; (try dsimp only at hSw); go_simp; try with_reducible rfl)
        case ac5_6t7 => assumption
        case rc5_6t7 =>
        simp only [Act.put, List.setIfInBounds_toArray, List.set_cons_zero, List.set_cons_succ]
        refine wpAnyH_ready (rs := [4]) (by kernel_rfl) (by simp) ?_
        refine' AllReadyH.cons (o := ?oc5_6_4) ?hc5_6_4 ?kc5_6_4 AllReadyH.nil
        case hc5_6_4 => (simp only [List.getElem?_toArray, List.getElem?_cons_succ, List.getElem?_cons_zero]; rfl)
        case kc5_6_4 =>
          intro K hK
          obtain ⟨⟨l0, l1, l2, l3, l4, l5⟩, fz0, fz1, fz2, fz3, fz4⟩ := ul_cells (ZF.out.has (Has.r (Has.l (has_blk _ _ _))))
          go_simp
          refine hK.out _ _ trivial (fun hHeld => ?_)
          clear hK K l0 l1 l2 l3 l4 l5 fz0 fz1 fz2 fz3 fz4
          (try simp only [Act.put, List.setIfInBounds_toArray, List.set_cons_zero, List.set_cons_succ])
          refine' wpAnyH_take (i := 8) (oi := ?oc5_6_4_v8) (v := ?vc5_6_4_v8) ?hc5_6_4_v8 ?sc5_6_4_v8 ?fc5_6_4_v8 ?zc5_6_4_v8 ?qc5_6_4_v8 ?yc5_6_4_v8 ?ac5_6_4_v8 ?rc5_6_4_v8
          case hc5_6_4_v8 => (simp only [List.getElem?_toArray, List.getElem?_cons_succ, List.getElem?_cons_zero]; rfl)
          case sc5_6_4_v8 => kernel_rfl
          case fc5_6_4_v8 => kernel_rfl
          case zc5_6_4_v8 => kernel_rfl
          case qc5_6_4_v8 => exact fun _ _ _ h => h
          case yc5_6_4_v8 => (refine Or.inl ⟨rfl, ?_⟩; intro w hSw; (try dsimp only at hSw); go_simp; try with_reducible rfl)
          case ac5_6_4_v8 => assumption
          case rc5_6_4_v8 =>
          simp only [Act.put, List.setIfInBounds_toArray, List.set_cons_zero, List.set_cons_succ]
          refine wpAnyH_ready (rs := [9]) (by kernel_rfl) (by simp) ?_
          refine' AllReadyH.cons (o := ?oc5_6_4_9) ?hc5_6_4_9 ?kc5_6_4_9 AllReadyH.nil
          case hc5_6_4_9 => (simp only [List.getElem?_toArray, List.getElem?_cons_succ, List.getElem?_cons_zero]; rfl)
          case kc5_6_4_9 =>
          intro K hK
          go_simp
          refine hK.out _ _ trivial (fun hHeld => ?_)
          clear hK K
          (try simp only [Act.put, List.setIfInBounds_toArray, List.set_cons_zero, List.set_cons_succ])
          refine wpAnyH_ready (rs := [10]) (by kernel_rfl) (by simp) ?_
          refine' AllReadyH.cons (o := ?oc5_6_4_10) ?hc5_6_4_10 ?kc5_6_4_10 AllReadyH.nil
          case hc5_6_4_10 => (simp only [List.getElem?_toArray, List.getElem?_cons_succ, List.getElem?_cons_zero]; rfl)
          case kc5_6_4_10 =>
          intro K hK
          go_simp
          refine hK.out _ _ trivial (fun hHeld => ?_)
          clear hK K
          (try simp only [Act.put, List.setIfInBounds_toArray, List.set_cons_zero, List.set_cons_succ])
          refine wpAnyH_ready (rs := [11]) (by kernel_rfl) (by simp) ?_
          refine' AllReadyH.cons (o := ?oc5_6_4_11) ?hc5_6_4_11 ?kc5_6_4_11 AllReadyH.nil
          case hc5_6_4_11 => (simp only [List.getElem?_toArray, List.getElem?_cons_succ, List.getElem?_cons_zero]; rfl)
          case kc5_6_4_11 =>
          intro K hK
          obtain ⟨⟨l0, l1, l2, l3, l4, l5⟩, fz0, fz1, fz2, fz3, fz4⟩ := ul_cells (ZF.out.has (Has.r (Has.l (has_blk _ _ _))))
          go_simp
          refine hK.out _ _ trivial (fun hHeld => ?_)
          clear hK K l0 l1 l2 l3 l4 l5 fz0 fz1 fz2 fz3 fz4
          (try simp only [Act.put, List.setIfInBounds_toArray, List.set_cons_zero, List.set_cons_succ])
          have XG := ZF.out.set (Sets.r (Sets.l (sets_blk gu 38 _ 2 (.int .i64 ((nb : Int) + ((bytes r).length : Int))))))
          refine wpAnyH_done (by kernel_rfl) ?_ _
          generalize World.setCell _ _ _ = wz at *
          go_wp2_with fail
          go_meet
          case rel => exact Lib.hid XG
  case rest =>
  have V0 := hcut
  clear hcut Z0 EB
  go_upto_region 4 with fail
  generalize wc = w4 at *
  rcases V0.out.vec.forms with ⟨-, hz⟩ | ⟨gs, dd, he, -, -, -⟩
  · omega
  simp only [Value.slice.injEq, true_and] at he
  obtain ⟨rfl, rfl⟩ := he
  have d := V0.out.vec.cell (j := M.length) (u := .int .i64 ((nb : Int) + 1)) (by rw [List.getElem?_append_right (by rw [sts_len, HRL.out]; exact Nat.le_refl _), sts_len, HRL.out, Nat.sub_self]; rfl)
  obtain ⟨⟨l0, l1, l2, l3, l4, l5⟩, -⟩ := ul_cells (V0.out.has (Has.r (Has.l (has_blk _ _ _))))
  go_wp2_with fail
  go_quiet (fail)
  have VE := Lib.hid (V0.out.drewN nq)
  clear V0 d l0 l1 l2 l3 l4 l5
  generalize w4.drewN nq = w5 at *
  go_wp2_with fail
  go_returns
  refine ⟨(.slice BL (M.length + 1) dl, .slice (some ⟨gs, 0, none⟩) (M.length + 1) ds), rfl, ?_⟩
  try unfold aUl ulRow
  try dsimp only
  rw [HML.out, HR.out, HF.out, ← hN.out, HT.out]
  rw [show ((nb + 1 : Nat) : Int) = (nb : Int) + 1 from rfl, show ((nb + (bytes r).length : Nat) : Int) = (nb : Int) + ((bytes r).length : Int) from Int.natCast_add _ _]
  exact ua_out VE.out
end
end Go.Proofs.YtaacinhmgmmcaaaDoor.Nt
