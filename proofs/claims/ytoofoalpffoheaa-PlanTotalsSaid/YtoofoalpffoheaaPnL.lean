/- The document's totals. -/
import Derived.Test.YtoofoalpffoheaaPnE
import Derived.Test.YtoofoalpffoheaaWdI
import Derived.Test.YtoofoalpffoheaaWdL
namespace Go.Proofs.Ytoofoalpffoheaa.Pn
open Go.ChangeShapes Go.WideShapes Go.ChangeAt Go.RowKit Go.PlainAid Aid Wd
set_option linter.unusedVariables false
set_option linter.unusedSimpArgs false
set_option maxRecDepth 100000 in
set_option maxHeartbeats 4000000 in
theorem add16_any (x y : W1) (w : World) :
    Calls Try.prog 26 #[.agg #[.int .i64 (hi x), .int .u64 (lo x)], .agg #[.int .i64 (hi y), .int .u64 (lo y)]] w fun e w' => e = .returned (.agg #[.int .i64 (hi (x + y)), .int .u64 (lo (x + y))]) ∧ Below w.heap.size w w' := by
  have hs : ∀ (W : World) (o : Obj), (W.alloc o).heap.size = W.heap.size + 1 := fun W o => by simp
  obtain ⟨fx, hfx⟩ : ∃ f, f = fun i => x.getLsbD i := ⟨_, rfl⟩
  obtain ⟨fy, hfy⟩ : ∃ f, f = fun i => y.getLsbD i := ⟨_, rfl⟩
  obtain ⟨fs, hfs⟩ : ∃ f, f = fun i => (x + y).getLsbD i := ⟨_, rfl⟩
  have H1 : Hid (∀ w, Calls Try.prog 38 #[.agg #[.int .i64 (hi x), .int .u64 (lo x)]] w fun e w' => e = .returned (.agg (Bs fx)) ∧ Below w.heap.size w w') := Lib.hid (fun w => by rw [hfx]; exact refBits_any x w)
  have H2 : Hid (∀ w, Calls Try.prog 38 #[.agg #[.int .i64 (hi y), .int .u64 (lo y)]] w fun e w' => e = .returned (.agg (Bs fy)) ∧ Below w.heap.size w w') := Lib.hid (fun w => by rw [hfy]; exact refBits_any y w)
  have H3 : Hid (∀ w, Calls Try.prog 37 #[.agg (Bs fx), .agg (Bs fy), .bool false] w fun e w' => e = .returned (.agg (Bs fs)) ∧ Below w.heap.size w w') := Lib.hid (fun w => by rw [hfx, hfy, hfs]; have := refAdd_any x y false w; simpa using this)
  have H4 : Hid (∀ w, Calls Try.prog 36 #[.agg (Bs fs)] w fun e w' => e = .returned (.agg #[.int .i64 (hi (x + y)), .int .u64 (lo (x + y))]) ∧ Below w.heap.size w w') := Lib.hid (fun w => by rw [hfs]; exact refOf_any (x + y) w)
  clear hfx hfy hfs
  generalize hi x = xh, lo x = xl, hi y = yh, lo y = yl, hi (x + y) = zh, lo (x + y) = zl at *
  go_enter Try.func26, Try.ntmps26
  go_upto_region 1 with fail
  have S0 := (((Own.none w).alloc #[.int .i64 xh, .int .u64 xl] 24).alloc #[.int .i64 yh, .int .u64 yl] 24).alloc #[.int .i64 0, .int .u64 0] 24
  simp only [hs] at S0
  obtain ⟨gx, hg⟩ : ∃ n, n = w.heap.size := ⟨_, rfl⟩
  rw [← hg] at S0 ⊢
  clear hg
  obtain ⟨gr, hg⟩ : ∃ g, g = gx + 1 + 1 := ⟨_, rfl⟩
  rw [← hg] at S0 ⊢
  clear hg
  obtain ⟨gy, hg⟩ : ∃ g, g = gx + 1 := ⟨_, rfl⟩
  rw [← hg] at S0 ⊢
  clear hg hs
  generalize World.alloc (World.alloc (World.alloc w _) _) _ = w1 at *
  have S1 := Lib.hid S0.drew
  clear S0
  as_aux_lemma =>
    refine wp_region_held_drew (S := fun W : World => W.cell? ⟨gx, 0, none⟩ = some (.int .i64 xh) ∧ W.cell? ⟨gx, 1, none⟩ = some (.int .u64 xl) ∧ W.cell? ⟨gy, 0, none⟩ = some (.int .i64 yh) ∧ W.cell? ⟨gy, 1, none⟩ = some (.int .u64 yl)) (by kernel_rfl) ⟨(two_of (S1.out.has (Has.r (Has.r (Has.l (has_blk _ _ _)))))).1.1, (two_of (S1.out.has (Has.r (Has.r (Has.l (has_blk _ _ _)))))).1.2, (two_of (S1.out.has (Has.r (Has.l (has_blk _ _ _))))).1.1, (two_of (S1.out.has (Has.r (Has.l (has_blk _ _ _))))).1.2⟩ (fun hHeld => ?_)
    generalize w1.drew = w2 at *
    refine' wpAnyH_take (i := 0) (oi := ?ot1z0) (v := ?vt1z0) ?ht1z0 ?st1z0 ?ft1z0 ?zt1z0 ?qt1z0 ?yt1z0 ?at1z0 ?rt1z0
    case ht1z0 => (simp only [List.getElem?_toArray, List.getElem?_cons_succ, List.getElem?_cons_zero]; rfl)
    case st1z0 => kernel_rfl
    case ft1z0 => kernel_rfl
    case zt1z0 => kernel_rfl
    case qt1z0 => exact fun _ _ _ h => h
    case yt1z0 => (refine Or.inl ⟨rfl, ?_⟩; intro w hSw; obtain ⟨s0, s1, s2, s3⟩ := hSw; go_simp; try with_reducible rfl)
    case at1z0 => assumption
    case rt1z0 =>
    simp only [Act.put, List.setIfInBounds_toArray, List.set_cons_zero, List.set_cons_succ]
    refine' wpAnyH_take (i := 2) (oi := ?ot2z2) (v := ?vt2z2) ?ht2z2 ?st2z2 ?ft2z2 ?zt2z2 ?qt2z2 ?yt2z2 ?at2z2 ?rt2z2
    case ht2z2 => (simp only [List.getElem?_toArray, List.getElem?_cons_succ, List.getElem?_cons_zero]; rfl)
    case st2z2 => kernel_rfl
    case ft2z2 => kernel_rfl
    case zt2z2 => kernel_rfl
    case qt2z2 => exact fun _ _ _ h => h
    case yt2z2 => (refine Or.inl ⟨rfl, ?_⟩; intro w hSw; obtain ⟨s0, s1, s2, s3⟩ := hSw; go_simp; try with_reducible rfl)
    case at2z2 => assumption
    case rt2z2 =>
    simp only [Act.put, List.setIfInBounds_toArray, List.set_cons_zero, List.set_cons_succ]
    refine wpAnyH_ready (rs := [1]) (by kernel_rfl) (by simp) ?_
    refine' AllReadyH.cons (o := ?ob3z1) ?hb3z1 ?kb3z1 AllReadyH.nil
    case hb3z1 => (simp only [List.getElem?_toArray, List.getElem?_cons_succ, List.getElem?_cons_zero]; rfl)
    case kb3z1 =>
      intro K0 hK
      go_simp
      refine (H1.out _).mono ?_
      rintro er wk4 ⟨rfl, hX⟩
      have SK4 := Lib.hid (S1.out.below hX)
      clear hX S1
      refine hK.out _ _ ?_ (fun hHeld => ?_)
      · exact ⟨(two_of (SK4.out.has (Has.r (Has.r (Has.l (has_blk _ _ _)))))).1.1, (two_of (SK4.out.has (Has.r (Has.r (Has.l (has_blk _ _ _)))))).1.2, (two_of (SK4.out.has (Has.r (Has.l (has_blk _ _ _))))).1.1, (two_of (SK4.out.has (Has.r (Has.l (has_blk _ _ _))))).1.2⟩
      clear hK K0
      (try simp only [Act.put, List.setIfInBounds_toArray, List.set_cons_zero, List.set_cons_succ])
      (try clear hH2)
      refine wpAnyH_ready (rs := [3]) (by kernel_rfl) (by simp) ?_
      refine' AllReadyH.cons (o := ?ob5z3) ?hb5z3 ?kb5z3 AllReadyH.nil
      case hb5z3 => (simp only [List.getElem?_toArray, List.getElem?_cons_succ, List.getElem?_cons_zero]; rfl)
      case kb5z3 =>
        intro K0 hK
        go_simp
        refine (H2.out _).mono ?_
        rintro er wk6 ⟨rfl, hX⟩
        have SK6 := Lib.hid (SK4.out.below hX)
        clear hX SK4
        refine hK.out _ _ ?_ (fun hHeld => ?_)
        · exact ⟨(two_of (SK6.out.has (Has.r (Has.r (Has.l (has_blk _ _ _)))))).1.1, (two_of (SK6.out.has (Has.r (Has.r (Has.l (has_blk _ _ _)))))).1.2, (two_of (SK6.out.has (Has.r (Has.l (has_blk _ _ _))))).1.1, (two_of (SK6.out.has (Has.r (Has.l (has_blk _ _ _))))).1.2⟩
        clear hK K0
        (try simp only [Act.put, List.setIfInBounds_toArray, List.set_cons_zero, List.set_cons_succ])
        (try clear hH2)
        refine wpAnyH_ready (rs := [4]) (by kernel_rfl) (by simp) ?_
        refine' AllReadyH.cons (o := ?ob7z4) ?hb7z4 ?kb7z4 AllReadyH.nil
        case hb7z4 => (simp only [List.getElem?_toArray, List.getElem?_cons_succ, List.getElem?_cons_zero]; rfl)
        case kb7z4 =>
          intro K0 hK
          go_simp
          refine (H3.out _).mono ?_
          rintro er wk8 ⟨rfl, hX⟩
          have SK8 := Lib.hid (SK6.out.below hX)
          clear hX SK6
          refine hK.out _ _ ?_ (fun hHeld => ?_)
          · exact ⟨(two_of (SK8.out.has (Has.r (Has.r (Has.l (has_blk _ _ _)))))).1.1, (two_of (SK8.out.has (Has.r (Has.r (Has.l (has_blk _ _ _)))))).1.2, (two_of (SK8.out.has (Has.r (Has.l (has_blk _ _ _))))).1.1, (two_of (SK8.out.has (Has.r (Has.l (has_blk _ _ _))))).1.2⟩
          clear hK K0
          (try simp only [Act.put, List.setIfInBounds_toArray, List.set_cons_zero, List.set_cons_succ])
          (try clear hH2)
          refine wpAnyH_ready (rs := [5]) (by kernel_rfl) (by simp) ?_
          refine' AllReadyH.cons (o := ?ob9z5) ?hb9z5 ?kb9z5 AllReadyH.nil
          case hb9z5 => (simp only [List.getElem?_toArray, List.getElem?_cons_succ, List.getElem?_cons_zero]; rfl)
          case kb9z5 =>
            intro K0 hK
            go_simp
            refine (H4.out _).mono ?_
            rintro er wk10 ⟨rfl, hX⟩
            have SK10 := Lib.hid (SK8.out.below hX)
            clear hX SK8
            refine hK.out _ _ ?_ (fun hHeld => ?_)
            · exact ⟨(two_of (SK10.out.has (Has.r (Has.r (Has.l (has_blk _ _ _)))))).1.1, (two_of (SK10.out.has (Has.r (Has.r (Has.l (has_blk _ _ _)))))).1.2, (two_of (SK10.out.has (Has.r (Has.l (has_blk _ _ _))))).1.1, (two_of (SK10.out.has (Has.r (Has.l (has_blk _ _ _))))).1.2⟩
            clear hK K0
            (try simp only [Act.put, List.setIfInBounds_toArray, List.set_cons_zero, List.set_cons_succ])
            (try clear hH2)
            refine wpAnyH_ready (rs := [6]) (by kernel_rfl) (by simp) ?_
            refine' AllReadyH.cons (o := ?ob11z6) ?hb11z6 ?kb11z6 AllReadyH.nil
            case hb11z6 => (simp only [List.getElem?_toArray, List.getElem?_cons_succ, List.getElem?_cons_zero]; rfl)
            case kb11z6 =>
              intro K0 hK
              obtain ⟨⟨z0, z1⟩, y0, y1⟩ := two_of (SK10.out.has (Has.l (has_blk _ _ _)))
              go_simp
              have SB12 := Lib.hid (own_2 SK10.out (.int .i64 zh) (.int .u64 zl))
              clear SK10 z0 z1 y0 y1
              generalize World.setCell (World.setCell wk10 _ _) _ _ = wb12 at *
              refine hK.out _ _ ?_ (fun hHeld => ?_)
              · exact ⟨(two_of (SB12.out.has (Has.r (Has.r (Has.l (has_blk _ _ _)))))).1.1, (two_of (SB12.out.has (Has.r (Has.r (Has.l (has_blk _ _ _)))))).1.2, (two_of (SB12.out.has (Has.r (Has.l (has_blk _ _ _))))).1.1, (two_of (SB12.out.has (Has.r (Has.l (has_blk _ _ _))))).1.2⟩
              clear hK K0
              (try simp only [Act.put, List.setIfInBounds_toArray, List.set_cons_zero, List.set_cons_succ])
              (try clear hH2)
              refine wpAnyH_done (by kernel_rfl) ?_ _
              go_wp2_with fail
              exact bodyPost_ret (resW rfl rfl (SB12.out.has (Has.l (has_blk _ _ _)))) rfl ⟨rfl, SB12.out.bel⟩

end Go.Proofs.Ytoofoalpffoheaa.Pn
