/- PlanSums walked. -/
import Derived.Test.YtoofoalpffoheaaPnJ
namespace Go.Proofs.Ytoofoalpffoheaa.Pn
open Go.ChangeShapes Go.WideShapes Go.ChangeAt Go.RowKit Go.PlainAid Aid Wd
set_option linter.unusedVariables false
set_option linter.unusedSimpArgs false
theorem ext_l (l : List UInt8) (i j : Nat) : (ofL l).extract i j = ofL ((l.drop i).take (j - i)) := by
  apply ByteArray.ext
  rw [ByteArray.data_extract]
  show (l.toArray).extract i j = ((l.drop i).take (j - i)).toArray
  simp [List.extract_eq_take_drop]
theorem read_codeW (x : W1) : readZ (ofL (codeW x)) = x := read_code x
theorem codesW_cut : ∀ (l : List W1) (k : Nat) (x : W1), l[k]? = some x → ((codesW l).drop (16 * k)).take 16 = codeW x
  | a :: l, 0, x, h => by
    obtain rfl : a = x := by simpa using h
    have e : codesW (a :: l) = codeW a ++ codesW l := rfl
    rw [e, Nat.mul_zero, List.drop_zero, List.take_append_of_le_length (by rw [codeW_len]; omega), List.take_of_length_le (by rw [codeW_len]; omega)]
  | a :: l, k + 1, x, h => by
    have e : codesW (a :: l) = codeW a ++ codesW l := rfl
    have ih := codesW_cut l k x (by simpa using h)
    rw [e, show 16 * (k + 1) = (codeW a).length + 16 * k by rw [codeW_len]; omega, List.drop_append, List.drop_eq_nil_of_le (by omega), List.nil_append, show (codeW a).length + 16 * k - (codeW a).length = 16 * k by omega]
    exact ih
theorem totB_c (c : W1) (l : List W1) : readZ ((ofL (totB c l)).extract 0 16) = c := by
  rw [ext_l, List.drop_zero]
  unfold totB
  rw [List.take_append_of_le_length (by rw [codeW_len]; omega), List.take_of_length_le (by rw [codeW_len]; omega), read_codeW]
theorem totB_l (c : W1) (l : List W1) : rdL (ofL (totB c l)) l.length = l := by
  apply List.ext_getElem?
  intro k
  by_cases hk : k < l.length
  · obtain ⟨x, hx⟩ : ∃ x, l[k]? = some x := ⟨_, List.getElem?_eq_getElem hk⟩
    rw [rdL_at _ hk, hx, ext_l]
    unfold totB
    rw [show 16 * (k + 1) = (codeW c).length + 16 * k by rw [codeW_len]; omega, List.drop_append, show (codeW c).length + 16 * k + 16 - ((codeW c).length + 16 * k) = 16 by omega]
    have := codesW_cut l k x hx
    rw [show (codeW c).drop ((codeW c).length + 16 * k) = [] from List.drop_eq_nil_of_le (by omega), List.nil_append, show (codeW c).length + 16 * k - (codeW c).length = 16 * k by omega, this, read_codeW]
  · rw [List.getElem?_eq_none (by rw [rdL_len]; omega), List.getElem?_eq_none (by omega)]
theorem totB_size (c : W1) (l : List W1) : (ofL (totB c l)).size = 16 * (1 + l.length) := by
  show (totB c l).length = _
  unfold totB
  rw [List.length_append, codeW_len, codesW_len]
  omega
theorem sumL_comm (a b : List W1) : sumL a b = sumL b a := by
  unfold sumL
  rw [List.zipWith_comm]
  congr 1
  funext x y
  exact BitVec.add_comm _ _
theorem sumL_assoc : ∀ (a b c : List W1), sumL (sumL a b) c = sumL a (sumL b c)
  | [], _, _ => rfl
  | _ :: _, [], _ => rfl
  | _ :: _, _ :: _, [] => rfl
  | x :: a, y :: b, z :: c => by
    have ih := sumL_assoc a b c
    show (x + y + z) :: sumL (sumL a b) c = (x + (y + z)) :: sumL a (sumL b c)
    rw [ih, BitVec.add_assoc]
theorem sumL_zer : ∀ (a : List W1), sumL a (zer a.length) = a
  | [] => rfl
  | x :: a => by
    have ih := sumL_zer a
    show (x + 0) :: sumL a (zer a.length) = x :: a
    rw [ih, show x + 0 = x from BitVec.add_zero x]
def Sh (l : List W1) : Prop := l.length ≤ 1000
theorem sums_big (va vb vc : Value) (ca cb cc : W1) (la lb lc : List W1) (w : World) (ha : IsTot w va ca la) (hb : IsTot w vb cb lb) (hc : IsTot w vc cc lc) (h : ¬ (la.length ≤ 2 ∧ lb.length = la.length ∧ lc.length = la.length)) :
    Calls Try.prog 4 #[va, vb, vc] w fun e w' => e = .returned (.bool true) ∧ Below w.heap.size w w' := by
  have hs : ∀ (W : World) (o : Obj), (W.alloc o).heap.size = W.heap.size + 1 := fun W o => by simp
  obtain ⟨A, p, rfl, -⟩ := ha
  obtain ⟨B, q, rfl, -⟩ := hb
  obtain ⟨C, r, rfl, -⟩ := hc
  unfold totV
  generalize hi ca = ah, lo ca = al, hi cb = bh, lo cb = bl, hi cc = ch, lo cc = cl
  go_enter Try.func4, Try.ntmps4
  go_upto_region 1 with fail
  have S0 := (((Own.none w).alloc #[.int .i64 ah, .int .u64 al, .slice A la.length p] 27).alloc #[.int .i64 bh, .int .u64 bl, .slice B lb.length q] 27).alloc #[.int .i64 ch, .int .u64 cl, .slice C lc.length r] 27
  simp only [hs] at S0
  obtain ⟨gx, hg⟩ : ∃ n, n = w.heap.size := ⟨_, rfl⟩
  rw [← hg] at S0 ⊢
  clear hg
  obtain ⟨gc, hg⟩ : ∃ g, g = gx + 1 + 1 := ⟨_, rfl⟩
  rw [← hg] at S0 ⊢
  clear hg
  obtain ⟨gb, hg⟩ : ∃ g, g = gx + 1 := ⟨_, rfl⟩
  rw [← hg] at S0 ⊢
  clear hg
  obtain ⟨ga, hg⟩ : ∃ g, g = gx := ⟨_, rfl⟩
  rw [← hg] at S0 ⊢
  clear hg hs
  generalize World.alloc (World.alloc (World.alloc w _) _) _ = w1 at *
  by_cases h2 : 2 < la.length
  · as_aux_lemma =>
      have h2I : 2 < (la.length : Int) := by omega
      go_wp2_with fail
      refine (awake_any _).mono ?_
      rintro e w2 ⟨rfl, hX⟩
      have S1 := Lib.hid (S0.below hX)
      clear hX S0
      obtain ⟨c0, c1, c2⟩ := tot_cells (S1.out.has (Has.l (has_blk _ _ _)))
      obtain ⟨b0, b1, b2⟩ := tot_cells (S1.out.has (Has.r (Has.l (has_blk _ _ _))))
      obtain ⟨a0, a1, a2⟩ := tot_cells (S1.out.has (Has.r (Has.r (Has.l (has_blk _ _ _)))))
      go_wp2_with fail
      go_returns
      exact ⟨rfl, S1.out.bel⟩
  by_cases hb : lb.length = la.length
  · by_cases hc : lc.length = la.length
    · exact absurd ⟨by omega, hb, hc⟩ h
    · as_aux_lemma =>
        have h2I : ¬ 2 < (la.length : Int) := by omega
        have hbI : ((lb.length : Int) != (la.length : Int)) = false := by rw [bne_eq_false_iff_eq]; omega
        have hcI : ((lc.length : Int) != (la.length : Int)) = true := bne_iff_ne.2 (by omega)
        go_wp2_with fail
        refine (awake_any _).mono ?_
        rintro e w2 ⟨rfl, hX⟩
        have S1 := Lib.hid (S0.below hX)
        clear hX S0
        obtain ⟨c0, c1, c2⟩ := tot_cells (S1.out.has (Has.l (has_blk _ _ _)))
        obtain ⟨b0, b1, b2⟩ := tot_cells (S1.out.has (Has.r (Has.l (has_blk _ _ _))))
        obtain ⟨a0, a1, a2⟩ := tot_cells (S1.out.has (Has.r (Has.r (Has.l (has_blk _ _ _)))))
        go_wp2_with fail
        go_returns
        exact ⟨rfl, S1.out.bel⟩
  · as_aux_lemma =>
      have h2I : ¬ 2 < (la.length : Int) := by omega
      have hbI : ((lb.length : Int) != (la.length : Int)) = true := bne_iff_ne.2 (by omega)
      go_wp2_with fail
      refine (awake_any _).mono ?_
      rintro e w2 ⟨rfl, hX⟩
      have S1 := Lib.hid (S0.below hX)
      clear hX S0
      obtain ⟨c0, c1, c2⟩ := tot_cells (S1.out.has (Has.l (has_blk _ _ _)))
      obtain ⟨b0, b1, b2⟩ := tot_cells (S1.out.has (Has.r (Has.l (has_blk _ _ _))))
      obtain ⟨a0, a1, a2⟩ := tot_cells (S1.out.has (Has.r (Has.r (Has.l (has_blk _ _ _)))))
      go_wp2_with fail
      go_returns
      exact ⟨rfl, S1.out.bel⟩
set_option maxRecDepth 100000 in
set_option maxHeartbeats 8000000 in
theorem sums_any (va vb vc : Value) (ca cb cc : W1) (la lb lc : List W1) (w : World) (h2 : la.length ≤ 2) (hlb : lb.length = la.length) (hlc : lc.length = la.length) (ha : IsTot w va ca la) (hb : IsTot w vb cb lb) (hc : IsTot w vc cc lc) :
    Calls Try.prog 4 #[va, vb, vc] w fun e w' => e = .returned (.bool true) ∧ Below w.heap.size w w' := by
  have hs : ∀ (W : World) (o : Obj), (W.alloc o).heap.size = W.heap.size + 1 := fun W o => by simp
  have TA := Lib.hid ha
  have TB := Lib.hid hb
  have TC := Lib.hid hc
  obtain ⟨A, p, rfl, -⟩ := ha
  obtain ⟨B, q, rfl, -⟩ := hb
  obtain ⟨C, r, rfl, -⟩ := hc
  have HLa := Lib.hid (show Sh la from by unfold Sh; omega)
  have HLb := Lib.hid (show Sh lb from by unfold Sh; omega)
  have HLc := Lib.hid (show Sh lc from by unfold Sh; omega)
  have HTo := Lib.hid (fun v w (h : IsTot w v ca la) => Total_any v ca la w (by omega) h)
  have HRd := Lib.hid (fun w => ReadTotal_yes (ofL (totB ca la)) la.length w h2 (totB_size ca la))
  rw [totB_c, totB_l] at HRd
  have HNo := Lib.hid (fun w => Nothing_any (la.length : Int) w)
  rw [show cut2 (la.length : Int) = la.length from by unfold cut2; split <;> (try split) <;> omega] at HNo
  have HE1 := Lib.hid (sumL_comm lb la)
  have HE2 := Lib.hid (sumL_assoc la lb lc)
  have HE3 := Lib.hid (sumL_zer la)
  have HLab := Lib.hid (show Sh (sumL la lb) from by unfold Sh; rw [sumL_len]; omega)
  have HLbc := Lib.hid (show Sh (sumL lb lc) from by unfold Sh; rw [sumL_len]; omega)
  have HLabc := Lib.hid (show Sh (sumL la (sumL lb lc)) from by unfold Sh; rw [sumL_len]; omega)
  have HLz := Lib.hid (show Sh (zer la.length) from by unfold Sh; unfold zer; rw [List.length_replicate]; omega)
  unfold totV at *
  rw [hlb, hlc] at *
  generalize ofL (totB ca la) = sa at *
  generalize hn : la.length = n at *
  generalize hi ca = ah, lo ca = al, hi cb = bh, lo cb = bl, hi cc = ch, lo cc = cl at *
  clear hlb hlc
  have HN := Lib.hid hn
  clear hn
  have h2I : ¬ 2 < (n : Int) := by omega
  go_enter Try.func4, Try.ntmps4
  go_upto_region 1 with fail
  have S0 := (((Own.none w).alloc #[.int .i64 ah, .int .u64 al, .slice A n p] 27).alloc #[.int .i64 bh, .int .u64 bl, .slice B n q] 27).alloc #[.int .i64 ch, .int .u64 cl, .slice C n r] 27
  simp only [hs] at S0
  obtain ⟨gx, hg⟩ : ∃ n, n = w.heap.size := ⟨_, rfl⟩
  rw [← hg] at S0 ⊢
  clear hg
  obtain ⟨gc, hg⟩ : ∃ g, g = gx + 1 + 1 := ⟨_, rfl⟩
  rw [← hg] at S0 ⊢
  clear hg
  obtain ⟨gb, hg⟩ : ∃ g, g = gx + 1 := ⟨_, rfl⟩
  rw [← hg] at S0 ⊢
  clear hg
  obtain ⟨ga, hg⟩ : ∃ g, g = gx := ⟨_, rfl⟩
  rw [← hg] at S0 ⊢
  clear hg hs
  generalize World.alloc (World.alloc (World.alloc w _) _) _ = w1 at *
  as_aux_lemma =>
    go_wp2_with fail
    refine (awake_any _).mono ?_
    rintro e w2 ⟨rfl, hX⟩
    have S1 := Lib.hid (S0.below hX)
    clear hX S0
    obtain ⟨c0, c1, c2⟩ := tot_cells (S1.out.has (Has.l (has_blk _ _ _)))
    obtain ⟨b0, b1, b2⟩ := tot_cells (S1.out.has (Has.r (Has.l (has_blk _ _ _))))
    obtain ⟨a0, a1, a2⟩ := tot_cells (S1.out.has (Has.r (Has.r (Has.l (has_blk _ _ _)))))
    go_wp2_with fail
    refine (HTo.out _ _ (TA.out.keep S1.out.bel)).mono ?_
    rintro e w3 ⟨rfl, hX⟩
    have S2 := Lib.hid (S1.out.below hX)
    clear hX S1 HTo
    go_wp2_with fail
    refine (HRd.out _).mono ?_
    rintro e w4 ⟨v, rfl, hX, hT⟩
    have S3 := Lib.hid (S2.out.below hX)
    clear hX S2 HRd a0 a1 a2 b0 b1 b2 c0 c1 c2
    obtain ⟨D, s, rfl, -⟩ := id hT
    have TT := Lib.hid hT
    clear hT
    unfold totV at *
    rw [HN.out] at *
    generalize hi ca = th, lo ca = tl at *
    go_upto_region 7 with fail
    have S4 := Lib.hid (S3.out.alloc #[.int .i64 th, .int .u64 tl, .slice D n s] 27)
    have TT4 := Lib.hid (TT.out.keep (show Below w4.heap.size w4 (w4.alloc (.cells #[.int .i64 th, .int .u64 tl, .slice D n s] 27)) from blA (Below.refl _ _) _))
    obtain ⟨gt, hgz⟩ : ∃ g, g = w4.heap.size := ⟨_, rfl⟩
    rw [← hgz] at S4 ⊢
    clear hgz S3 TT
    generalize World.alloc w4 _ = w5 at *
    have S5 := Lib.hid S4.out.drew
    have TT_5 : Hid (IsTot w5.drew (.agg #[.int .i64 th, .int .u64 tl, .slice D n s]) ca la) := TT4
    clear S4 TT4
    refine wp_region_held_drew (S := fun W : World => W.cell? ⟨ga, 0, none⟩ = some (.int .i64 ah) ∧ W.cell? ⟨ga, 1, none⟩ = some (.int .u64 al) ∧ W.cell? ⟨ga, 2, none⟩ = some (.slice A n p) ∧ W.cell? ⟨gb, 0, none⟩ = some (.int .i64 bh) ∧ W.cell? ⟨gb, 1, none⟩ = some (.int .u64 bl) ∧ W.cell? ⟨gb, 2, none⟩ = some (.slice B n q) ∧ W.cell? ⟨gc, 0, none⟩ = some (.int .i64 ch) ∧ W.cell? ⟨gc, 1, none⟩ = some (.int .u64 cl) ∧ W.cell? ⟨gc, 2, none⟩ = some (.slice C n r) ∧ W.cell? ⟨gt, 0, none⟩ = some (.int .i64 th) ∧ W.cell? ⟨gt, 1, none⟩ = some (.int .u64 tl) ∧ W.cell? ⟨gt, 2, none⟩ = some (.slice D n s)) (by kernel_rfl) (⟨(tot_cells (S5.out.has (Has.r (Has.r (Has.r (Has.l (has_blk _ _ _))))))).1, (tot_cells (S5.out.has (Has.r (Has.r (Has.r (Has.l (has_blk _ _ _))))))).2.1, (tot_cells (S5.out.has (Has.r (Has.r (Has.r (Has.l (has_blk _ _ _))))))).2.2, (tot_cells (S5.out.has (Has.r (Has.r (Has.l (has_blk _ _ _)))))).1, (tot_cells (S5.out.has (Has.r (Has.r (Has.l (has_blk _ _ _)))))).2.1, (tot_cells (S5.out.has (Has.r (Has.r (Has.l (has_blk _ _ _)))))).2.2, (tot_cells (S5.out.has (Has.r (Has.l (has_blk _ _ _))))).1, (tot_cells (S5.out.has (Has.r (Has.l (has_blk _ _ _))))).2.1, (tot_cells (S5.out.has (Has.r (Has.l (has_blk _ _ _))))).2.2, (tot_cells (S5.out.has (Has.l (has_blk _ _ _)))).1, (tot_cells (S5.out.has (Has.l (has_blk _ _ _)))).2.1, (tot_cells (S5.out.has (Has.l (has_blk _ _ _)))).2.2⟩) (fun hHeld => ?_)
    generalize w5.drew = w6 at *
    refine' wpAnyH_take (i := 0) (oi := ?ot1z0) (v := ?vt1z0) ?ht1z0 ?st1z0 ?ft1z0 ?zt1z0 ?qt1z0 ?yt1z0 ?at1z0 ?rt1z0
    case ht1z0 => (simp only [List.getElem?_toArray, List.getElem?_cons_succ, List.getElem?_cons_zero]; rfl)
    case st1z0 => kernel_rfl
    case ft1z0 => kernel_rfl
    case zt1z0 => kernel_rfl
    case qt1z0 => exact fun _ _ _ h => h
    case yt1z0 => (refine Or.inl ⟨rfl, ?_⟩; intro w hSw; obtain ⟨s0, s1, s2, s3, s4, s5, s6, s7, s8, s9, s10, s11⟩ := hSw; go_simp; try with_reducible rfl)
    case at1z0 => assumption
    case rt1z0 =>
    simp only [Act.put, List.setIfInBounds_toArray, List.set_cons_zero, List.set_cons_succ]
    refine' wpAnyH_take (i := 1) (oi := ?ot2z1) (v := ?vt2z1) ?ht2z1 ?st2z1 ?ft2z1 ?zt2z1 ?qt2z1 ?yt2z1 ?at2z1 ?rt2z1
    case ht2z1 => (simp only [List.getElem?_toArray, List.getElem?_cons_succ, List.getElem?_cons_zero]; rfl)
    case st2z1 => kernel_rfl
    case ft2z1 => kernel_rfl
    case zt2z1 => kernel_rfl
    case qt2z1 => exact fun _ _ _ h => h
    case yt2z1 => (refine Or.inl ⟨rfl, ?_⟩; intro w hSw; obtain ⟨s0, s1, s2, s3, s4, s5, s6, s7, s8, s9, s10, s11⟩ := hSw; go_simp; try with_reducible rfl)
    case at2z1 => assumption
    case rt2z1 =>
    simp only [Act.put, List.setIfInBounds_toArray, List.set_cons_zero, List.set_cons_succ]
    refine' wpAnyH_take (i := 2) (oi := ?ot3z2) (v := ?vt3z2) ?ht3z2 ?st3z2 ?ft3z2 ?zt3z2 ?qt3z2 ?yt3z2 ?at3z2 ?rt3z2
    case ht3z2 => (simp only [List.getElem?_toArray, List.getElem?_cons_succ, List.getElem?_cons_zero]; rfl)
    case st3z2 => kernel_rfl
    case ft3z2 => kernel_rfl
    case zt3z2 => kernel_rfl
    case qt3z2 => exact fun _ _ _ h => h
    case yt3z2 => (refine Or.inl ⟨rfl, ?_⟩; intro w hSw; obtain ⟨s0, s1, s2, s3, s4, s5, s6, s7, s8, s9, s10, s11⟩ := hSw; go_simp; try with_reducible rfl)
    case at3z2 => assumption
    case rt3z2 =>
    simp only [Act.put, List.setIfInBounds_toArray, List.set_cons_zero, List.set_cons_succ]
    refine' wpAnyH_take (i := 3) (oi := ?ot4z3) (v := ?vt4z3) ?ht4z3 ?st4z3 ?ft4z3 ?zt4z3 ?qt4z3 ?yt4z3 ?at4z3 ?rt4z3
    case ht4z3 => (simp only [List.getElem?_toArray, List.getElem?_cons_succ, List.getElem?_cons_zero]; rfl)
    case st4z3 => kernel_rfl
    case ft4z3 => kernel_rfl
    case zt4z3 => kernel_rfl
    case qt4z3 => exact fun _ _ _ h => h
    case yt4z3 => (refine Or.inl ⟨rfl, ?_⟩; intro w hSw; obtain ⟨s0, s1, s2, s3, s4, s5, s6, s7, s8, s9, s10, s11⟩ := hSw; go_simp; try with_reducible rfl)
    case at4z3 => assumption
    case rt4z3 =>
    simp only [Act.put, List.setIfInBounds_toArray, List.set_cons_zero, List.set_cons_succ]
    refine' wpAnyH_take (i := 4) (oi := ?ot5z4) (v := ?vt5z4) ?ht5z4 ?st5z4 ?ft5z4 ?zt5z4 ?qt5z4 ?yt5z4 ?at5z4 ?rt5z4
    case ht5z4 => (simp only [List.getElem?_toArray, List.getElem?_cons_succ, List.getElem?_cons_zero]; rfl)
    case st5z4 => kernel_rfl
    case ft5z4 => kernel_rfl
    case zt5z4 => kernel_rfl
    case qt5z4 => exact fun _ _ _ h => h
    case yt5z4 => (refine Or.inl ⟨rfl, ?_⟩; intro w hSw; obtain ⟨s0, s1, s2, s3, s4, s5, s6, s7, s8, s9, s10, s11⟩ := hSw; go_simp; try with_reducible rfl)
    case at5z4 => assumption
    case rt5z4 =>
    simp only [Act.put, List.setIfInBounds_toArray, List.set_cons_zero, List.set_cons_succ]
    refine wpAnyH_ready (rs := [5]) (by kernel_rfl) (by simp) ?_
    refine' AllReadyH.cons (o := ?ob6z5) ?hb6z5 ?kb6z5 AllReadyH.nil
    case hb6z5 => (simp only [List.getElem?_toArray, List.getElem?_cons_succ, List.getElem?_cons_zero]; rfl)
    case kb6z5 =>
      intro K0 hK
      go_simp
      refine (refSame_eq _ _ ca la _ HLa.out TT_5.out (TA.out.keep S5.out.bel)).mono ?_
      rintro er wk7 ⟨rfl, hX⟩
      have SK7 := Lib.hid (S5.out.below hX)
      have TT_7 := Lib.hid (TT_5.out.keep hX)
      clear hX S5 TT_5
      refine hK.out _ _ ?_ (fun hHeld => ?_)
      · exact ⟨(tot_cells (SK7.out.has (Has.r (Has.r (Has.r (Has.l (has_blk _ _ _))))))).1, (tot_cells (SK7.out.has (Has.r (Has.r (Has.r (Has.l (has_blk _ _ _))))))).2.1, (tot_cells (SK7.out.has (Has.r (Has.r (Has.r (Has.l (has_blk _ _ _))))))).2.2, (tot_cells (SK7.out.has (Has.r (Has.r (Has.l (has_blk _ _ _)))))).1, (tot_cells (SK7.out.has (Has.r (Has.r (Has.l (has_blk _ _ _)))))).2.1, (tot_cells (SK7.out.has (Has.r (Has.r (Has.l (has_blk _ _ _)))))).2.2, (tot_cells (SK7.out.has (Has.r (Has.l (has_blk _ _ _))))).1, (tot_cells (SK7.out.has (Has.r (Has.l (has_blk _ _ _))))).2.1, (tot_cells (SK7.out.has (Has.r (Has.l (has_blk _ _ _))))).2.2, (tot_cells (SK7.out.has (Has.l (has_blk _ _ _)))).1, (tot_cells (SK7.out.has (Has.l (has_blk _ _ _)))).2.1, (tot_cells (SK7.out.has (Has.l (has_blk _ _ _)))).2.2⟩
      clear hK K0
      (try simp only [Act.put, List.setIfInBounds_toArray, List.set_cons_zero, List.set_cons_succ])
      (try clear hH2)
      refine' wpAnyH_take (i := 6) (oi := ?ot8z6) (v := ?vt8z6) ?ht8z6 ?st8z6 ?ft8z6 ?zt8z6 ?qt8z6 ?yt8z6 ?at8z6 ?rt8z6
      case ht8z6 => (simp only [List.getElem?_toArray, List.getElem?_cons_succ, List.getElem?_cons_zero]; rfl)
      case st8z6 => kernel_rfl
      case ft8z6 => kernel_rfl
      case zt8z6 => kernel_rfl
      case qt8z6 => exact fun _ _ _ h => h
      case yt8z6 => (refine Or.inl ⟨rfl, ?_⟩; intro w hSw; obtain ⟨s0, s1, s2, s3, s4, s5, s6, s7, s8, s9, s10, s11⟩ := hSw; go_simp; try with_reducible rfl)
      case at8z6 => assumption
      case rt8z6 =>
      simp only [Act.put, List.setIfInBounds_toArray, List.set_cons_zero, List.set_cons_succ]
      refine' wpAnyH_take (i := 7) (oi := ?ot9z7) (v := ?vt9z7) ?ht9z7 ?st9z7 ?ft9z7 ?zt9z7 ?qt9z7 ?yt9z7 ?at9z7 ?rt9z7
      case ht9z7 => (simp only [List.getElem?_toArray, List.getElem?_cons_succ, List.getElem?_cons_zero]; rfl)
      case st9z7 => kernel_rfl
      case ft9z7 => kernel_rfl
      case zt9z7 => kernel_rfl
      case qt9z7 => exact fun _ _ _ h => h
      case yt9z7 => (refine Or.inl ⟨rfl, ?_⟩; intro w hSw; obtain ⟨s0, s1, s2, s3, s4, s5, s6, s7, s8, s9, s10, s11⟩ := hSw; go_simp; try with_reducible rfl)
      case at9z7 => assumption
      case rt9z7 =>
      simp only [Act.put, List.setIfInBounds_toArray, List.set_cons_zero, List.set_cons_succ]
      refine' wpAnyH_take (i := 8) (oi := ?ot10z8) (v := ?vt10z8) ?ht10z8 ?st10z8 ?ft10z8 ?zt10z8 ?qt10z8 ?yt10z8 ?at10z8 ?rt10z8
      case ht10z8 => (simp only [List.getElem?_toArray, List.getElem?_cons_succ, List.getElem?_cons_zero]; rfl)
      case st10z8 => kernel_rfl
      case ft10z8 => kernel_rfl
      case zt10z8 => kernel_rfl
      case qt10z8 => exact fun _ _ _ h => h
      case yt10z8 => (refine Or.inl ⟨rfl, ?_⟩; intro w hSw; obtain ⟨s0, s1, s2, s3, s4, s5, s6, s7, s8, s9, s10, s11⟩ := hSw; go_simp; try with_reducible rfl)
      case at10z8 => assumption
      case rt10z8 =>
      simp only [Act.put, List.setIfInBounds_toArray, List.set_cons_zero, List.set_cons_succ]
      refine' wpAnyH_take (i := 9) (oi := ?ot11z9) (v := ?vt11z9) ?ht11z9 ?st11z9 ?ft11z9 ?zt11z9 ?qt11z9 ?yt11z9 ?at11z9 ?rt11z9
      case ht11z9 => (simp only [List.getElem?_toArray, List.getElem?_cons_succ, List.getElem?_cons_zero]; rfl)
      case st11z9 => kernel_rfl
      case ft11z9 => kernel_rfl
      case zt11z9 => kernel_rfl
      case qt11z9 => exact fun _ _ _ h => h
      case yt11z9 => (refine Or.inl ⟨rfl, ?_⟩; intro w hSw; obtain ⟨s0, s1, s2, s3, s4, s5, s6, s7, s8, s9, s10, s11⟩ := hSw; go_simp; try with_reducible rfl)
      case at11z9 => assumption
      case rt11z9 =>
      simp only [Act.put, List.setIfInBounds_toArray, List.set_cons_zero, List.set_cons_succ]
      refine' wpAnyH_take (i := 11) (oi := ?ot12z11) (v := ?vt12z11) ?ht12z11 ?st12z11 ?ft12z11 ?zt12z11 ?qt12z11 ?yt12z11 ?at12z11 ?rt12z11
      case ht12z11 => (simp only [List.getElem?_toArray, List.getElem?_cons_succ, List.getElem?_cons_zero]; rfl)
      case st12z11 => kernel_rfl
      case ft12z11 => kernel_rfl
      case zt12z11 => kernel_rfl
      case qt12z11 => exact fun _ _ _ h => h
      case yt12z11 => (refine Or.inl ⟨rfl, ?_⟩; intro w hSw; obtain ⟨s0, s1, s2, s3, s4, s5, s6, s7, s8, s9, s10, s11⟩ := hSw; go_simp; try with_reducible rfl)
      case at12z11 => assumption
      case rt12z11 =>
      simp only [Act.put, List.setIfInBounds_toArray, List.set_cons_zero, List.set_cons_succ]
      refine' wpAnyH_take (i := 12) (oi := ?ot13z12) (v := ?vt13z12) ?ht13z12 ?st13z12 ?ft13z12 ?zt13z12 ?qt13z12 ?yt13z12 ?at13z12 ?rt13z12
      case ht13z12 => (simp only [List.getElem?_toArray, List.getElem?_cons_succ, List.getElem?_cons_zero]; rfl)
      case st13z12 => kernel_rfl
      case ft13z12 => kernel_rfl
      case zt13z12 => kernel_rfl
      case qt13z12 => exact fun _ _ _ h => h
      case yt13z12 => (refine Or.inl ⟨rfl, ?_⟩; intro w hSw; obtain ⟨s0, s1, s2, s3, s4, s5, s6, s7, s8, s9, s10, s11⟩ := hSw; go_simp; try with_reducible rfl)
      case at13z12 => assumption
      case rt13z12 =>
      simp only [Act.put, List.setIfInBounds_toArray, List.set_cons_zero, List.set_cons_succ]
      refine wpAnyH_ready (rs := [10]) (by kernel_rfl) (by simp) ?_
      refine' AllReadyH.cons (o := ?ob14z10) ?hb14z10 ?kb14z10 AllReadyH.nil
      case hb14z10 => (simp only [List.getElem?_toArray, List.getElem?_cons_succ, List.getElem?_cons_zero]; rfl)
      case kb14z10 =>
        intro K0 hK
        go_simp
        refine (AddT_any _ _ ca cb la lb _ HLa.out HLb.out (TA.out.keep SK7.out.bel) (TB.out.keep SK7.out.bel)).mono ?_
        rintro er wk15 ⟨v15, rfl, hX, hT⟩
        have SK15 := Lib.hid (SK7.out.below hX)
        have TT_15 := Lib.hid (TT_7.out.keep hX)
        have TP_15 := Lib.hid hT
        clear hT
        clear hX SK7 TT_7
        refine hK.out _ _ ?_ (fun hHeld => ?_)
        · exact ⟨(tot_cells (SK15.out.has (Has.r (Has.r (Has.r (Has.l (has_blk _ _ _))))))).1, (tot_cells (SK15.out.has (Has.r (Has.r (Has.r (Has.l (has_blk _ _ _))))))).2.1, (tot_cells (SK15.out.has (Has.r (Has.r (Has.r (Has.l (has_blk _ _ _))))))).2.2, (tot_cells (SK15.out.has (Has.r (Has.r (Has.l (has_blk _ _ _)))))).1, (tot_cells (SK15.out.has (Has.r (Has.r (Has.l (has_blk _ _ _)))))).2.1, (tot_cells (SK15.out.has (Has.r (Has.r (Has.l (has_blk _ _ _)))))).2.2, (tot_cells (SK15.out.has (Has.r (Has.l (has_blk _ _ _))))).1, (tot_cells (SK15.out.has (Has.r (Has.l (has_blk _ _ _))))).2.1, (tot_cells (SK15.out.has (Has.r (Has.l (has_blk _ _ _))))).2.2, (tot_cells (SK15.out.has (Has.l (has_blk _ _ _)))).1, (tot_cells (SK15.out.has (Has.l (has_blk _ _ _)))).2.1, (tot_cells (SK15.out.has (Has.l (has_blk _ _ _)))).2.2⟩
        clear hK K0
        (try simp only [Act.put, List.setIfInBounds_toArray, List.set_cons_zero, List.set_cons_succ])
        (try clear hH2)
        refine wpAnyH_ready (rs := [13]) (by kernel_rfl) (by simp) ?_
        refine' AllReadyH.cons (o := ?ob16z13) ?hb16z13 ?kb16z13 AllReadyH.nil
        case hb16z13 => (simp only [List.getElem?_toArray, List.getElem?_cons_succ, List.getElem?_cons_zero]; rfl)
        case kb16z13 =>
          intro K0 hK
          go_simp
          refine (AddT_any _ _ cb ca lb la _ HLb.out HLa.out (TB.out.keep SK15.out.bel) (TA.out.keep SK15.out.bel)).mono ?_
          rintro er wk17 ⟨v17, rfl, hX, hT⟩
          rw [BitVec.add_comm cb ca, HE1.out] at hT
          have SK17 := Lib.hid (SK15.out.below hX)
          have TT_17 := Lib.hid (TT_15.out.keep hX)
          have TP_17 := Lib.hid (TP_15.out.keep hX)
          have TQ_17 := Lib.hid hT
          clear hT
          clear hX SK15 TT_15 TP_15
          refine hK.out _ _ ?_ (fun hHeld => ?_)
          · exact ⟨(tot_cells (SK17.out.has (Has.r (Has.r (Has.r (Has.l (has_blk _ _ _))))))).1, (tot_cells (SK17.out.has (Has.r (Has.r (Has.r (Has.l (has_blk _ _ _))))))).2.1, (tot_cells (SK17.out.has (Has.r (Has.r (Has.r (Has.l (has_blk _ _ _))))))).2.2, (tot_cells (SK17.out.has (Has.r (Has.r (Has.l (has_blk _ _ _)))))).1, (tot_cells (SK17.out.has (Has.r (Has.r (Has.l (has_blk _ _ _)))))).2.1, (tot_cells (SK17.out.has (Has.r (Has.r (Has.l (has_blk _ _ _)))))).2.2, (tot_cells (SK17.out.has (Has.r (Has.l (has_blk _ _ _))))).1, (tot_cells (SK17.out.has (Has.r (Has.l (has_blk _ _ _))))).2.1, (tot_cells (SK17.out.has (Has.r (Has.l (has_blk _ _ _))))).2.2, (tot_cells (SK17.out.has (Has.l (has_blk _ _ _)))).1, (tot_cells (SK17.out.has (Has.l (has_blk _ _ _)))).2.1, (tot_cells (SK17.out.has (Has.l (has_blk _ _ _)))).2.2⟩
          clear hK K0
          (try simp only [Act.put, List.setIfInBounds_toArray, List.set_cons_zero, List.set_cons_succ])
          (try clear hH2)
          refine wpAnyH_ready (rs := [14]) (by kernel_rfl) (by simp) ?_
          refine' AllReadyH.cons (o := ?ob18z14) ?hb18z14 ?kb18z14 AllReadyH.nil
          case hb18z14 => (simp only [List.getElem?_toArray, List.getElem?_cons_succ, List.getElem?_cons_zero]; rfl)
          case kb18z14 =>
            intro K0 hK
            go_simp
            refine (refSame_eq _ _ (ca + cb) (sumL la lb) _ HLab.out TP_17.out TQ_17.out).mono ?_
            rintro er wk19 ⟨rfl, hX⟩
            have SK19 := Lib.hid (SK17.out.below hX)
            have TT_19 := Lib.hid (TT_17.out.keep hX)
            have TP_19 := Lib.hid (TP_17.out.keep hX)
            have TQ_19 := Lib.hid (TQ_17.out.keep hX)
            clear hX SK17 TT_17 TP_17 TQ_17
            refine hK.out _ _ ?_ (fun hHeld => ?_)
            · exact ⟨(tot_cells (SK19.out.has (Has.r (Has.r (Has.r (Has.l (has_blk _ _ _))))))).1, (tot_cells (SK19.out.has (Has.r (Has.r (Has.r (Has.l (has_blk _ _ _))))))).2.1, (tot_cells (SK19.out.has (Has.r (Has.r (Has.r (Has.l (has_blk _ _ _))))))).2.2, (tot_cells (SK19.out.has (Has.r (Has.r (Has.l (has_blk _ _ _)))))).1, (tot_cells (SK19.out.has (Has.r (Has.r (Has.l (has_blk _ _ _)))))).2.1, (tot_cells (SK19.out.has (Has.r (Has.r (Has.l (has_blk _ _ _)))))).2.2, (tot_cells (SK19.out.has (Has.r (Has.l (has_blk _ _ _))))).1, (tot_cells (SK19.out.has (Has.r (Has.l (has_blk _ _ _))))).2.1, (tot_cells (SK19.out.has (Has.r (Has.l (has_blk _ _ _))))).2.2, (tot_cells (SK19.out.has (Has.l (has_blk _ _ _)))).1, (tot_cells (SK19.out.has (Has.l (has_blk _ _ _)))).2.1, (tot_cells (SK19.out.has (Has.l (has_blk _ _ _)))).2.2⟩
            clear hK K0
            (try simp only [Act.put, List.setIfInBounds_toArray, List.set_cons_zero, List.set_cons_succ])
            (try clear hH2)
            refine' wpAnyH_take (i := 15) (oi := ?ot20z15) (v := ?vt20z15) ?ht20z15 ?st20z15 ?ft20z15 ?zt20z15 ?qt20z15 ?yt20z15 ?at20z15 ?rt20z15
            case ht20z15 => (simp only [List.getElem?_toArray, List.getElem?_cons_succ, List.getElem?_cons_zero]; rfl)
            case st20z15 => kernel_rfl
            case ft20z15 => kernel_rfl
            case zt20z15 => kernel_rfl
            case qt20z15 => exact fun _ _ _ h => h
            case yt20z15 => (refine Or.inl ⟨rfl, ?_⟩; intro w hSw; obtain ⟨s0, s1, s2, s3, s4, s5, s6, s7, s8, s9, s10, s11⟩ := hSw; go_simp; try with_reducible rfl)
            case at20z15 => assumption
            case rt20z15 =>
            simp only [Act.put, List.setIfInBounds_toArray, List.set_cons_zero, List.set_cons_succ]
            refine' wpAnyH_take (i := 16) (oi := ?ot21z16) (v := ?vt21z16) ?ht21z16 ?st21z16 ?ft21z16 ?zt21z16 ?qt21z16 ?yt21z16 ?at21z16 ?rt21z16
            case ht21z16 => (simp only [List.getElem?_toArray, List.getElem?_cons_succ, List.getElem?_cons_zero]; rfl)
            case st21z16 => kernel_rfl
            case ft21z16 => kernel_rfl
            case zt21z16 => kernel_rfl
            case qt21z16 => exact fun _ _ _ h => h
            case yt21z16 => (refine Or.inl ⟨rfl, ?_⟩; intro w hSw; obtain ⟨s0, s1, s2, s3, s4, s5, s6, s7, s8, s9, s10, s11⟩ := hSw; go_simp; try with_reducible rfl)
            case at21z16 => assumption
            case rt21z16 =>
            simp only [Act.put, List.setIfInBounds_toArray, List.set_cons_zero, List.set_cons_succ]
            refine' wpAnyH_take (i := 17) (oi := ?ot22z17) (v := ?vt22z17) ?ht22z17 ?st22z17 ?ft22z17 ?zt22z17 ?qt22z17 ?yt22z17 ?at22z17 ?rt22z17
            case ht22z17 => (simp only [List.getElem?_toArray, List.getElem?_cons_succ, List.getElem?_cons_zero]; rfl)
            case st22z17 => kernel_rfl
            case ft22z17 => kernel_rfl
            case zt22z17 => kernel_rfl
            case qt22z17 => exact fun _ _ _ h => h
            case yt22z17 => (refine Or.inl ⟨rfl, ?_⟩; intro w hSw; obtain ⟨s0, s1, s2, s3, s4, s5, s6, s7, s8, s9, s10, s11⟩ := hSw; go_simp; try with_reducible rfl)
            case at22z17 => assumption
            case rt22z17 =>
            simp only [Act.put, List.setIfInBounds_toArray, List.set_cons_zero, List.set_cons_succ]
            refine' wpAnyH_take (i := 18) (oi := ?ot23z18) (v := ?vt23z18) ?ht23z18 ?st23z18 ?ft23z18 ?zt23z18 ?qt23z18 ?yt23z18 ?at23z18 ?rt23z18
            case ht23z18 => (simp only [List.getElem?_toArray, List.getElem?_cons_succ, List.getElem?_cons_zero]; rfl)
            case st23z18 => kernel_rfl
            case ft23z18 => kernel_rfl
            case zt23z18 => kernel_rfl
            case qt23z18 => exact fun _ _ _ h => h
            case yt23z18 => (refine Or.inl ⟨rfl, ?_⟩; intro w hSw; obtain ⟨s0, s1, s2, s3, s4, s5, s6, s7, s8, s9, s10, s11⟩ := hSw; go_simp; try with_reducible rfl)
            case at23z18 => assumption
            case rt23z18 =>
            simp only [Act.put, List.setIfInBounds_toArray, List.set_cons_zero, List.set_cons_succ]
            refine' wpAnyH_take (i := 20) (oi := ?ot24z20) (v := ?vt24z20) ?ht24z20 ?st24z20 ?ft24z20 ?zt24z20 ?qt24z20 ?yt24z20 ?at24z20 ?rt24z20
            case ht24z20 => (simp only [List.getElem?_toArray, List.getElem?_cons_succ, List.getElem?_cons_zero]; rfl)
            case st24z20 => kernel_rfl
            case ft24z20 => kernel_rfl
            case zt24z20 => kernel_rfl
            case qt24z20 => exact fun _ _ _ h => h
            case yt24z20 => (refine Or.inl ⟨rfl, ?_⟩; intro w hSw; obtain ⟨s0, s1, s2, s3, s4, s5, s6, s7, s8, s9, s10, s11⟩ := hSw; go_simp; try with_reducible rfl)
            case at24z20 => assumption
            case rt24z20 =>
            simp only [Act.put, List.setIfInBounds_toArray, List.set_cons_zero, List.set_cons_succ]
            refine' wpAnyH_take (i := 22) (oi := ?ot25z22) (v := ?vt25z22) ?ht25z22 ?st25z22 ?ft25z22 ?zt25z22 ?qt25z22 ?yt25z22 ?at25z22 ?rt25z22
            case ht25z22 => (simp only [List.getElem?_toArray, List.getElem?_cons_succ, List.getElem?_cons_zero]; rfl)
            case st25z22 => kernel_rfl
            case ft25z22 => kernel_rfl
            case zt25z22 => kernel_rfl
            case qt25z22 => exact fun _ _ _ h => h
            case yt25z22 => (refine Or.inl ⟨rfl, ?_⟩; intro w hSw; obtain ⟨s0, s1, s2, s3, s4, s5, s6, s7, s8, s9, s10, s11⟩ := hSw; go_simp; try with_reducible rfl)
            case at25z22 => assumption
            case rt25z22 =>
            simp only [Act.put, List.setIfInBounds_toArray, List.set_cons_zero, List.set_cons_succ]
            refine' wpAnyH_take (i := 23) (oi := ?ot26z23) (v := ?vt26z23) ?ht26z23 ?st26z23 ?ft26z23 ?zt26z23 ?qt26z23 ?yt26z23 ?at26z23 ?rt26z23
            case ht26z23 => (simp only [List.getElem?_toArray, List.getElem?_cons_succ, List.getElem?_cons_zero]; rfl)
            case st26z23 => kernel_rfl
            case ft26z23 => kernel_rfl
            case zt26z23 => kernel_rfl
            case qt26z23 => exact fun _ _ _ h => h
            case yt26z23 => (refine Or.inl ⟨rfl, ?_⟩; intro w hSw; obtain ⟨s0, s1, s2, s3, s4, s5, s6, s7, s8, s9, s10, s11⟩ := hSw; go_simp; try with_reducible rfl)
            case at26z23 => assumption
            case rt26z23 =>
            simp only [Act.put, List.setIfInBounds_toArray, List.set_cons_zero, List.set_cons_succ]
            refine' wpAnyH_take (i := 24) (oi := ?ot27z24) (v := ?vt27z24) ?ht27z24 ?st27z24 ?ft27z24 ?zt27z24 ?qt27z24 ?yt27z24 ?at27z24 ?rt27z24
            case ht27z24 => (simp only [List.getElem?_toArray, List.getElem?_cons_succ, List.getElem?_cons_zero]; rfl)
            case st27z24 => kernel_rfl
            case ft27z24 => kernel_rfl
            case zt27z24 => kernel_rfl
            case qt27z24 => exact fun _ _ _ h => h
            case yt27z24 => (refine Or.inl ⟨rfl, ?_⟩; intro w hSw; obtain ⟨s0, s1, s2, s3, s4, s5, s6, s7, s8, s9, s10, s11⟩ := hSw; go_simp; try with_reducible rfl)
            case at27z24 => assumption
            case rt27z24 =>
            simp only [Act.put, List.setIfInBounds_toArray, List.set_cons_zero, List.set_cons_succ]
            refine wpAnyH_ready (rs := [19]) (by kernel_rfl) (by simp) ?_
            refine' AllReadyH.cons (o := ?ob28z19) ?hb28z19 ?kb28z19 AllReadyH.nil
            case hb28z19 => (simp only [List.getElem?_toArray, List.getElem?_cons_succ, List.getElem?_cons_zero]; rfl)
            case kb28z19 =>
              intro K0 hK
              go_simp
              refine (AddT_any _ _ ca cb la lb _ HLa.out HLb.out (TA.out.keep SK19.out.bel) (TB.out.keep SK19.out.bel)).mono ?_
              rintro er wk29 ⟨v29, rfl, hX, hT⟩
              have SK29 := Lib.hid (SK19.out.below hX)
              have TT_29 := Lib.hid (TT_19.out.keep hX)
              have TP_29 := Lib.hid (TP_19.out.keep hX)
              have TQ_29 := Lib.hid (TQ_19.out.keep hX)
              have TR_29 := Lib.hid hT
              clear hT
              clear hX SK19 TT_19 TP_19 TQ_19
              refine hK.out _ _ ?_ (fun hHeld => ?_)
              · exact ⟨(tot_cells (SK29.out.has (Has.r (Has.r (Has.r (Has.l (has_blk _ _ _))))))).1, (tot_cells (SK29.out.has (Has.r (Has.r (Has.r (Has.l (has_blk _ _ _))))))).2.1, (tot_cells (SK29.out.has (Has.r (Has.r (Has.r (Has.l (has_blk _ _ _))))))).2.2, (tot_cells (SK29.out.has (Has.r (Has.r (Has.l (has_blk _ _ _)))))).1, (tot_cells (SK29.out.has (Has.r (Has.r (Has.l (has_blk _ _ _)))))).2.1, (tot_cells (SK29.out.has (Has.r (Has.r (Has.l (has_blk _ _ _)))))).2.2, (tot_cells (SK29.out.has (Has.r (Has.l (has_blk _ _ _))))).1, (tot_cells (SK29.out.has (Has.r (Has.l (has_blk _ _ _))))).2.1, (tot_cells (SK29.out.has (Has.r (Has.l (has_blk _ _ _))))).2.2, (tot_cells (SK29.out.has (Has.l (has_blk _ _ _)))).1, (tot_cells (SK29.out.has (Has.l (has_blk _ _ _)))).2.1, (tot_cells (SK29.out.has (Has.l (has_blk _ _ _)))).2.2⟩
              clear hK K0
              (try simp only [Act.put, List.setIfInBounds_toArray, List.set_cons_zero, List.set_cons_succ])
              (try clear hH2)
              refine wpAnyH_ready (rs := [21]) (by kernel_rfl) (by simp) ?_
              refine' AllReadyH.cons (o := ?ob30z21) ?hb30z21 ?kb30z21 AllReadyH.nil
              case hb30z21 => (simp only [List.getElem?_toArray, List.getElem?_cons_succ, List.getElem?_cons_zero]; rfl)
              case kb30z21 =>
                intro K0 hK
                go_simp
                refine (AddT_any _ _ (ca + cb) cc (sumL la lb) lc _ HLab.out HLc.out TR_29.out (TC.out.keep SK29.out.bel)).mono ?_
                rintro er wk31 ⟨v31, rfl, hX, hT⟩
                rw [BitVec.add_assoc ca cb cc, HE2.out] at hT
                have SK31 := Lib.hid (SK29.out.below hX)
                have TT_31 := Lib.hid (TT_29.out.keep hX)
                have TP_31 := Lib.hid (TP_29.out.keep hX)
                have TQ_31 := Lib.hid (TQ_29.out.keep hX)
                have TR_31 := Lib.hid (TR_29.out.keep hX)
                have TS_31 := Lib.hid hT
                clear hT
                clear hX SK29 TT_29 TP_29 TQ_29 TR_29
                refine hK.out _ _ ?_ (fun hHeld => ?_)
                · exact ⟨(tot_cells (SK31.out.has (Has.r (Has.r (Has.r (Has.l (has_blk _ _ _))))))).1, (tot_cells (SK31.out.has (Has.r (Has.r (Has.r (Has.l (has_blk _ _ _))))))).2.1, (tot_cells (SK31.out.has (Has.r (Has.r (Has.r (Has.l (has_blk _ _ _))))))).2.2, (tot_cells (SK31.out.has (Has.r (Has.r (Has.l (has_blk _ _ _)))))).1, (tot_cells (SK31.out.has (Has.r (Has.r (Has.l (has_blk _ _ _)))))).2.1, (tot_cells (SK31.out.has (Has.r (Has.r (Has.l (has_blk _ _ _)))))).2.2, (tot_cells (SK31.out.has (Has.r (Has.l (has_blk _ _ _))))).1, (tot_cells (SK31.out.has (Has.r (Has.l (has_blk _ _ _))))).2.1, (tot_cells (SK31.out.has (Has.r (Has.l (has_blk _ _ _))))).2.2, (tot_cells (SK31.out.has (Has.l (has_blk _ _ _)))).1, (tot_cells (SK31.out.has (Has.l (has_blk _ _ _)))).2.1, (tot_cells (SK31.out.has (Has.l (has_blk _ _ _)))).2.2⟩
                clear hK K0
                (try simp only [Act.put, List.setIfInBounds_toArray, List.set_cons_zero, List.set_cons_succ])
                (try clear hH2)
                refine wpAnyH_ready (rs := [25]) (by kernel_rfl) (by simp) ?_
                refine' AllReadyH.cons (o := ?ob32z25) ?hb32z25 ?kb32z25 AllReadyH.nil
                case hb32z25 => (simp only [List.getElem?_toArray, List.getElem?_cons_succ, List.getElem?_cons_zero]; rfl)
                case kb32z25 =>
                  intro K0 hK
                  go_simp
                  refine (AddT_any _ _ cb cc lb lc _ HLb.out HLc.out (TB.out.keep SK31.out.bel) (TC.out.keep SK31.out.bel)).mono ?_
                  rintro er wk33 ⟨v33, rfl, hX, hT⟩
                  have SK33 := Lib.hid (SK31.out.below hX)
                  have TT_33 := Lib.hid (TT_31.out.keep hX)
                  have TP_33 := Lib.hid (TP_31.out.keep hX)
                  have TQ_33 := Lib.hid (TQ_31.out.keep hX)
                  have TR_33 := Lib.hid (TR_31.out.keep hX)
                  have TS_33 := Lib.hid (TS_31.out.keep hX)
                  have TU_33 := Lib.hid hT
                  clear hT
                  clear hX SK31 TT_31 TP_31 TQ_31 TR_31 TS_31
                  refine hK.out _ _ ?_ (fun hHeld => ?_)
                  · exact ⟨(tot_cells (SK33.out.has (Has.r (Has.r (Has.r (Has.l (has_blk _ _ _))))))).1, (tot_cells (SK33.out.has (Has.r (Has.r (Has.r (Has.l (has_blk _ _ _))))))).2.1, (tot_cells (SK33.out.has (Has.r (Has.r (Has.r (Has.l (has_blk _ _ _))))))).2.2, (tot_cells (SK33.out.has (Has.r (Has.r (Has.l (has_blk _ _ _)))))).1, (tot_cells (SK33.out.has (Has.r (Has.r (Has.l (has_blk _ _ _)))))).2.1, (tot_cells (SK33.out.has (Has.r (Has.r (Has.l (has_blk _ _ _)))))).2.2, (tot_cells (SK33.out.has (Has.r (Has.l (has_blk _ _ _))))).1, (tot_cells (SK33.out.has (Has.r (Has.l (has_blk _ _ _))))).2.1, (tot_cells (SK33.out.has (Has.r (Has.l (has_blk _ _ _))))).2.2, (tot_cells (SK33.out.has (Has.l (has_blk _ _ _)))).1, (tot_cells (SK33.out.has (Has.l (has_blk _ _ _)))).2.1, (tot_cells (SK33.out.has (Has.l (has_blk _ _ _)))).2.2⟩
                  clear hK K0
                  (try simp only [Act.put, List.setIfInBounds_toArray, List.set_cons_zero, List.set_cons_succ])
                  (try clear hH2)
                  refine wpAnyH_ready (rs := [26]) (by kernel_rfl) (by simp) ?_
                  refine' AllReadyH.cons (o := ?ob34z26) ?hb34z26 ?kb34z26 AllReadyH.nil
                  case hb34z26 => (simp only [List.getElem?_toArray, List.getElem?_cons_succ, List.getElem?_cons_zero]; rfl)
                  case kb34z26 =>
                    intro K0 hK
                    go_simp
                    refine (AddT_any _ _ ca (cb + cc) la (sumL lb lc) _ HLa.out HLbc.out (TA.out.keep SK33.out.bel) TU_33.out).mono ?_
                    rintro er wk35 ⟨v35, rfl, hX, hT⟩
                    have SK35 := Lib.hid (SK33.out.below hX)
                    have TT_35 := Lib.hid (TT_33.out.keep hX)
                    have TP_35 := Lib.hid (TP_33.out.keep hX)
                    have TQ_35 := Lib.hid (TQ_33.out.keep hX)
                    have TR_35 := Lib.hid (TR_33.out.keep hX)
                    have TS_35 := Lib.hid (TS_33.out.keep hX)
                    have TU_35 := Lib.hid (TU_33.out.keep hX)
                    have TV_35 := Lib.hid hT
                    clear hT
                    clear hX SK33 TT_33 TP_33 TQ_33 TR_33 TS_33 TU_33
                    refine hK.out _ _ ?_ (fun hHeld => ?_)
                    · exact ⟨(tot_cells (SK35.out.has (Has.r (Has.r (Has.r (Has.l (has_blk _ _ _))))))).1, (tot_cells (SK35.out.has (Has.r (Has.r (Has.r (Has.l (has_blk _ _ _))))))).2.1, (tot_cells (SK35.out.has (Has.r (Has.r (Has.r (Has.l (has_blk _ _ _))))))).2.2, (tot_cells (SK35.out.has (Has.r (Has.r (Has.l (has_blk _ _ _)))))).1, (tot_cells (SK35.out.has (Has.r (Has.r (Has.l (has_blk _ _ _)))))).2.1, (tot_cells (SK35.out.has (Has.r (Has.r (Has.l (has_blk _ _ _)))))).2.2, (tot_cells (SK35.out.has (Has.r (Has.l (has_blk _ _ _))))).1, (tot_cells (SK35.out.has (Has.r (Has.l (has_blk _ _ _))))).2.1, (tot_cells (SK35.out.has (Has.r (Has.l (has_blk _ _ _))))).2.2, (tot_cells (SK35.out.has (Has.l (has_blk _ _ _)))).1, (tot_cells (SK35.out.has (Has.l (has_blk _ _ _)))).2.1, (tot_cells (SK35.out.has (Has.l (has_blk _ _ _)))).2.2⟩
                    clear hK K0
                    (try simp only [Act.put, List.setIfInBounds_toArray, List.set_cons_zero, List.set_cons_succ])
                    (try clear hH2)
                    refine wpAnyH_ready (rs := [27]) (by kernel_rfl) (by simp) ?_
                    refine' AllReadyH.cons (o := ?ob36z27) ?hb36z27 ?kb36z27 AllReadyH.nil
                    case hb36z27 => (simp only [List.getElem?_toArray, List.getElem?_cons_succ, List.getElem?_cons_zero]; rfl)
                    case kb36z27 =>
                      intro K0 hK
                      go_simp
                      refine (refSame_eq _ _ (ca + (cb + cc)) (sumL la (sumL lb lc)) _ HLabc.out TS_35.out TV_35.out).mono ?_
                      rintro er wk37 ⟨rfl, hX⟩
                      have SK37 := Lib.hid (SK35.out.below hX)
                      have TT_37 := Lib.hid (TT_35.out.keep hX)
                      have TP_37 := Lib.hid (TP_35.out.keep hX)
                      have TQ_37 := Lib.hid (TQ_35.out.keep hX)
                      have TR_37 := Lib.hid (TR_35.out.keep hX)
                      have TS_37 := Lib.hid (TS_35.out.keep hX)
                      have TU_37 := Lib.hid (TU_35.out.keep hX)
                      have TV_37 := Lib.hid (TV_35.out.keep hX)
                      clear hX SK35 TT_35 TP_35 TQ_35 TR_35 TS_35 TU_35 TV_35
                      refine hK.out _ _ ?_ (fun hHeld => ?_)
                      · exact ⟨(tot_cells (SK37.out.has (Has.r (Has.r (Has.r (Has.l (has_blk _ _ _))))))).1, (tot_cells (SK37.out.has (Has.r (Has.r (Has.r (Has.l (has_blk _ _ _))))))).2.1, (tot_cells (SK37.out.has (Has.r (Has.r (Has.r (Has.l (has_blk _ _ _))))))).2.2, (tot_cells (SK37.out.has (Has.r (Has.r (Has.l (has_blk _ _ _)))))).1, (tot_cells (SK37.out.has (Has.r (Has.r (Has.l (has_blk _ _ _)))))).2.1, (tot_cells (SK37.out.has (Has.r (Has.r (Has.l (has_blk _ _ _)))))).2.2, (tot_cells (SK37.out.has (Has.r (Has.l (has_blk _ _ _))))).1, (tot_cells (SK37.out.has (Has.r (Has.l (has_blk _ _ _))))).2.1, (tot_cells (SK37.out.has (Has.r (Has.l (has_blk _ _ _))))).2.2, (tot_cells (SK37.out.has (Has.l (has_blk _ _ _)))).1, (tot_cells (SK37.out.has (Has.l (has_blk _ _ _)))).2.1, (tot_cells (SK37.out.has (Has.l (has_blk _ _ _)))).2.2⟩
                      clear hK K0
                      (try simp only [Act.put, List.setIfInBounds_toArray, List.set_cons_zero, List.set_cons_succ])
                      (try clear hH2)
                      refine' wpAnyH_take (i := 28) (oi := ?ot38z28) (v := ?vt38z28) ?ht38z28 ?st38z28 ?ft38z28 ?zt38z28 ?qt38z28 ?yt38z28 ?at38z28 ?rt38z28
                      case ht38z28 => (simp only [List.getElem?_toArray, List.getElem?_cons_succ, List.getElem?_cons_zero]; rfl)
                      case st38z28 => kernel_rfl
                      case ft38z28 => kernel_rfl
                      case zt38z28 => kernel_rfl
                      case qt38z28 => exact fun _ _ _ h => h
                      case yt38z28 => (refine Or.inl ⟨rfl, ?_⟩; intro w hSw; obtain ⟨s0, s1, s2, s3, s4, s5, s6, s7, s8, s9, s10, s11⟩ := hSw; go_simp; try with_reducible rfl)
                      case at38z28 => assumption
                      case rt38z28 =>
                      simp only [Act.put, List.setIfInBounds_toArray, List.set_cons_zero, List.set_cons_succ]
                      refine' wpAnyH_take (i := 29) (oi := ?ot39z29) (v := ?vt39z29) ?ht39z29 ?st39z29 ?ft39z29 ?zt39z29 ?qt39z29 ?yt39z29 ?at39z29 ?rt39z29
                      case ht39z29 => (simp only [List.getElem?_toArray, List.getElem?_cons_succ, List.getElem?_cons_zero]; rfl)
                      case st39z29 => kernel_rfl
                      case ft39z29 => kernel_rfl
                      case zt39z29 => kernel_rfl
                      case qt39z29 => exact fun _ _ _ h => h
                      case yt39z29 => (refine Or.inl ⟨rfl, ?_⟩; intro w hSw; obtain ⟨s0, s1, s2, s3, s4, s5, s6, s7, s8, s9, s10, s11⟩ := hSw; go_simp; try with_reducible rfl)
                      case at39z29 => assumption
                      case rt39z29 =>
                      simp only [Act.put, List.setIfInBounds_toArray, List.set_cons_zero, List.set_cons_succ]
                      refine' wpAnyH_take (i := 30) (oi := ?ot40z30) (v := ?vt40z30) ?ht40z30 ?st40z30 ?ft40z30 ?zt40z30 ?qt40z30 ?yt40z30 ?at40z30 ?rt40z30
                      case ht40z30 => (simp only [List.getElem?_toArray, List.getElem?_cons_succ, List.getElem?_cons_zero]; rfl)
                      case st40z30 => kernel_rfl
                      case ft40z30 => kernel_rfl
                      case zt40z30 => kernel_rfl
                      case qt40z30 => exact fun _ _ _ h => h
                      case yt40z30 => (refine Or.inl ⟨rfl, ?_⟩; intro w hSw; obtain ⟨s0, s1, s2, s3, s4, s5, s6, s7, s8, s9, s10, s11⟩ := hSw; go_simp; try with_reducible rfl)
                      case at40z30 => assumption
                      case rt40z30 =>
                      simp only [Act.put, List.setIfInBounds_toArray, List.set_cons_zero, List.set_cons_succ]
                      refine' wpAnyH_take (i := 31) (oi := ?ot41z31) (v := ?vt41z31) ?ht41z31 ?st41z31 ?ft41z31 ?zt41z31 ?qt41z31 ?yt41z31 ?at41z31 ?rt41z31
                      case ht41z31 => (simp only [List.getElem?_toArray, List.getElem?_cons_succ, List.getElem?_cons_zero]; rfl)
                      case st41z31 => kernel_rfl
                      case ft41z31 => kernel_rfl
                      case zt41z31 => kernel_rfl
                      case qt41z31 => exact fun _ _ _ h => h
                      case yt41z31 => (refine Or.inl ⟨rfl, ?_⟩; intro w hSw; obtain ⟨s0, s1, s2, s3, s4, s5, s6, s7, s8, s9, s10, s11⟩ := hSw; go_simp; try with_reducible rfl)
                      case at41z31 => assumption
                      case rt41z31 =>
                      simp only [Act.put, List.setIfInBounds_toArray, List.set_cons_zero, List.set_cons_succ]
                      refine' wpAnyH_take (i := 34) (oi := ?ot42z34) (v := ?vt42z34) ?ht42z34 ?st42z34 ?ft42z34 ?zt42z34 ?qt42z34 ?yt42z34 ?at42z34 ?rt42z34
                      case ht42z34 => (simp only [List.getElem?_toArray, List.getElem?_cons_succ, List.getElem?_cons_zero]; rfl)
                      case st42z34 => kernel_rfl
                      case ft42z34 => kernel_rfl
                      case zt42z34 => kernel_rfl
                      case qt42z34 => exact fun _ _ _ h => h
                      case yt42z34 => (refine Or.inl ⟨rfl, ?_⟩; intro w hSw; obtain ⟨s0, s1, s2, s3, s4, s5, s6, s7, s8, s9, s10, s11⟩ := hSw; go_simp; try with_reducible rfl)
                      case at42z34 => assumption
                      case rt42z34 =>
                      simp only [Act.put, List.setIfInBounds_toArray, List.set_cons_zero, List.set_cons_succ]
                      refine wpAnyH_ready (rs := [32]) (by kernel_rfl) (by simp) ?_
                      refine' AllReadyH.cons (o := ?ob43z32) ?hb43z32 ?kb43z32 AllReadyH.nil
                      case hb43z32 => (simp only [List.getElem?_toArray, List.getElem?_cons_succ, List.getElem?_cons_zero]; rfl)
                      case kb43z32 =>
                        intro K0 hK
                        go_simp
                        refine (HNo.out _).mono ?_
                        rintro er wk44 ⟨v44, rfl, hX, hT⟩
                        have SK44 := Lib.hid (SK37.out.below hX)
                        have TT_44 := Lib.hid (TT_37.out.keep hX)
                        have TP_44 := Lib.hid (TP_37.out.keep hX)
                        have TQ_44 := Lib.hid (TQ_37.out.keep hX)
                        have TR_44 := Lib.hid (TR_37.out.keep hX)
                        have TS_44 := Lib.hid (TS_37.out.keep hX)
                        have TU_44 := Lib.hid (TU_37.out.keep hX)
                        have TV_44 := Lib.hid (TV_37.out.keep hX)
                        have TZ_44 := Lib.hid hT
                        clear hT
                        clear hX SK37 TT_37 TP_37 TQ_37 TR_37 TS_37 TU_37 TV_37
                        refine hK.out _ _ ?_ (fun hHeld => ?_)
                        · exact ⟨(tot_cells (SK44.out.has (Has.r (Has.r (Has.r (Has.l (has_blk _ _ _))))))).1, (tot_cells (SK44.out.has (Has.r (Has.r (Has.r (Has.l (has_blk _ _ _))))))).2.1, (tot_cells (SK44.out.has (Has.r (Has.r (Has.r (Has.l (has_blk _ _ _))))))).2.2, (tot_cells (SK44.out.has (Has.r (Has.r (Has.l (has_blk _ _ _)))))).1, (tot_cells (SK44.out.has (Has.r (Has.r (Has.l (has_blk _ _ _)))))).2.1, (tot_cells (SK44.out.has (Has.r (Has.r (Has.l (has_blk _ _ _)))))).2.2, (tot_cells (SK44.out.has (Has.r (Has.l (has_blk _ _ _))))).1, (tot_cells (SK44.out.has (Has.r (Has.l (has_blk _ _ _))))).2.1, (tot_cells (SK44.out.has (Has.r (Has.l (has_blk _ _ _))))).2.2, (tot_cells (SK44.out.has (Has.l (has_blk _ _ _)))).1, (tot_cells (SK44.out.has (Has.l (has_blk _ _ _)))).2.1, (tot_cells (SK44.out.has (Has.l (has_blk _ _ _)))).2.2⟩
                        clear hK K0
                        (try simp only [Act.put, List.setIfInBounds_toArray, List.set_cons_zero, List.set_cons_succ])
                        (try clear hH2)
                        refine wpAnyH_ready (rs := [33]) (by kernel_rfl) (by simp) ?_
                        refine' AllReadyH.cons (o := ?ob45z33) ?hb45z33 ?kb45z33 AllReadyH.nil
                        case hb45z33 => (simp only [List.getElem?_toArray, List.getElem?_cons_succ, List.getElem?_cons_zero]; rfl)
                        case kb45z33 =>
                          intro K0 hK
                          go_simp
                          refine (AddT_any _ _ ca 0 la (zer n) _ HLa.out HLz.out (TA.out.keep SK44.out.bel) TZ_44.out).mono ?_
                          rintro er wk46 ⟨v46, rfl, hX, hT⟩
                          rw [show ca + 0 = ca from BitVec.add_zero ca, HE3.out] at hT
                          have SK46 := Lib.hid (SK44.out.below hX)
                          have TT_46 := Lib.hid (TT_44.out.keep hX)
                          have TP_46 := Lib.hid (TP_44.out.keep hX)
                          have TQ_46 := Lib.hid (TQ_44.out.keep hX)
                          have TR_46 := Lib.hid (TR_44.out.keep hX)
                          have TS_46 := Lib.hid (TS_44.out.keep hX)
                          have TU_46 := Lib.hid (TU_44.out.keep hX)
                          have TV_46 := Lib.hid (TV_44.out.keep hX)
                          have TZ_46 := Lib.hid (TZ_44.out.keep hX)
                          have TW_46 := Lib.hid hT
                          clear hT
                          clear hX SK44 TT_44 TP_44 TQ_44 TR_44 TS_44 TU_44 TV_44 TZ_44
                          refine hK.out _ _ ?_ (fun hHeld => ?_)
                          · exact ⟨(tot_cells (SK46.out.has (Has.r (Has.r (Has.r (Has.l (has_blk _ _ _))))))).1, (tot_cells (SK46.out.has (Has.r (Has.r (Has.r (Has.l (has_blk _ _ _))))))).2.1, (tot_cells (SK46.out.has (Has.r (Has.r (Has.r (Has.l (has_blk _ _ _))))))).2.2, (tot_cells (SK46.out.has (Has.r (Has.r (Has.l (has_blk _ _ _)))))).1, (tot_cells (SK46.out.has (Has.r (Has.r (Has.l (has_blk _ _ _)))))).2.1, (tot_cells (SK46.out.has (Has.r (Has.r (Has.l (has_blk _ _ _)))))).2.2, (tot_cells (SK46.out.has (Has.r (Has.l (has_blk _ _ _))))).1, (tot_cells (SK46.out.has (Has.r (Has.l (has_blk _ _ _))))).2.1, (tot_cells (SK46.out.has (Has.r (Has.l (has_blk _ _ _))))).2.2, (tot_cells (SK46.out.has (Has.l (has_blk _ _ _)))).1, (tot_cells (SK46.out.has (Has.l (has_blk _ _ _)))).2.1, (tot_cells (SK46.out.has (Has.l (has_blk _ _ _)))).2.2⟩
                          clear hK K0
                          (try simp only [Act.put, List.setIfInBounds_toArray, List.set_cons_zero, List.set_cons_succ])
                          (try clear hH2)
                          refine wpAnyH_ready (rs := [35]) (by kernel_rfl) (by simp) ?_
                          refine' AllReadyH.cons (o := ?ob47z35) ?hb47z35 ?kb47z35 AllReadyH.nil
                          case hb47z35 => (simp only [List.getElem?_toArray, List.getElem?_cons_succ, List.getElem?_cons_zero]; rfl)
                          case kb47z35 =>
                            intro K0 hK
                            go_simp
                            refine (refSame_eq _ _ ca la _ HLa.out TW_46.out (TA.out.keep SK46.out.bel)).mono ?_
                            rintro er wk48 ⟨rfl, hX⟩
                            have SK48 := Lib.hid (SK46.out.below hX)
                            have TT_48 := Lib.hid (TT_46.out.keep hX)
                            have TP_48 := Lib.hid (TP_46.out.keep hX)
                            have TQ_48 := Lib.hid (TQ_46.out.keep hX)
                            have TR_48 := Lib.hid (TR_46.out.keep hX)
                            have TS_48 := Lib.hid (TS_46.out.keep hX)
                            have TU_48 := Lib.hid (TU_46.out.keep hX)
                            have TV_48 := Lib.hid (TV_46.out.keep hX)
                            have TZ_48 := Lib.hid (TZ_46.out.keep hX)
                            have TW_48 := Lib.hid (TW_46.out.keep hX)
                            clear hX SK46 TT_46 TP_46 TQ_46 TR_46 TS_46 TU_46 TV_46 TZ_46 TW_46
                            refine hK.out _ _ ?_ (fun hHeld => ?_)
                            · exact ⟨(tot_cells (SK48.out.has (Has.r (Has.r (Has.r (Has.l (has_blk _ _ _))))))).1, (tot_cells (SK48.out.has (Has.r (Has.r (Has.r (Has.l (has_blk _ _ _))))))).2.1, (tot_cells (SK48.out.has (Has.r (Has.r (Has.r (Has.l (has_blk _ _ _))))))).2.2, (tot_cells (SK48.out.has (Has.r (Has.r (Has.l (has_blk _ _ _)))))).1, (tot_cells (SK48.out.has (Has.r (Has.r (Has.l (has_blk _ _ _)))))).2.1, (tot_cells (SK48.out.has (Has.r (Has.r (Has.l (has_blk _ _ _)))))).2.2, (tot_cells (SK48.out.has (Has.r (Has.l (has_blk _ _ _))))).1, (tot_cells (SK48.out.has (Has.r (Has.l (has_blk _ _ _))))).2.1, (tot_cells (SK48.out.has (Has.r (Has.l (has_blk _ _ _))))).2.2, (tot_cells (SK48.out.has (Has.l (has_blk _ _ _)))).1, (tot_cells (SK48.out.has (Has.l (has_blk _ _ _)))).2.1, (tot_cells (SK48.out.has (Has.l (has_blk _ _ _)))).2.2⟩
                            clear hK K0
                            (try simp only [Act.put, List.setIfInBounds_toArray, List.set_cons_zero, List.set_cons_succ])
                            (try clear hH2)
                            refine' wpAnyH_take (i := 36) (oi := ?ot49z36) (v := ?vt49z36) ?ht49z36 ?st49z36 ?ft49z36 ?zt49z36 ?qt49z36 ?yt49z36 ?at49z36 ?rt49z36
                            case ht49z36 => (simp only [List.getElem?_toArray, List.getElem?_cons_succ, List.getElem?_cons_zero]; rfl)
                            case st49z36 => kernel_rfl
                            case ft49z36 => kernel_rfl
                            case zt49z36 => kernel_rfl
                            case qt49z36 => exact fun _ _ _ h => h
                            case yt49z36 => (refine Or.inl ⟨rfl, ?_⟩; intro w hSw; obtain ⟨s0, s1, s2, s3, s4, s5, s6, s7, s8, s9, s10, s11⟩ := hSw; go_simp; try with_reducible rfl)
                            case at49z36 => assumption
                            case rt49z36 =>
                            simp only [Act.put, List.setIfInBounds_toArray, List.set_cons_zero, List.set_cons_succ]
                            refine' wpAnyH_take (i := 37) (oi := ?ot50z37) (v := ?vt50z37) ?ht50z37 ?st50z37 ?ft50z37 ?zt50z37 ?qt50z37 ?yt50z37 ?at50z37 ?rt50z37
                            case ht50z37 => (simp only [List.getElem?_toArray, List.getElem?_cons_succ, List.getElem?_cons_zero]; rfl)
                            case st50z37 => kernel_rfl
                            case ft50z37 => kernel_rfl
                            case zt50z37 => kernel_rfl
                            case qt50z37 => exact fun _ _ _ h => h
                            case yt50z37 => (refine Or.inl ⟨rfl, ?_⟩; intro w hSw; obtain ⟨s0, s1, s2, s3, s4, s5, s6, s7, s8, s9, s10, s11⟩ := hSw; go_simp; try with_reducible rfl)
                            case at50z37 => assumption
                            case rt50z37 =>
                            simp only [Act.put, List.setIfInBounds_toArray, List.set_cons_zero, List.set_cons_succ]
                            refine wpAnyH_done (by kernel_rfl) ?_ _
                            go_wp2_with fail
                            go_returns
                            exact ⟨rfl, SK48.out.bel⟩

end Go.Proofs.Ytoofoalpffoheaa.Pn
