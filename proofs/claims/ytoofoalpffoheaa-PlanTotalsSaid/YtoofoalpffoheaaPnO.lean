/- PlanTotals walked. -/
import Derived.Test.YtoofoalpffoheaaPnK
import Derived.Test.YtoofoalpffoheaaPnM
import Derived.Test.YtoofoalpffoheaaPnN
namespace Go.Proofs.Ytoofoalpffoheaa.Pn
open Go.ChangeShapes Go.WideShapes Go.ChangeAt Go.RowKit Go.PlainAid Aid Wd
open Sg (numS)
set_option linter.unusedVariables false
set_option linter.unusedSimpArgs false
theorem wrap_divP (N : Int) : wrap64 N / 72057594037927936 % 256 = N / 72057594037927936 % 256 ∧ wrap64 N / 281474976710656 % 256 = N / 281474976710656 % 256 ∧ wrap64 N / 1099511627776 % 256 = N / 1099511627776 % 256 ∧ wrap64 N / 4294967296 % 256 = N / 4294967296 % 256 ∧
    wrap64 N / 16777216 % 256 = N / 16777216 % 256 ∧ wrap64 N / 65536 % 256 = N / 65536 % 256 ∧ wrap64 N / 256 % 256 = N / 256 % 256 ∧ wrap64 N % 256 = N % 256 := by
  unfold wrap64
  refine ⟨?_, ?_, ?_, ?_, ?_, ?_, ?_, ?_⟩ <;> omega
theorem code_readP (s : ByteArray) (hs : s.size = 16) : strOfNums (codeL (hi (readZ s)) (lo (readZ s))) = s := by
  obtain ⟨p1, p2⟩ := readZ_parts s
  have e : ∀ a b k, bt (s.extract a b) k = if k < b - a then bt s (a + k) else 0 := fun a b k => bt_extract s a b k
  have n1 : numS (s.extract 0 8) 8 = ((((((bt s 0 * 256 + bt s 1) * 256 + bt s 2) * 256 + bt s 3) * 256 + bt s 4) * 256 + bt s 5) * 256 + bt s 6) * 256 + bt s 7 := by
    simp only [numS, e]; simp
  have n2 : numS (s.extract 8 16) 8 = ((((((bt s 8 * 256 + bt s 9) * 256 + bt s 10) * 256 + bt s 11) * 256 + bt s 12) * 256 + bt s 13) * 256 + bt s 14) * 256 + bt s 15 := by
    simp only [numS, e]; simp
  refine bt_ext _ _ 16 (code_size _ _) hs fun i hi' => ?_
  rw [nums_getD _ _ (codeL_bd _ _), p1, p2]
  obtain ⟨w0, w1, w2, w3, w4, w5, w6, w7⟩ := wrap_divP (numS (s.extract 0 8) 8)
  have hb := fun k => (⟨bt_nonneg s k, bt_le s k⟩ : 0 ≤ bt s k ∧ bt s k ≤ 255)
  have h0 := hb 0; have h1 := hb 1; have h2 := hb 2; have h3 := hb 3; have h4 := hb 4; have h5 := hb 5; have h6 := hb 6; have h7 := hb 7
  have h8 := hb 8; have h9 := hb 9; have h10 := hb 10; have h11 := hb 11; have h12 := hb 12; have h13 := hb 13; have h14 := hb 14; have h15 := hb 15
  clear hb e
  unfold codeL
  rw [w0, w1, w2, w3, w4, w5, w6, w7, n1, n2]
  clear w0 w1 w2 w3 w4 w5 w6 w7 n1 n2 p1 p2
  rcases (by omega : i = 0 ∨ i = 1 ∨ i = 2 ∨ i = 3 ∨ i = 4 ∨ i = 5 ∨ i = 6 ∨ i = 7 ∨ i = 8 ∨ i = 9 ∨ i = 10 ∨ i = 11 ∨ i = 12 ∨ i = 13 ∨ i = 14 ∨ i = 15) with rfl | rfl | rfl | rfl | rfl | rfl | rfl | rfl | rfl | rfl | rfl | rfl | rfl | rfl | rfl | rfl <;> simp <;> omega
theorem code_read (s : ByteArray) (hs : s.size = 16) : ofL (codeW (readZ s)) = s := code_readP s hs
theorem codeW_read (s : ByteArray) (hs : s.size = 16) : codeW (readZ s) = s.data.toList := by
  have := congrArg (fun b : ByteArray => b.data.toList) (code_read s hs)
  exact this
theorem ext_list (s : ByteArray) (i j : Nat) : (s.extract i j).data.toList = (s.data.toList.drop i).take (j - i) := by
  rw [ByteArray.data_extract]
  simp [List.extract_eq_take_drop]
theorem rdL_bytes (s : ByteArray) (m : Nat) (hm : 16 * (m + 1) ≤ s.size) : ∀ n, n ≤ m → codesW (rdL s n) = (s.data.toList.drop 16).take (16 * n) := by
  intro n
  induction n with
  | zero => intro _; rfl
  | succ n ih =>
    intro hn
    have e : rdL s (n + 1) = rdL s n ++ [readZ (s.extract (16 * (n + 1)) (16 * (n + 1) + 16))] := by unfold rdL; rw [List.range_succ, List.map_append]; rfl
    have hl : s.data.toList.length = s.size := rfl
    rw [e, codesW_snoc, ih (by omega), codeW_read _ (by rw [ByteArray.size_extract]; omega), ext_list, show 16 * (n + 1) + 16 - 16 * (n + 1) = 16 by omega]
    apply List.ext_getElem?
    intro k
    simp only [List.getElem?_append, List.getElem?_take, List.getElem?_drop, List.length_take, List.length_drop]
    by_cases h1 : k < 16 * n
    · rw [if_pos (by omega), if_pos h1, if_pos (by omega)]
    · rw [if_neg (by omega)]
      by_cases h2 : k < 16 * (n + 1)
      · rw [if_pos (by omega), if_pos h2]
        congr 1
        omega
      · rw [if_neg (by omega), if_neg h2]
theorem read_total (s : ByteArray) (n : Nat) (hs : s.size = 16 * (1 + n)) : ofL (totB (readZ (s.extract 0 16)) (rdL s n)) = s := by
  have hl : s.data.toList.length = s.size := rfl
  apply ByteArray.ext
  apply Array.toList_inj.1
  show totB _ _ = s.data.toList
  unfold totB
  rw [codeW_read _ (by rw [ByteArray.size_extract]; omega), rdL_bytes s n (by omega) n (Nat.le_refl n), ext_list, List.drop_zero, List.take_of_length_le (l := s.data.toList.drop 16) (by rw [List.length_drop]; omega)]
  exact List.take_append_drop 16 _
set_option maxRecDepth 100000 in
set_option maxHeartbeats 4000000 in
theorem totals_big (va vb : Value) (ca cb : W1) (la lb : List W1) (s : ByteArray) (n : Int) (w : World) (hm : s.size ≤ maxLen) (ha : IsTot w va ca la) (hb : IsTot w vb cb lb) (h : ¬ (la.length ≤ 10 ∧ lb.length ≤ 10 ∧ s.size ≤ 100)) :
    Calls Try.prog 3 #[va, vb, .string s, .int .i64 n] w fun e w' => e = .returned (.bool true) ∧ Below w.heap.size w w' := by
  have hs : ∀ (W : World) (o : Obj), (W.alloc o).heap.size = W.heap.size + 1 := fun W o => by simp
  obtain ⟨A, p, rfl, -⟩ := ha
  obtain ⟨B, q, rfl, -⟩ := hb
  unfold maxLen at hm
  unfold totV
  generalize hi ca = ah, lo ca = al, hi cb = bh, lo cb = bl
  go_enter Try.func3, Try.ntmps3
  go_upto_region 1 with fail
  have S0 := ((Own.none w).alloc #[.int .i64 ah, .int .u64 al, .slice A la.length p] 27).alloc #[.int .i64 bh, .int .u64 bl, .slice B lb.length q] 27
  simp only [hs] at S0
  obtain ⟨ga, hg⟩ : ∃ n, n = w.heap.size := ⟨_, rfl⟩
  rw [← hg] at S0 ⊢
  clear hg
  obtain ⟨gb, hg⟩ : ∃ g, g = ga + 1 := ⟨_, rfl⟩
  rw [← hg] at S0 ⊢
  clear hg hs
  generalize World.alloc (World.alloc w _) _ = w1 at *
  by_cases h1 : 10 < la.length
  · as_aux_lemma =>
      have h1I : 10 < (la.length : Int) := by omega
      go_wp2_with fail
      refine (awake_any _).mono ?_
      rintro e w2 ⟨rfl, hX⟩
      have S1 := Lib.hid (S0.below hX)
      clear hX S0
      obtain ⟨b0, b1, b2⟩ := tot_cells (S1.out.has (Has.l (has_blk _ _ _)))
      obtain ⟨a0, a1, a2⟩ := tot_cells (S1.out.has (Has.r (Has.l (has_blk _ _ _))))
      go_wp2_with fail
      go_returns
      exact ⟨rfl, S1.out.bel⟩
  by_cases h2 : 10 < lb.length
  · as_aux_lemma =>
      have h1I : ¬ 10 < (la.length : Int) := by omega
      have h2I : 10 < (lb.length : Int) := by omega
      go_wp2_with fail
      refine (awake_any _).mono ?_
      rintro e w2 ⟨rfl, hX⟩
      have S1 := Lib.hid (S0.below hX)
      clear hX S0
      obtain ⟨b0, b1, b2⟩ := tot_cells (S1.out.has (Has.l (has_blk _ _ _)))
      obtain ⟨a0, a1, a2⟩ := tot_cells (S1.out.has (Has.r (Has.l (has_blk _ _ _))))
      go_wp2_with fail
      go_returns
      exact ⟨rfl, S1.out.bel⟩
  · as_aux_lemma =>
      have h1I : ¬ 10 < (la.length : Int) := by omega
      have h2I : ¬ 10 < (lb.length : Int) := by omega
      have h3I : 100 < (s.size : Int) := by omega
      go_wp2_with fail
      refine (awake_any _).mono ?_
      rintro e w2 ⟨rfl, hX⟩
      have S1 := Lib.hid (S0.below hX)
      clear hX S0
      obtain ⟨b0, b1, b2⟩ := tot_cells (S1.out.has (Has.l (has_blk _ _ _)))
      obtain ⟨a0, a1, a2⟩ := tot_cells (S1.out.has (Has.r (Has.l (has_blk _ _ _))))
      go_wp2_with fail
      go_returns
      exact ⟨rfl, S1.out.bel⟩
set_option maxRecDepth 100000 in
set_option maxHeartbeats 8000000 in
theorem totals_any (va vb : Value) (ca cb : W1) (la lb : List W1) (s : ByteArray) (n : Int) (w : World) (hla : la.length ≤ 10) (hlb : lb.length ≤ 10) (hsz : s.size ≤ 100) (ha : IsTot w va ca la) (hb : IsTot w vb cb lb) :
    Calls Try.prog 3 #[va, vb, .string s, .int .i64 n] w fun e w' => e = .returned (.bool true) ∧ Below w.heap.size w w' := by
  have hs : ∀ (W : World) (o : Obj), (W.alloc o).heap.size = W.heap.size + 1 := fun W o => by simp
  have TA := Lib.hid ha
  have TB := Lib.hid hb
  obtain ⟨A, p, rfl, -⟩ := ha
  obtain ⟨B, q, rfl, -⟩ := hb
  have HLa := Lib.hid (show Sh la from by unfold Sh; omega)
  have HLb := Lib.hid (show Sh lb from by unfold Sh; omega)
  have HLab := Lib.hid (show Sh (sumL la lb) from by unfold Sh; rw [sumL_len]; omega)
  have HTo := Lib.hid (fun v w (h : IsTot w v ca la) => Total_any v ca la w (by omega) h)
  have HTr := Lib.hid (fun v w (h : IsTot w v ca la) => refTotal_any v ca la w (by omega) h)
  have HIs := Lib.hid (fun v w (h : IsTot w v ca la) => IsNothing_any v ca la w (by omega) h)
  have HIr := Lib.hid (fun v w (h : IsTot w v ca la) => refIsNothing_any v ca la w (by omega) h)
  generalize ofL (totB ca la) = sa at *
  generalize nothB ca la = nb at *
  unfold totV at *
  generalize hi ca = ah, lo ca = al, hi cb = bh, lo cb = bl at *
  have h1I : ¬ 10 < (la.length : Int) := by omega
  have h2I : ¬ 10 < (lb.length : Int) := by omega
  have h3I : ¬ 100 < (s.size : Int) := by omega
  go_enter Try.func3, Try.ntmps3
  go_upto_region 1 with fail
  have S0 := ((Own.none w).alloc #[.int .i64 ah, .int .u64 al, .slice A la.length p] 27).alloc #[.int .i64 bh, .int .u64 bl, .slice B lb.length q] 27
  simp only [hs] at S0
  obtain ⟨ga, hg⟩ : ∃ n, n = w.heap.size := ⟨_, rfl⟩
  rw [← hg] at S0 ⊢
  clear hg
  obtain ⟨gb, hg⟩ : ∃ g, g = ga + 1 := ⟨_, rfl⟩
  rw [← hg] at S0 ⊢
  clear hg hs
  generalize World.alloc (World.alloc w _) _ = w1 at *
  as_aux_lemma =>
    go_wp2_with fail
    refine (awake_any _).mono ?_
    rintro e w2 ⟨rfl, hX⟩
    have S1 := Lib.hid (S0.below hX)
    clear hX S0
    obtain ⟨b0, b1, b2⟩ := tot_cells (S1.out.has (Has.l (has_blk _ _ _)))
    obtain ⟨a0, a1, a2⟩ := tot_cells (S1.out.has (Has.r (Has.l (has_blk _ _ _))))
    go_upto_region 5 with fail
    clear b0 b1 b2 a0 a1 a2 h1I h2I h3I
    have S5 := Lib.hid S1.out.drew
    clear S1
    refine wp_region_held_drew (S := fun W : World => W.cell? ⟨ga, 0, none⟩ = some (.int .i64 ah) ∧ W.cell? ⟨ga, 1, none⟩ = some (.int .u64 al) ∧ W.cell? ⟨ga, 2, none⟩ = some (.slice A la.length p) ∧ W.cell? ⟨gb, 0, none⟩ = some (.int .i64 bh) ∧ W.cell? ⟨gb, 1, none⟩ = some (.int .u64 bl) ∧ W.cell? ⟨gb, 2, none⟩ = some (.slice B lb.length q)) (by kernel_rfl) (⟨(tot_cells (S5.out.has (Has.r (Has.l (has_blk _ _ _))))).1, (tot_cells (S5.out.has (Has.r (Has.l (has_blk _ _ _))))).2.1, (tot_cells (S5.out.has (Has.r (Has.l (has_blk _ _ _))))).2.2, (tot_cells (S5.out.has (Has.l (has_blk _ _ _)))).1, (tot_cells (S5.out.has (Has.l (has_blk _ _ _)))).2.1, (tot_cells (S5.out.has (Has.l (has_blk _ _ _)))).2.2⟩) (fun hHeld => ?_)
    generalize w2.drew = w6 at *
    refine' wpAnyH_take (i := 0) (oi := ?ot1z0) (v := ?vt1z0) ?ht1z0 ?st1z0 ?ft1z0 ?zt1z0 ?qt1z0 ?yt1z0 ?at1z0 ?rt1z0
    case ht1z0 => (simp only [List.getElem?_toArray, List.getElem?_cons_succ, List.getElem?_cons_zero]; rfl)
    case st1z0 => kernel_rfl
    case ft1z0 => kernel_rfl
    case zt1z0 => kernel_rfl
    case qt1z0 => exact fun _ _ _ h => h
    case yt1z0 => (refine Or.inl ⟨rfl, ?_⟩; intro w hSw; obtain ⟨s0, s1, s2, s3, s4, s5⟩ := hSw; go_simp; try with_reducible rfl)
    case at1z0 => assumption
    case rt1z0 =>
    simp only [Act.put, List.setIfInBounds_toArray, List.set_cons_zero, List.set_cons_succ]
    refine' wpAnyH_take (i := 2) (oi := ?ot2z2) (v := ?vt2z2) ?ht2z2 ?st2z2 ?ft2z2 ?zt2z2 ?qt2z2 ?yt2z2 ?at2z2 ?rt2z2
    case ht2z2 => (simp only [List.getElem?_toArray, List.getElem?_cons_succ, List.getElem?_cons_zero]; rfl)
    case st2z2 => kernel_rfl
    case ft2z2 => kernel_rfl
    case zt2z2 => kernel_rfl
    case qt2z2 => exact fun _ _ _ h => h
    case yt2z2 => (refine Or.inl ⟨rfl, ?_⟩; intro w hSw; obtain ⟨s0, s1, s2, s3, s4, s5⟩ := hSw; go_simp; try with_reducible rfl)
    case at2z2 => assumption
    case rt2z2 =>
    simp only [Act.put, List.setIfInBounds_toArray, List.set_cons_zero, List.set_cons_succ]
    refine wpAnyH_ready (rs := [1]) (by kernel_rfl) (by simp) ?_
    refine' AllReadyH.cons (o := ?ob3z1) ?hb3z1 ?kb3z1 AllReadyH.nil
    case hb3z1 => (simp only [List.getElem?_toArray, List.getElem?_cons_succ, List.getElem?_cons_zero]; rfl)
    case kb3z1 =>
      intro K0 hK
      go_simp
      refine (HTo.out _ _ (TA.out.keep S5.out.bel)).mono ?_
      rintro er wk4 ⟨rfl, hX⟩
      have SK4 := Lib.hid (S5.out.below hX)
      clear hX S5 
      refine hK.out _ _ ?_ (fun hHeld => ?_)
      · exact ⟨(tot_cells (SK4.out.has (Has.r (Has.l (has_blk _ _ _))))).1, (tot_cells (SK4.out.has (Has.r (Has.l (has_blk _ _ _))))).2.1, (tot_cells (SK4.out.has (Has.r (Has.l (has_blk _ _ _))))).2.2, (tot_cells (SK4.out.has (Has.l (has_blk _ _ _)))).1, (tot_cells (SK4.out.has (Has.l (has_blk _ _ _)))).2.1, (tot_cells (SK4.out.has (Has.l (has_blk _ _ _)))).2.2⟩
      clear hK K0
      (try simp only [Act.put, List.setIfInBounds_toArray, List.set_cons_zero, List.set_cons_succ])
      (try clear hH2)
      refine wpAnyH_ready (rs := [3]) (by kernel_rfl) (by simp) ?_
      refine' AllReadyH.cons (o := ?ob5z3) ?hb5z3 ?kb5z3 AllReadyH.nil
      case hb5z3 => (simp only [List.getElem?_toArray, List.getElem?_cons_succ, List.getElem?_cons_zero]; rfl)
      case kb5z3 =>
        intro K0 hK
        go_simp
        refine (HTr.out _ _ (TA.out.keep SK4.out.bel)).mono ?_
        rintro er wk6 ⟨rfl, hX⟩
        have SK6 := Lib.hid (SK4.out.below hX)
        clear hX SK4 
        refine hK.out _ _ ?_ (fun hHeld => ?_)
        · exact ⟨(tot_cells (SK6.out.has (Has.r (Has.l (has_blk _ _ _))))).1, (tot_cells (SK6.out.has (Has.r (Has.l (has_blk _ _ _))))).2.1, (tot_cells (SK6.out.has (Has.r (Has.l (has_blk _ _ _))))).2.2, (tot_cells (SK6.out.has (Has.l (has_blk _ _ _)))).1, (tot_cells (SK6.out.has (Has.l (has_blk _ _ _)))).2.1, (tot_cells (SK6.out.has (Has.l (has_blk _ _ _)))).2.2⟩
        clear hK K0
        (try simp only [Act.put, List.setIfInBounds_toArray, List.set_cons_zero, List.set_cons_succ])
        (try clear hH2)
        refine' wpAnyH_take (i := 4) (oi := ?ot7z4) (v := ?vt7z4) ?ht7z4 ?st7z4 ?ft7z4 ?zt7z4 ?qt7z4 ?yt7z4 ?at7z4 ?rt7z4
        case ht7z4 => (simp only [List.getElem?_toArray, List.getElem?_cons_succ, List.getElem?_cons_zero]; rfl)
        case st7z4 => kernel_rfl
        case ft7z4 => kernel_rfl
        case zt7z4 => kernel_rfl
        case qt7z4 => exact fun _ _ _ h => h
        case yt7z4 => (refine Or.inl ⟨rfl, ?_⟩; intro w hSw; obtain ⟨s0, s1, s2, s3, s4, s5⟩ := hSw; go_simp; try with_reducible rfl)
        case at7z4 => assumption
        case rt7z4 =>
        simp only [Act.put, List.setIfInBounds_toArray, List.set_cons_zero, List.set_cons_succ]
        refine' wpAnyH_take (i := 5) (oi := ?ot8z5) (v := ?vt8z5) ?ht8z5 ?st8z5 ?ft8z5 ?zt8z5 ?qt8z5 ?yt8z5 ?at8z5 ?rt8z5
        case ht8z5 => (simp only [List.getElem?_toArray, List.getElem?_cons_succ, List.getElem?_cons_zero]; rfl)
        case st8z5 => kernel_rfl
        case ft8z5 => kernel_rfl
        case zt8z5 => kernel_rfl
        case qt8z5 => exact fun _ _ _ h => h
        case yt8z5 => (refine Or.inl ⟨rfl, ?_⟩; intro w hSw; obtain ⟨s0, s1, s2, s3, s4, s5⟩ := hSw; go_simp; try with_reducible rfl)
        case at8z5 => assumption
        case rt8z5 =>
        simp only [Act.put, List.setIfInBounds_toArray, List.set_cons_zero, List.set_cons_succ]
        refine' wpAnyH_take (i := 6) (oi := ?ot9z6) (v := ?vt9z6) ?ht9z6 ?st9z6 ?ft9z6 ?zt9z6 ?qt9z6 ?yt9z6 ?at9z6 ?rt9z6
        case ht9z6 => (simp only [List.getElem?_toArray, List.getElem?_cons_succ, List.getElem?_cons_zero]; rfl)
        case st9z6 => kernel_rfl
        case ft9z6 => kernel_rfl
        case zt9z6 => kernel_rfl
        case qt9z6 => exact fun _ _ _ h => h
        case yt9z6 => (refine Or.inl ⟨rfl, ?_⟩; intro w hSw; obtain ⟨s0, s1, s2, s3, s4, s5⟩ := hSw; go_simp; try with_reducible rfl)
        case at9z6 => assumption
        case rt9z6 =>
        simp only [Act.put, List.setIfInBounds_toArray, List.set_cons_zero, List.set_cons_succ]
        refine' wpAnyH_take (i := 7) (oi := ?ot10z7) (v := ?vt10z7) ?ht10z7 ?st10z7 ?ft10z7 ?zt10z7 ?qt10z7 ?yt10z7 ?at10z7 ?rt10z7
        case ht10z7 => (simp only [List.getElem?_toArray, List.getElem?_cons_succ, List.getElem?_cons_zero]; rfl)
        case st10z7 => kernel_rfl
        case ft10z7 => kernel_rfl
        case zt10z7 => kernel_rfl
        case qt10z7 => exact fun _ _ _ h => h
        case yt10z7 => (refine Or.inl ⟨rfl, ?_⟩; intro w hSw; obtain ⟨s0, s1, s2, s3, s4, s5⟩ := hSw; go_simp; try with_reducible rfl)
        case at10z7 => assumption
        case rt10z7 =>
        simp only [Act.put, List.setIfInBounds_toArray, List.set_cons_zero, List.set_cons_succ]
        refine' wpAnyH_take (i := 9) (oi := ?ot11z9) (v := ?vt11z9) ?ht11z9 ?st11z9 ?ft11z9 ?zt11z9 ?qt11z9 ?yt11z9 ?at11z9 ?rt11z9
        case ht11z9 => (simp only [List.getElem?_toArray, List.getElem?_cons_succ, List.getElem?_cons_zero]; rfl)
        case st11z9 => kernel_rfl
        case ft11z9 => kernel_rfl
        case zt11z9 => kernel_rfl
        case qt11z9 => exact fun _ _ _ h => h
        case yt11z9 => (refine Or.inl ⟨rfl, ?_⟩; intro w hSw; obtain ⟨s0, s1, s2, s3, s4, s5⟩ := hSw; go_simp; try with_reducible rfl)
        case at11z9 => assumption
        case rt11z9 =>
        simp only [Act.put, List.setIfInBounds_toArray, List.set_cons_zero, List.set_cons_succ]
        refine' wpAnyH_take (i := 10) (oi := ?ot12z10) (v := ?vt12z10) ?ht12z10 ?st12z10 ?ft12z10 ?zt12z10 ?qt12z10 ?yt12z10 ?at12z10 ?rt12z10
        case ht12z10 => (simp only [List.getElem?_toArray, List.getElem?_cons_succ, List.getElem?_cons_zero]; rfl)
        case st12z10 => kernel_rfl
        case ft12z10 => kernel_rfl
        case zt12z10 => kernel_rfl
        case qt12z10 => exact fun _ _ _ h => h
        case yt12z10 => (refine Or.inl ⟨rfl, ?_⟩; intro w hSw; obtain ⟨s0, s1, s2, s3, s4, s5⟩ := hSw; go_simp; try with_reducible rfl)
        case at12z10 => assumption
        case rt12z10 =>
        simp only [Act.put, List.setIfInBounds_toArray, List.set_cons_zero, List.set_cons_succ]
        refine wpAnyH_ready (rs := [8]) (by kernel_rfl) (by simp) ?_
        refine' AllReadyH.cons (o := ?ob13z8) ?hb13z8 ?kb13z8 AllReadyH.nil
        case hb13z8 => (simp only [List.getElem?_toArray, List.getElem?_cons_succ, List.getElem?_cons_zero]; rfl)
        case kb13z8 =>
          intro K0 hK
          go_simp
          refine (AddT_any _ _ ca cb la lb _ HLa.out HLb.out (TA.out.keep SK6.out.bel) (TB.out.keep SK6.out.bel)).mono ?_
          rintro er wk14 ⟨v14, rfl, hX, hT⟩
          have SK14 := Lib.hid (SK6.out.below hX)
          have TP_14 := Lib.hid hT
          clear hT
          clear hX SK6 
          refine hK.out _ _ ?_ (fun hHeld => ?_)
          · exact ⟨(tot_cells (SK14.out.has (Has.r (Has.l (has_blk _ _ _))))).1, (tot_cells (SK14.out.has (Has.r (Has.l (has_blk _ _ _))))).2.1, (tot_cells (SK14.out.has (Has.r (Has.l (has_blk _ _ _))))).2.2, (tot_cells (SK14.out.has (Has.l (has_blk _ _ _)))).1, (tot_cells (SK14.out.has (Has.l (has_blk _ _ _)))).2.1, (tot_cells (SK14.out.has (Has.l (has_blk _ _ _)))).2.2⟩
          clear hK K0
          (try simp only [Act.put, List.setIfInBounds_toArray, List.set_cons_zero, List.set_cons_succ])
          (try clear hH2)
          refine wpAnyH_ready (rs := [11]) (by kernel_rfl) (by simp) ?_
          refine' AllReadyH.cons (o := ?ob15z11) ?hb15z11 ?kb15z11 AllReadyH.nil
          case hb15z11 => (simp only [List.getElem?_toArray, List.getElem?_cons_succ, List.getElem?_cons_zero]; rfl)
          case kb15z11 =>
            intro K0 hK
            go_simp
            refine (refAddT_any _ _ ca cb la lb _ HLa.out HLb.out (TA.out.keep SK14.out.bel) (TB.out.keep SK14.out.bel)).mono ?_
            rintro er wk16 ⟨v16, rfl, hX, hT⟩
            have SK16 := Lib.hid (SK14.out.below hX)
            have TP_16 := Lib.hid (TP_14.out.keep hX)
            have TQ_16 := Lib.hid hT
            clear hT
            clear hX SK14 TP_14
            refine hK.out _ _ ?_ (fun hHeld => ?_)
            · exact ⟨(tot_cells (SK16.out.has (Has.r (Has.l (has_blk _ _ _))))).1, (tot_cells (SK16.out.has (Has.r (Has.l (has_blk _ _ _))))).2.1, (tot_cells (SK16.out.has (Has.r (Has.l (has_blk _ _ _))))).2.2, (tot_cells (SK16.out.has (Has.l (has_blk _ _ _)))).1, (tot_cells (SK16.out.has (Has.l (has_blk _ _ _)))).2.1, (tot_cells (SK16.out.has (Has.l (has_blk _ _ _)))).2.2⟩
            clear hK K0
            (try simp only [Act.put, List.setIfInBounds_toArray, List.set_cons_zero, List.set_cons_succ])
            (try clear hH2)
            refine wpAnyH_ready (rs := [12]) (by kernel_rfl) (by simp) ?_
            refine' AllReadyH.cons (o := ?ob17z12) ?hb17z12 ?kb17z12 AllReadyH.nil
            case hb17z12 => (simp only [List.getElem?_toArray, List.getElem?_cons_succ, List.getElem?_cons_zero]; rfl)
            case kb17z12 =>
              intro K0 hK
              go_simp
              refine (refSame_eq _ _ (ca + cb) (sumL la lb) _ HLab.out TP_16.out TQ_16.out).mono ?_
              rintro er wk18 ⟨rfl, hX⟩
              have SK18 := Lib.hid (SK16.out.below hX)
              have TP_18 := Lib.hid (TP_16.out.keep hX)
              have TQ_18 := Lib.hid (TQ_16.out.keep hX)
              clear hX SK16 TP_16 TQ_16
              refine hK.out _ _ ?_ (fun hHeld => ?_)
              · exact ⟨(tot_cells (SK18.out.has (Has.r (Has.l (has_blk _ _ _))))).1, (tot_cells (SK18.out.has (Has.r (Has.l (has_blk _ _ _))))).2.1, (tot_cells (SK18.out.has (Has.r (Has.l (has_blk _ _ _))))).2.2, (tot_cells (SK18.out.has (Has.l (has_blk _ _ _)))).1, (tot_cells (SK18.out.has (Has.l (has_blk _ _ _)))).2.1, (tot_cells (SK18.out.has (Has.l (has_blk _ _ _)))).2.2⟩
              clear hK K0
              (try simp only [Act.put, List.setIfInBounds_toArray, List.set_cons_zero, List.set_cons_succ])
              (try clear hH2)
              refine' wpAnyH_take (i := 13) (oi := ?ot19z13) (v := ?vt19z13) ?ht19z13 ?st19z13 ?ft19z13 ?zt19z13 ?qt19z13 ?yt19z13 ?at19z13 ?rt19z13
              case ht19z13 => (simp only [List.getElem?_toArray, List.getElem?_cons_succ, List.getElem?_cons_zero]; rfl)
              case st19z13 => kernel_rfl
              case ft19z13 => kernel_rfl
              case zt19z13 => kernel_rfl
              case qt19z13 => exact fun _ _ _ h => h
              case yt19z13 => (refine Or.inl ⟨rfl, ?_⟩; intro w hSw; obtain ⟨s0, s1, s2, s3, s4, s5⟩ := hSw; go_simp; try with_reducible rfl)
              case at19z13 => assumption
              case rt19z13 =>
              simp only [Act.put, List.setIfInBounds_toArray, List.set_cons_zero, List.set_cons_succ]
              refine' wpAnyH_take (i := 14) (oi := ?ot20z14) (v := ?vt20z14) ?ht20z14 ?st20z14 ?ft20z14 ?zt20z14 ?qt20z14 ?yt20z14 ?at20z14 ?rt20z14
              case ht20z14 => (simp only [List.getElem?_toArray, List.getElem?_cons_succ, List.getElem?_cons_zero]; rfl)
              case st20z14 => kernel_rfl
              case ft20z14 => kernel_rfl
              case zt20z14 => kernel_rfl
              case qt20z14 => exact fun _ _ _ h => h
              case yt20z14 => (refine Or.inl ⟨rfl, ?_⟩; intro w hSw; obtain ⟨s0, s1, s2, s3, s4, s5⟩ := hSw; go_simp; try with_reducible rfl)
              case at20z14 => assumption
              case rt20z14 =>
              simp only [Act.put, List.setIfInBounds_toArray, List.set_cons_zero, List.set_cons_succ]
              refine' wpAnyH_take (i := 15) (oi := ?ot21z15) (v := ?vt21z15) ?ht21z15 ?st21z15 ?ft21z15 ?zt21z15 ?qt21z15 ?yt21z15 ?at21z15 ?rt21z15
              case ht21z15 => (simp only [List.getElem?_toArray, List.getElem?_cons_succ, List.getElem?_cons_zero]; rfl)
              case st21z15 => kernel_rfl
              case ft21z15 => kernel_rfl
              case zt21z15 => kernel_rfl
              case qt21z15 => exact fun _ _ _ h => h
              case yt21z15 => (refine Or.inl ⟨rfl, ?_⟩; intro w hSw; obtain ⟨s0, s1, s2, s3, s4, s5⟩ := hSw; go_simp; try with_reducible rfl)
              case at21z15 => assumption
              case rt21z15 =>
              simp only [Act.put, List.setIfInBounds_toArray, List.set_cons_zero, List.set_cons_succ]
              refine' wpAnyH_take (i := 16) (oi := ?ot22z16) (v := ?vt22z16) ?ht22z16 ?st22z16 ?ft22z16 ?zt22z16 ?qt22z16 ?yt22z16 ?at22z16 ?rt22z16
              case ht22z16 => (simp only [List.getElem?_toArray, List.getElem?_cons_succ, List.getElem?_cons_zero]; rfl)
              case st22z16 => kernel_rfl
              case ft22z16 => kernel_rfl
              case zt22z16 => kernel_rfl
              case qt22z16 => exact fun _ _ _ h => h
              case yt22z16 => (refine Or.inl ⟨rfl, ?_⟩; intro w hSw; obtain ⟨s0, s1, s2, s3, s4, s5⟩ := hSw; go_simp; try with_reducible rfl)
              case at22z16 => assumption
              case rt22z16 =>
              simp only [Act.put, List.setIfInBounds_toArray, List.set_cons_zero, List.set_cons_succ]
              refine' wpAnyH_take (i := 18) (oi := ?ot23z18) (v := ?vt23z18) ?ht23z18 ?st23z18 ?ft23z18 ?zt23z18 ?qt23z18 ?yt23z18 ?at23z18 ?rt23z18
              case ht23z18 => (simp only [List.getElem?_toArray, List.getElem?_cons_succ, List.getElem?_cons_zero]; rfl)
              case st23z18 => kernel_rfl
              case ft23z18 => kernel_rfl
              case zt23z18 => kernel_rfl
              case qt23z18 => exact fun _ _ _ h => h
              case yt23z18 => (refine Or.inl ⟨rfl, ?_⟩; intro w hSw; obtain ⟨s0, s1, s2, s3, s4, s5⟩ := hSw; go_simp; try with_reducible rfl)
              case at23z18 => assumption
              case rt23z18 =>
              simp only [Act.put, List.setIfInBounds_toArray, List.set_cons_zero, List.set_cons_succ]
              refine wpAnyH_ready (rs := [17]) (by kernel_rfl) (by simp) ?_
              refine' AllReadyH.cons (o := ?ob24z17) ?hb24z17 ?kb24z17 AllReadyH.nil
              case hb24z17 => (simp only [List.getElem?_toArray, List.getElem?_cons_succ, List.getElem?_cons_zero]; rfl)
              case kb24z17 =>
                intro K0 hK
                go_simp
                refine (HIs.out _ _ (TA.out.keep SK18.out.bel)).mono ?_
                rintro er wk25 ⟨rfl, hX⟩
                have SK25 := Lib.hid (SK18.out.below hX)
                have TP_25 := Lib.hid (TP_18.out.keep hX)
                have TQ_25 := Lib.hid (TQ_18.out.keep hX)
                clear hX SK18 TP_18 TQ_18
                refine hK.out _ _ ?_ (fun hHeld => ?_)
                · exact ⟨(tot_cells (SK25.out.has (Has.r (Has.l (has_blk _ _ _))))).1, (tot_cells (SK25.out.has (Has.r (Has.l (has_blk _ _ _))))).2.1, (tot_cells (SK25.out.has (Has.r (Has.l (has_blk _ _ _))))).2.2, (tot_cells (SK25.out.has (Has.l (has_blk _ _ _)))).1, (tot_cells (SK25.out.has (Has.l (has_blk _ _ _)))).2.1, (tot_cells (SK25.out.has (Has.l (has_blk _ _ _)))).2.2⟩
                clear hK K0
                (try simp only [Act.put, List.setIfInBounds_toArray, List.set_cons_zero, List.set_cons_succ])
                (try clear hH2)
                refine wpAnyH_ready (rs := [19]) (by kernel_rfl) (by simp) ?_
                refine' AllReadyH.cons (o := ?ob26z19) ?hb26z19 ?kb26z19 AllReadyH.nil
                case hb26z19 => (simp only [List.getElem?_toArray, List.getElem?_cons_succ, List.getElem?_cons_zero]; rfl)
                case kb26z19 =>
                  intro K0 hK
                  go_simp
                  refine (HIr.out _ _ (TA.out.keep SK25.out.bel)).mono ?_
                  rintro er wk27 ⟨rfl, hX⟩
                  have SK27 := Lib.hid (SK25.out.below hX)
                  have TP_27 := Lib.hid (TP_25.out.keep hX)
                  have TQ_27 := Lib.hid (TQ_25.out.keep hX)
                  clear hX SK25 TP_25 TQ_25
                  refine hK.out _ _ ?_ (fun hHeld => ?_)
                  · exact ⟨(tot_cells (SK27.out.has (Has.r (Has.l (has_blk _ _ _))))).1, (tot_cells (SK27.out.has (Has.r (Has.l (has_blk _ _ _))))).2.1, (tot_cells (SK27.out.has (Has.r (Has.l (has_blk _ _ _))))).2.2, (tot_cells (SK27.out.has (Has.l (has_blk _ _ _)))).1, (tot_cells (SK27.out.has (Has.l (has_blk _ _ _)))).2.1, (tot_cells (SK27.out.has (Has.l (has_blk _ _ _)))).2.2⟩
                  clear hK K0
                  (try simp only [Act.put, List.setIfInBounds_toArray, List.set_cons_zero, List.set_cons_succ])
                  (try clear hH2)
                  refine' wpAnyH_take (i := 20) (oi := ?ot28z20) (v := ?vt28z20) ?ht28z20 ?st28z20 ?ft28z20 ?zt28z20 ?qt28z20 ?yt28z20 ?at28z20 ?rt28z20
                  case ht28z20 => (simp only [List.getElem?_toArray, List.getElem?_cons_succ, List.getElem?_cons_zero]; rfl)
                  case st28z20 => kernel_rfl
                  case ft28z20 => kernel_rfl
                  case zt28z20 => kernel_rfl
                  case qt28z20 => exact fun _ _ _ h => h
                  case yt28z20 => (refine Or.inl ⟨rfl, ?_⟩; intro w hSw; obtain ⟨s0, s1, s2, s3, s4, s5⟩ := hSw; go_simp; try with_reducible rfl)
                  case at28z20 => assumption
                  case rt28z20 =>
                  simp only [Act.put, List.setIfInBounds_toArray, List.set_cons_zero, List.set_cons_succ]
                  refine' wpAnyH_take (i := 21) (oi := ?ot29z21) (v := ?vt29z21) ?ht29z21 ?st29z21 ?ft29z21 ?zt29z21 ?qt29z21 ?yt29z21 ?at29z21 ?rt29z21
                  case ht29z21 => (simp only [List.getElem?_toArray, List.getElem?_cons_succ, List.getElem?_cons_zero]; rfl)
                  case st29z21 => kernel_rfl
                  case ft29z21 => kernel_rfl
                  case zt29z21 => kernel_rfl
                  case qt29z21 => exact fun _ _ _ h => h
                  case yt29z21 => (refine Or.inl ⟨rfl, ?_⟩; intro w hSw; obtain ⟨s0, s1, s2, s3, s4, s5⟩ := hSw; go_simp; try with_reducible rfl)
                  case at29z21 => assumption
                  case rt29z21 =>
                  simp only [Act.put, List.setIfInBounds_toArray, List.set_cons_zero, List.set_cons_succ]
                  refine wpAnyH_done (by kernel_rfl) ?_ _
                  have SE := SK27
                  clear SK27 TP_27 TQ_27 HTo HTr HIs HIr TA TB HLa HLb HLab
                  generalize wk27 = we at *
                  by_cases hn : n < 0 ∨ 2 < n ∨ 0 ≤ n ∧ n ≤ 2 ∧ (s.size : Int) ≠ 16 * (1 + n)
                  · as_aux_lemma =>
                      have HR := Lib.hid (fun w => ReadTotal_no s n w (by omega) hn)
                      unfold totV at HR
                      rw [hi0, lo0] at HR
                      go_wp2_with fail
                      refine (HR.out _).mono ?_
                      rintro e w7 ⟨rfl, hX⟩
                      have S7 := Lib.hid (SE.out.below hX)
                      clear hX SE HR
                      go_upto_region 8 with fail
                      have S8 := Lib.hid (S7.out.alloc #[.int .i64 0, .int .u64 0, .slice none 0 0] 27)
                      obtain ⟨gt, hgz⟩ : ∃ g, g = w7.heap.size := ⟨_, rfl⟩
                      rw [← hgz] at S8 ⊢
                      clear hgz S7
                      generalize World.alloc w7 _ = w8 at *
                      obtain ⟨c0, c1, c2⟩ := tot_cells (S8.out.has (Has.l (has_blk _ _ _)))
                      have HS : Hid (∀ w, Calls Try.prog 8 #[.agg #[.int .i64 0, .int .u64 0, .slice none 0 0], .agg #[.int .i64 0, .int .u64 0, .slice none 0 0]] w fun e w' => e = .returned (.bool true) ∧ Below w.heap.size w w') := Lib.hid (fun w => by
                        have hz : IsTot w (.agg #[.int .i64 0, .int .u64 0, .slice none 0 0]) 0 [] := ⟨none, 0, by unfold totV; rw [hi0, lo0]; rfl, fun h => absurd rfl h⟩
                        exact refSame_eq _ _ 0 [] w (by decide) hz hz)
                      rcases hn with hn | hn | ⟨hn0, hn2, hn3⟩
                      · have hq : True := trivial
                        go_wp2_with fail
                        refine (HS.out _).mono ?_
                        rintro e w9 ⟨rfl, hX⟩
                        have S9 := Lib.hid (S8.out.below hX)
                        clear hX S8 HS c0 c1 c2
                        go_wp2_with fail
                        (try clear hn)
                        (try clear hn0)
                        (try clear hn2)
                        (try clear hn4)
                        (try clear hw1)
                        (try clear hw2)
                        refine (Nothing_any n _).mono ?_
                        rintro e w10 ⟨v, rfl, hX, hT⟩
                        have S10 := Lib.hid (S9.out.below hX)
                        clear hX S9
                        obtain ⟨E, ee, rfl, -⟩ := id hT
                        have TN := Lib.hid hT
                        clear hT
                        have hzl : (zer (cut2 n)).length = cut2 n := List.length_replicate
                        have hmx : min (max n 0) 2 = (cut2 n : Int) := by unfold cut2; split <;> (try split) <;> omega
                        have hnz : nothB 0 (zer (cut2 n)) = true := by unfold nothB zer; simp
                        have HI := Lib.hid (fun v w (h : IsTot w v 0 (zer (cut2 n))) => IsNothing_any v 0 _ w (by rw [hzl]; unfold cut2; split <;> (try split) <;> omega) h)
                        rw [hnz] at HI
                        unfold totV at *
                        rw [hzl] at TN ⊢
                        generalize cut2 n = cc at *
                        generalize zer cc = zz at *
                        clear hzl hnz
                        generalize hi 0 = zh, lo 0 = zlo at *
                        go_upto_region 14 with fail
                        have S11 := Lib.hid (S10.out.alloc #[.int .i64 zh, .int .u64 zlo, .slice E cc ee] 27)
                        have TN11 := Lib.hid (TN.out.keep (show Below w10.heap.size w10 (w10.alloc (.cells #[.int .i64 zh, .int .u64 zlo, .slice E cc ee] 27)) from blA (Below.refl _ _) _))
                        obtain ⟨gu, hgz⟩ : ∃ g, g = w10.heap.size := ⟨_, rfl⟩
                        rw [← hgz] at S11 ⊢
                        clear hgz S10 TN
                        generalize World.alloc w10 _ = w11 at *
                        obtain ⟨c0, c1, c2⟩ := tot_cells (S11.out.has (Has.l (has_blk _ _ _)))
                        go_wp2_with fail
                        refine (HI.out _ _ TN11.out).mono ?_
                        rintro e w12 ⟨rfl, hX⟩
                        have S12 := Lib.hid (S11.out.below hX)
                        clear hX S11 TN11 HI c0 c1 c2
                        obtain ⟨c0, c1, c2⟩ := tot_cells (S12.out.has (Has.l (has_blk _ _ _)))
                        go_wp2_with fail
                        go_returns
                        exact ⟨rfl, S12.out.bel⟩


                      · have hn0 : ¬ n < 0 := by omega
                        go_wp2_with fail
                        refine (HS.out _).mono ?_
                        rintro e w9 ⟨rfl, hX⟩
                        have S9 := Lib.hid (S8.out.below hX)
                        clear hX S8 HS c0 c1 c2
                        go_wp2_with fail
                        (try clear hn)
                        (try clear hn0)
                        (try clear hn2)
                        (try clear hn4)
                        (try clear hw1)
                        (try clear hw2)
                        refine (Nothing_any n _).mono ?_
                        rintro e w10 ⟨v, rfl, hX, hT⟩
                        have S10 := Lib.hid (S9.out.below hX)
                        clear hX S9
                        obtain ⟨E, ee, rfl, -⟩ := id hT
                        have TN := Lib.hid hT
                        clear hT
                        have hzl : (zer (cut2 n)).length = cut2 n := List.length_replicate
                        have hmx : min (max n 0) 2 = (cut2 n : Int) := by unfold cut2; split <;> (try split) <;> omega
                        have hnz : nothB 0 (zer (cut2 n)) = true := by unfold nothB zer; simp
                        have HI := Lib.hid (fun v w (h : IsTot w v 0 (zer (cut2 n))) => IsNothing_any v 0 _ w (by rw [hzl]; unfold cut2; split <;> (try split) <;> omega) h)
                        rw [hnz] at HI
                        unfold totV at *
                        rw [hzl] at TN ⊢
                        generalize cut2 n = cc at *
                        generalize zer cc = zz at *
                        clear hzl hnz
                        generalize hi 0 = zh, lo 0 = zlo at *
                        go_upto_region 14 with fail
                        have S11 := Lib.hid (S10.out.alloc #[.int .i64 zh, .int .u64 zlo, .slice E cc ee] 27)
                        have TN11 := Lib.hid (TN.out.keep (show Below w10.heap.size w10 (w10.alloc (.cells #[.int .i64 zh, .int .u64 zlo, .slice E cc ee] 27)) from blA (Below.refl _ _) _))
                        obtain ⟨gu, hgz⟩ : ∃ g, g = w10.heap.size := ⟨_, rfl⟩
                        rw [← hgz] at S11 ⊢
                        clear hgz S10 TN
                        generalize World.alloc w10 _ = w11 at *
                        obtain ⟨c0, c1, c2⟩ := tot_cells (S11.out.has (Has.l (has_blk _ _ _)))
                        go_wp2_with fail
                        refine (HI.out _ _ TN11.out).mono ?_
                        rintro e w12 ⟨rfl, hX⟩
                        have S12 := Lib.hid (S11.out.below hX)
                        clear hX S11 TN11 HI c0 c1 c2
                        obtain ⟨c0, c1, c2⟩ := tot_cells (S12.out.has (Has.l (has_blk _ _ _)))
                        go_wp2_with fail
                        go_returns
                        exact ⟨rfl, S12.out.bel⟩


                      · have hn0 : ¬ n < 0 := by omega
                        have hn2 : ¬ 2 < n := by omega
                        have hw1 : IntKind.i64.wrap (16 * n) = 16 * n := by rw [i64_is, IntWalk.wrap64_in _ ⟨by omega, by omega⟩]
                        have hw2 : IntKind.i64.wrap (16 + 16 * n) = 16 + 16 * n := by rw [i64_is, IntWalk.wrap64_in _ ⟨by omega, by omega⟩]
                        have hn4 : ((s.size : Int) != 16 + 16 * n) = true := bne_iff_ne.2 (by omega)
                        clear hn3
                        go_wp2_with fail
                        refine (HS.out _).mono ?_
                        rintro e w9 ⟨rfl, hX⟩
                        have S9 := Lib.hid (S8.out.below hX)
                        clear hX S8 HS c0 c1 c2
                        go_wp2_with fail
                        (try clear hn)
                        (try clear hn0)
                        (try clear hn2)
                        (try clear hn4)
                        (try clear hw1)
                        (try clear hw2)
                        refine (Nothing_any n _).mono ?_
                        rintro e w10 ⟨v, rfl, hX, hT⟩
                        have S10 := Lib.hid (S9.out.below hX)
                        clear hX S9
                        obtain ⟨E, ee, rfl, -⟩ := id hT
                        have TN := Lib.hid hT
                        clear hT
                        have hzl : (zer (cut2 n)).length = cut2 n := List.length_replicate
                        have hmx : min (max n 0) 2 = (cut2 n : Int) := by unfold cut2; split <;> (try split) <;> omega
                        have hnz : nothB 0 (zer (cut2 n)) = true := by unfold nothB zer; simp
                        have HI := Lib.hid (fun v w (h : IsTot w v 0 (zer (cut2 n))) => IsNothing_any v 0 _ w (by rw [hzl]; unfold cut2; split <;> (try split) <;> omega) h)
                        rw [hnz] at HI
                        unfold totV at *
                        rw [hzl] at TN ⊢
                        generalize cut2 n = cc at *
                        generalize zer cc = zz at *
                        clear hzl hnz
                        generalize hi 0 = zh, lo 0 = zlo at *
                        go_upto_region 14 with fail
                        have S11 := Lib.hid (S10.out.alloc #[.int .i64 zh, .int .u64 zlo, .slice E cc ee] 27)
                        have TN11 := Lib.hid (TN.out.keep (show Below w10.heap.size w10 (w10.alloc (.cells #[.int .i64 zh, .int .u64 zlo, .slice E cc ee] 27)) from blA (Below.refl _ _) _))
                        obtain ⟨gu, hgz⟩ : ∃ g, g = w10.heap.size := ⟨_, rfl⟩
                        rw [← hgz] at S11 ⊢
                        clear hgz S10 TN
                        generalize World.alloc w10 _ = w11 at *
                        obtain ⟨c0, c1, c2⟩ := tot_cells (S11.out.has (Has.l (has_blk _ _ _)))
                        go_wp2_with fail
                        refine (HI.out _ _ TN11.out).mono ?_
                        rintro e w12 ⟨rfl, hX⟩
                        have S12 := Lib.hid (S11.out.below hX)
                        clear hX S11 TN11 HI c0 c1 c2
                        obtain ⟨c0, c1, c2⟩ := tot_cells (S12.out.has (Has.l (has_blk _ _ _)))
                        go_wp2_with fail
                        go_returns
                        exact ⟨rfl, S12.out.bel⟩


                  · as_aux_lemma =>
                      obtain ⟨m, rfl⟩ : ∃ m : Nat, n = m := ⟨n.toNat, by omega⟩
                      have hm2 : m ≤ 2 := by omega
                      have hss : s.size = 16 * (1 + m) := by omega
                      have HR := Lib.hid (fun w => ReadTotal_yes s m w hm2 hss)
                      have HT := Lib.hid (fun v w (h : IsTot w v (readZ (s.extract 0 16)) (rdL s m)) => refTotal_any v _ _ w (by rw [rdL_len]; omega) h)
                      rw [read_total s m hss] at HT
                      generalize readZ (s.extract 0 16) = rc, rdL s m = rl at *
                      go_wp2_with fail
                      refine (HR.out _).mono ?_
                      rintro e w7 ⟨v, rfl, hX, hT⟩
                      have S7 := Lib.hid (SE.out.below hX)
                      clear hX SE HR
                      obtain ⟨D, d, rfl, -⟩ := id hT
                      have TT := Lib.hid hT
                      clear hT
                      unfold totV at *
                      generalize hi rc = rh, lo rc = rlo at *
                      go_upto_region 8 with fail
                      have S8 := Lib.hid (S7.out.alloc #[.int .i64 rh, .int .u64 rlo, .slice D rl.length d] 27)
                      have TT8 := Lib.hid (TT.out.keep (show Below w7.heap.size w7 (w7.alloc (.cells #[.int .i64 rh, .int .u64 rlo, .slice D rl.length d] 27)) from blA (Below.refl _ _) _))
                      obtain ⟨gt, hgz⟩ : ∃ g, g = w7.heap.size := ⟨_, rfl⟩
                      rw [← hgz] at S8 ⊢
                      clear hgz S7 TT
                      generalize World.alloc w7 _ = w8 at *
                      obtain ⟨c0, c1, c2⟩ := tot_cells (S8.out.has (Has.l (has_blk _ _ _)))
                      have hn0 : ¬ (m : Int) < 0 := by omega
                      have hn2 : ¬ 2 < (m : Int) := by omega
                      have hw1 : IntKind.i64.wrap (16 * (m : Int)) = 16 * m := by rw [i64_is, IntWalk.wrap64_in _ ⟨by omega, by omega⟩]
                      have hw2 : IntKind.i64.wrap (16 + 16 * (m : Int)) = 16 + 16 * m := by rw [i64_is, IntWalk.wrap64_in _ ⟨by omega, by omega⟩]
                      have hn4 : ((s.size : Int) != 16 + 16 * (m : Int)) = false := by rw [bne_eq_false_iff_eq]; omega
                      clear hss hsz
                      go_wp2_with fail
                      refine (HT.out _ _ TT8.out).mono ?_
                      rintro e w9 ⟨rfl, hX⟩
                      have S9 := Lib.hid (S8.out.below hX)
                      clear hX S8 TT8 HT c0 c1 c2 hw1 hw2 hn4
                      go_wp2_with fail
                      clear hn hn0 hn2
                      generalize (m : Int) = nn at *
                      refine (Nothing_any (nn) _).mono ?_
                      rintro e w10 ⟨v, rfl, hX, hT⟩
                      have S10 := Lib.hid (S9.out.below hX)
                      clear hX S9
                      obtain ⟨E, ee, rfl, -⟩ := id hT
                      have TN := Lib.hid hT
                      clear hT
                      have hzl : (zer (cut2 (nn))).length = cut2 (nn) := List.length_replicate
                      have hmx : min (max (nn) 0) 2 = (cut2 (nn) : Int) := by unfold cut2; split <;> (try split) <;> omega
                      have hnz : nothB 0 (zer (cut2 (nn))) = true := by unfold nothB zer; simp
                      have HI := Lib.hid (fun v w (h : IsTot w v 0 (zer (cut2 (nn)))) => IsNothing_any v 0 _ w (by rw [hzl]; unfold cut2; split <;> (try split) <;> omega) h)
                      rw [hnz] at HI
                      unfold totV at *
                      rw [hzl] at TN ⊢
                      generalize cut2 (nn) = cc at *
                      generalize zer cc = zz at *
                      clear hzl hnz
                      generalize hi 0 = zh, lo 0 = zlo at *
                      go_upto_region 14 with fail
                      have S11 := Lib.hid (S10.out.alloc #[.int .i64 zh, .int .u64 zlo, .slice E cc ee] 27)
                      have TN11 := Lib.hid (TN.out.keep (show Below w10.heap.size w10 (w10.alloc (.cells #[.int .i64 zh, .int .u64 zlo, .slice E cc ee] 27)) from blA (Below.refl _ _) _))
                      obtain ⟨gu, hgz⟩ : ∃ g, g = w10.heap.size := ⟨_, rfl⟩
                      rw [← hgz] at S11 ⊢
                      clear hgz S10 TN
                      generalize World.alloc w10 _ = w11 at *
                      obtain ⟨c0, c1, c2⟩ := tot_cells (S11.out.has (Has.l (has_blk _ _ _)))
                      go_wp2_with fail
                      refine (HI.out _ _ TN11.out).mono ?_
                      rintro e w12 ⟨rfl, hX⟩
                      have S12 := Lib.hid (S11.out.below hX)
                      clear hX S11 TN11 HI c0 c1 c2
                      obtain ⟨c0, c1, c2⟩ := tot_cells (S12.out.has (Has.l (has_blk _ _ _)))
                      go_wp2_with fail
                      go_returns
                      exact ⟨rfl, S12.out.bel⟩

end Go.Proofs.Ytoofoalpffoheaa.Pn
