/- WideExact's walk. -/
import Derived.Test.YtggpcebcmoopnaaWdE
import Derived.Test.YtggpcebcmoopnaaWdK
import Derived.Test.YtggpcebcmoopnaaWdL
namespace Go.Proofs.Ytggpcebcmoopnaa.Wd
open Go.ChangeShapes Go.WideShapes Go.ChangeAt Go.RowKit Go.PlainAid Aid
set_option linter.unusedVariables false
set_option linter.unusedSimpArgs false
/-- A row of truths, as it lies. -/
theorem ld_of {W : World} {g : Nat} {f : Nat → Bool} (h : Blk W g 26 (Bs f)) : W.rangeAt g 0 (Ls f) := by
  intro j v hv
  rw [Nat.zero_add, h.cell]
  simpa [Bs] using hv
set_option maxHeartbeats 16000000 in
set_option maxRecDepth 100000 in
theorem exact_walk (ah al bh bl sh sl dh dl ph pl oh ol n D kk : Int) (is : Bool) (fx fy fs fn fd fp : Nat → Bool) (cs s : ByteArray) (w : World)
    (A1 : Gv 6 #[.agg #[.int .i64 ah, .int .u64 al]] (.agg (Bs fx)))
    (A2 : Gv 6 #[.agg #[.int .i64 bh, .int .u64 bl]] (.agg (Bs fy)))
    (B1 : Gv 7 #[.agg #[.int .i64 ah, .int .u64 al], .agg #[.int .i64 bh, .int .u64 bl]] (.agg #[.int .i64 sh, .int .u64 sl]))
    (B2 : Gv 9 #[.agg (Ls fx).toArray, .agg (Ls fy).toArray, .bool false] (.agg (Ls fs).toArray))
    (B3 : Gv 8 #[.agg (Ls fs).toArray] (.agg #[.int .i64 sh, .int .u64 sl]))
    (B4 : Gv 10 #[.agg #[.int .i64 ah, .int .u64 al], .agg #[.int .i64 bh, .int .u64 bl]] (.agg #[.int .i64 dh, .int .u64 dl]))
    (B5 : Gv 11 #[.agg (Ls fy).toArray] (.agg (Ls fn).toArray))
    (B6 : Gv 9 #[.agg (Ls fx).toArray, .agg (Ls fn).toArray, .bool true] (.agg (Ls fd).toArray))
    (B7 : Gv 8 #[.agg (Ls fd).toArray] (.agg #[.int .i64 dh, .int .u64 dl]))
    (C1 : Gv 12 #[.agg #[.int .i64 ah, .int .u64 al], .agg #[.int .i64 bh, .int .u64 bl]] (.int .i64 D))
    (C2 : Gv 13 #[.agg (Ls fx).toArray, .agg (Ls fy).toArray] (.int .i64 D))
    (C3 : Gv 14 #[.agg #[.int .i64 ah, .int .u64 al], .int .i64 n] (.agg #[.int .i64 ph, .int .u64 pl]))
    (C4 : Gv 15 #[.agg (Ls fx).toArray, .int .i64 n] (.agg (Ls fp).toArray))
    (C5 : Gv 8 #[.agg (Ls fp).toArray] (.agg #[.int .i64 ph, .int .u64 pl]))
    (C6 : Gv 16 #[.agg #[.int .i64 ah, .int .u64 al]] (.string cs))
    (C7 : Gv 17 #[.agg #[.int .i64 ah, .int .u64 al]] (.string cs))
    (E1 : Gv 18 #[.agg #[.int .i64 ah, .int .u64 al]] (.tuple #[.int .i64 kk, .bool is]))
    (E2 : Gv 19 #[.int .i64 n] (.agg #[.int .i64 oh, .int .u64 ol]))
    (hsz : s.size ≤ 40)
    (hI : (is = true ∧ kk = wrap64 al ∧ ((ah = 0 ∧ al < 9223372036854775808) ∨ (ah = -1 ∧ 9223372036854775808 ≤ al))) ∨ (is = false ∧ kk = 0 ∧ ((ah = 0 ∧ 9223372036854775808 ≤ al) ∨ (ah = -1 ∧ al < 9223372036854775808) ∨ (ah ≠ 0 ∧ ah ≠ -1))))
    (hol : IntKind.u64.wrap n = ol) (hO : (n < 0 ∧ oh = -1) ∨ (¬ n < 0 ∧ oh = 0))
    (hR : (s.size ≠ 16 ∧ Gv 20 #[.string s] (.tuple #[.agg #[.int .i64 0, .int .u64 0], .int .i64 3])) ∨ (s.size = 16 ∧ ∃ rh rl, Gv 20 #[.string s] (.tuple #[.agg #[.int .i64 rh, .int .u64 rl], .int .i64 0]) ∧ Gv 17 #[.agg #[.int .i64 rh, .int .u64 rl]] (.string s))) :
    Calls Try.prog 3 #[.agg #[.int .i64 ah, .int .u64 al], .agg #[.int .i64 bh, .int .u64 bl], .int .i64 n, .string s] w fun e w' => e = .returned (.bool true) ∧ Below w.heap.size w w' := by
  have S0 := Lib.hid (((Own.none w).alloc #[.int .i64 ah, .int .u64 al] 24).alloc #[.int .i64 bh, .int .u64 bl] 24)
  go_enter Try.func3, Try.ntmps3
  simp only [World.size_alloc] at S0
  go_upto_region 1 with fail
  obtain ⟨g4, hgz⟩ : ∃ g, g = w.heap.size := ⟨_, rfl⟩
  rw [← hgz] at S0 ⊢
  clear hgz
  generalize World.alloc (World.alloc w _) _ = w1 at *
  generalize g4 + 1 = g5 at *
  go_wp2_with fail
  refine (awake_any _).mono ?_
  rintro e w2 ⟨rfl, hX⟩
  have S1 := Lib.hid (S0.out.below hX)
  clear hX S0 
  have hs2 : ¬ (s.size : Int) > 40 := by omega
  go_upto_region 5 with fail
  obtain ⟨⟨qb0, qb1⟩, -⟩ := two_of (S1.out.has (Has.l (has_blk g5 _ _)))
  obtain ⟨⟨qa0, qa1⟩, -⟩ := two_of (S1.out.has (Has.r (Has.l (has_blk g4 _ _))))
  go_wp2_with fail
  refine (A1 _).mono ?_
  rintro e w3 ⟨rfl, hX⟩
  have S2 := Lib.hid (S1.out.below hX)
  clear hX S1 
  clear qb0 qb1 qa0 qa1
  have S9 := Lib.hid (own_setRow (S2.out.alloc (Bs fun _ => false) 26) (Bs fx))
  clear S2
  go_upto_region 6 with (with_reducible first | refine list_allocB rfl 9 rfl rfl ?_ | refine list_storeB rfl (.tmp 9) (.tmp 23) rfl rfl w3.heap.size fx (fun _ => false) ?aqa ?bqa (Blk.new _ _ _) ?_)
  all_goals try rfl
  obtain ⟨g9, hgz⟩ : ∃ g, g = w3.heap.size := ⟨_, rfl⟩
  rw [← hgz] at S9 ⊢
  clear hgz
  generalize World.setRow (World.alloc w3 _) _ _ = w4 at *
  have S3 := S9
  clear S9
  simp only [Act.put, List.setIfInBounds_toArray, List.set_cons_zero, List.set_cons_succ]
  obtain ⟨⟨qb0, qb1⟩, -⟩ := two_of (S3.out.has (Has.r (Has.l (has_blk g5 _ _))))
  go_wp2_with fail
  refine (A2 _).mono ?_
  rintro e w5 ⟨rfl, hX⟩
  have S4 := Lib.hid (S3.out.below hX)
  clear hX S3 
  clear qb0 qb1
  have S9 := Lib.hid (own_setRow (S4.out.alloc (Bs fun _ => false) 26) (Bs fy))
  clear S4
  go_upto_region 7 with (with_reducible first | refine list_allocB rfl 10 rfl rfl ?_ | refine list_storeB rfl (.tmp 10) (.tmp 25) rfl rfl w5.heap.size fy (fun _ => false) ?aqb ?bqb (Blk.new _ _ _) ?_)
  all_goals try rfl
  obtain ⟨g10, hgz⟩ : ∃ g, g = w5.heap.size := ⟨_, rfl⟩
  rw [← hgz] at S9 ⊢
  clear hgz
  generalize World.setRow (World.alloc w5 _) _ _ = w6 at *
  have S5 := S9
  clear S9
  simp only [Act.put, List.setIfInBounds_toArray, List.set_cons_zero, List.set_cons_succ]
  have S1 := Lib.hid (S5.out.re (show _ = Asn.blk g5 24 #[.int .i64 bh, .int .u64 bl] * (Asn.blk g4 24 #[.int .i64 ah, .int .u64 al] * (Asn.blk g9 26 (Bs fx) * (Asn.blk g10 26 (Bs fy) * (Asn.emp)))) by ac_rfl))
  clear S5
  obtain ⟨⟨qb0, qb1⟩, -⟩ := two_of (S1.out.has (Has.l (has_blk g5 _ _)))
  obtain ⟨⟨qa0, qa1⟩, -⟩ := two_of (S1.out.has (Has.r (Has.l (has_blk g4 _ _))))
  have lfx := ld_of (S1.out.has (Has.r (Has.r (Has.l (has_blk g9 _ _)))))
  have lfy := ld_of (S1.out.has (Has.r (Has.r (Has.r (Has.l (has_blk g10 _ _))))))
  have hu26 := Try.underlying26
  have hi26 : ∀ f, (Try.prog.info? 26).map (·.size) = some (Ls f).length := fun f => sizeB f
  have S9 := Lib.hid S1.out.drew
  clear S1
  have S1 := S9
  clear S9
  clear qb0 qb1 qa0 qa1 lfx lfy
  obtain ⟨⟨qb0, qb1⟩, -⟩ := two_of (S1.out.has (Has.l (has_blk g5 _ _)))
  obtain ⟨⟨qa0, qa1⟩, -⟩ := two_of (S1.out.has (Has.r (Has.l (has_blk g4 _ _))))
  have lfx := ld_of (S1.out.has (Has.r (Has.r (Has.l (has_blk g9 _ _)))))
  have lfy := ld_of (S1.out.has (Has.r (Has.r (Has.r (Has.l (has_blk g10 _ _))))))
  refine wp_region_held_drew (S := (fun W : World => Hid (Own w No W (Asn.blk g5 24 #[.int .i64 bh, .int .u64 bl] * (Asn.blk g4 24 #[.int .i64 ah, .int .u64 al] * (Asn.blk g9 26 (Bs fx) * (Asn.blk g10 26 (Bs fy) * (Asn.emp)))))) ∧ W.cell? ⟨g5, 0, none⟩ = some (.int .i64 bh) ∧ W.cell? ⟨g5, 1, none⟩ = some (.int .u64 bl) ∧ W.cell? ⟨g4, 0, none⟩ = some (.int .i64 ah) ∧ W.cell? ⟨g4, 1, none⟩ = some (.int .u64 al) ∧ W.rangeAt g9 0 (Ls fx) ∧ W.rangeAt g10 0 (Ls fy))) (by kernel_rfl) ⟨S1, qb0, qb1, qa0, qa1, lfx, lfy⟩ (fun hHeld => ?_)
  generalize w6.drew = wd at *
  refine' wpAnyH_take (i := 0) (oi := ?ot1z0) (v := ?vt1z0) ?ht1z0 ?st1z0 ?ft1z0 ?zt1z0 ?qt1z0 ?yt1z0 ?at1z0 ?rt1z0
  case ht1z0 => (simp only [List.getElem?_toArray, List.getElem?_cons_succ, List.getElem?_cons_zero]; rfl)
  case st1z0 => kernel_rfl
  case ft1z0 => kernel_rfl
  case zt1z0 => kernel_rfl
  case qt1z0 => exact fun _ _ _ h => h
  case yt1z0 => (refine Or.inl ⟨rfl, ?_⟩; intro w hSw; (try dsimp only at hSw); obtain ⟨s0, s1, s2, s3, s4, s5, s6⟩ := hSw; go_simp; try with_reducible rfl)
  case at1z0 => assumption
  case rt1z0 =>
  simp only [Act.put, List.setIfInBounds_toArray, List.set_cons_zero, List.set_cons_succ]
  refine' wpAnyH_take (i := 1) (oi := ?ot2z1) (v := ?vt2z1) ?ht2z1 ?st2z1 ?ft2z1 ?zt2z1 ?qt2z1 ?yt2z1 ?at2z1 ?rt2z1
  case ht2z1 => (simp only [List.getElem?_toArray, List.getElem?_cons_succ, List.getElem?_cons_zero]; rfl)
  case st2z1 => kernel_rfl
  case ft2z1 => kernel_rfl
  case zt2z1 => kernel_rfl
  case qt2z1 => exact fun _ _ _ h => h
  case yt2z1 => (refine Or.inl ⟨rfl, ?_⟩; intro w hSw; (try dsimp only at hSw); obtain ⟨s0, s1, s2, s3, s4, s5, s6⟩ := hSw; go_simp; try with_reducible rfl)
  case at2z1 => assumption
  case rt2z1 =>
  simp only [Act.put, List.setIfInBounds_toArray, List.set_cons_zero, List.set_cons_succ]
  refine' wpAnyH_take (i := 3) (oi := ?ot3z3) (v := ?vt3z3) ?ht3z3 ?st3z3 ?ft3z3 ?zt3z3 ?qt3z3 ?yt3z3 ?at3z3 ?rt3z3
  case ht3z3 => (simp only [List.getElem?_toArray, List.getElem?_cons_succ, List.getElem?_cons_zero]; rfl)
  case st3z3 => kernel_rfl
  case ft3z3 => kernel_rfl
  case zt3z3 => kernel_rfl
  case qt3z3 => exact fun _ _ _ h => h
  case yt3z3 => (refine yieldsIf_load_mid ?w7y3 _ ?x7y3 ?o7y3 ?b7y3 ?of7y3 ?hx7y3 (Ls fx) _ ?s7y3 hu26 ?d7y3 (hi26 fx); (case o7y3 => exact rfl); (case hx7y3 => exact rfl); (case d7y3 => exact rfl); (case w7y3 => exact rfl); (case s7y3 => (intro W hSw; (try dsimp only at hSw); obtain ⟨s0, s1, s2, s3, s4, s5, s6⟩ := hSw; assumption)))
  case at3z3 => assumption
  case rt3z3 =>
  simp only [Act.put, List.setIfInBounds_toArray, List.set_cons_zero, List.set_cons_succ]
  refine' wpAnyH_take (i := 4) (oi := ?ot4z4) (v := ?vt4z4) ?ht4z4 ?st4z4 ?ft4z4 ?zt4z4 ?qt4z4 ?yt4z4 ?at4z4 ?rt4z4
  case ht4z4 => (simp only [List.getElem?_toArray, List.getElem?_cons_succ, List.getElem?_cons_zero]; rfl)
  case st4z4 => kernel_rfl
  case ft4z4 => kernel_rfl
  case zt4z4 => kernel_rfl
  case qt4z4 => exact fun _ _ _ h => h
  case yt4z4 => (refine yieldsIf_load_mid ?w7y4 _ ?x7y4 ?o7y4 ?b7y4 ?of7y4 ?hx7y4 (Ls fy) _ ?s7y4 hu26 ?d7y4 (hi26 fy); (case o7y4 => exact rfl); (case hx7y4 => exact rfl); (case d7y4 => exact rfl); (case w7y4 => exact rfl); (case s7y4 => (intro W hSw; (try dsimp only at hSw); obtain ⟨s0, s1, s2, s3, s4, s5, s6⟩ := hSw; assumption)))
  case at4z4 => assumption
  case rt4z4 =>
  simp only [Act.put, List.setIfInBounds_toArray, List.set_cons_zero, List.set_cons_succ]
  refine wpAnyH_ready (rs := [2]) (by kernel_rfl) (by simp) ?_
  refine' AllReadyH.cons (o := ?ob5z2) ?hb5z2 ?kb5z2 AllReadyH.nil
  case hb5z2 => (simp only [List.getElem?_toArray, List.getElem?_cons_succ, List.getElem?_cons_zero]; rfl)
  case kb5z2 =>
    intro K0 hK
    go_simp
    with_reducible (refine (B1 _).mono ?_)
    rintro e wdx ⟨rfl, hX⟩
    have S9 := Lib.hid (S1.out.below hX)
    clear S1 hX qb0 qb1 qa0 qa1 lfx lfy
    have S1 := S9
    clear S9
    obtain ⟨⟨qb0, qb1⟩, -⟩ := two_of (S1.out.has (Has.l (has_blk g5 _ _)))
    obtain ⟨⟨qa0, qa1⟩, -⟩ := two_of (S1.out.has (Has.r (Has.l (has_blk g4 _ _))))
    have lfx := ld_of (S1.out.has (Has.r (Has.r (Has.l (has_blk g9 _ _)))))
    have lfy := ld_of (S1.out.has (Has.r (Has.r (Has.r (Has.l (has_blk g10 _ _))))))
    go_wp2_with fail
    refine hK.out _ _ ?_ (fun hHeld => ?_)
    · exact ⟨S1, qb0, qb1, qa0, qa1, lfx, lfy⟩
    clear hK K0
    (try simp only [Act.put, List.setIfInBounds_toArray, List.set_cons_zero, List.set_cons_succ])
    (try clear hH2)
    refine wpAnyH_ready (rs := [5]) (by kernel_rfl) (by simp) ?_
    refine' AllReadyH.cons (o := ?ob7z5) ?hb7z5 ?kb7z5 AllReadyH.nil
    case hb7z5 => (simp only [List.getElem?_toArray, List.getElem?_cons_succ, List.getElem?_cons_zero]; rfl)
    case kb7z5 =>
      intro K0 hK
      go_simp
      with_reducible (refine (B2 _).mono ?_)
      rintro e wdxx ⟨rfl, hX⟩
      have S9 := Lib.hid (S1.out.below hX)
      clear S1 hX qb0 qb1 qa0 qa1 lfx lfy
      have S1 := S9
      clear S9
      obtain ⟨⟨qb0, qb1⟩, -⟩ := two_of (S1.out.has (Has.l (has_blk g5 _ _)))
      obtain ⟨⟨qa0, qa1⟩, -⟩ := two_of (S1.out.has (Has.r (Has.l (has_blk g4 _ _))))
      have lfx := ld_of (S1.out.has (Has.r (Has.r (Has.l (has_blk g9 _ _)))))
      have lfy := ld_of (S1.out.has (Has.r (Has.r (Has.r (Has.l (has_blk g10 _ _))))))
      go_wp2_with fail
      refine hK.out _ _ ?_ (fun hHeld => ?_)
      · exact ⟨S1, qb0, qb1, qa0, qa1, lfx, lfy⟩
      clear hK K0
      (try simp only [Act.put, List.setIfInBounds_toArray, List.set_cons_zero, List.set_cons_succ])
      (try clear hH2)
      refine wpAnyH_ready (rs := [6]) (by kernel_rfl) (by simp) ?_
      refine' AllReadyH.cons (o := ?ob9z6) ?hb9z6 ?kb9z6 AllReadyH.nil
      case hb9z6 => (simp only [List.getElem?_toArray, List.getElem?_cons_succ, List.getElem?_cons_zero]; rfl)
      case kb9z6 =>
        intro K0 hK
        go_simp
        with_reducible (refine (B3 _).mono ?_)
        rintro e wdxxx ⟨rfl, hX⟩
        have S9 := Lib.hid (S1.out.below hX)
        clear S1 hX qb0 qb1 qa0 qa1 lfx lfy
        have S1 := S9
        clear S9
        obtain ⟨⟨qb0, qb1⟩, -⟩ := two_of (S1.out.has (Has.l (has_blk g5 _ _)))
        obtain ⟨⟨qa0, qa1⟩, -⟩ := two_of (S1.out.has (Has.r (Has.l (has_blk g4 _ _))))
        have lfx := ld_of (S1.out.has (Has.r (Has.r (Has.l (has_blk g9 _ _)))))
        have lfy := ld_of (S1.out.has (Has.r (Has.r (Has.r (Has.l (has_blk g10 _ _))))))
        go_wp2_with fail
        refine hK.out _ _ ?_ (fun hHeld => ?_)
        · exact ⟨S1, qb0, qb1, qa0, qa1, lfx, lfy⟩
        clear hK K0
        (try simp only [Act.put, List.setIfInBounds_toArray, List.set_cons_zero, List.set_cons_succ])
        (try clear hH2)
        refine' wpAnyH_take (i := 7) (oi := ?ot11z7) (v := ?vt11z7) ?ht11z7 ?st11z7 ?ft11z7 ?zt11z7 ?qt11z7 ?yt11z7 ?at11z7 ?rt11z7
        case ht11z7 => (simp only [List.getElem?_toArray, List.getElem?_cons_succ, List.getElem?_cons_zero]; rfl)
        case st11z7 => kernel_rfl
        case ft11z7 => kernel_rfl
        case zt11z7 => kernel_rfl
        case qt11z7 => exact fun _ _ _ h => h
        case yt11z7 => (refine Or.inl ⟨rfl, ?_⟩; intro w hSw; (try dsimp only at hSw); obtain ⟨s0, s1, s2, s3, s4, s5, s6⟩ := hSw; go_simp; try with_reducible rfl)
        case at11z7 => assumption
        case rt11z7 =>
        simp only [Act.put, List.setIfInBounds_toArray, List.set_cons_zero, List.set_cons_succ]
        refine' wpAnyH_take (i := 8) (oi := ?ot12z8) (v := ?vt12z8) ?ht12z8 ?st12z8 ?ft12z8 ?zt12z8 ?qt12z8 ?yt12z8 ?at12z8 ?rt12z8
        case ht12z8 => (simp only [List.getElem?_toArray, List.getElem?_cons_succ, List.getElem?_cons_zero]; rfl)
        case st12z8 => kernel_rfl
        case ft12z8 => kernel_rfl
        case zt12z8 => kernel_rfl
        case qt12z8 => exact fun _ _ _ h => h
        case yt12z8 => (refine Or.inl ⟨rfl, ?_⟩; intro w hSw; (try dsimp only at hSw); obtain ⟨s0, s1, s2, s3, s4, s5, s6⟩ := hSw; go_simp; try with_reducible rfl)
        case at12z8 => assumption
        case rt12z8 =>
        simp only [Act.put, List.setIfInBounds_toArray, List.set_cons_zero, List.set_cons_succ]
        refine' wpAnyH_take (i := 9) (oi := ?ot13z9) (v := ?vt13z9) ?ht13z9 ?st13z9 ?ft13z9 ?zt13z9 ?qt13z9 ?yt13z9 ?at13z9 ?rt13z9
        case ht13z9 => (simp only [List.getElem?_toArray, List.getElem?_cons_succ, List.getElem?_cons_zero]; rfl)
        case st13z9 => kernel_rfl
        case ft13z9 => kernel_rfl
        case zt13z9 => kernel_rfl
        case qt13z9 => exact fun _ _ _ h => h
        case yt13z9 => (refine Or.inl ⟨rfl, ?_⟩; intro w hSw; (try dsimp only at hSw); obtain ⟨s0, s1, s2, s3, s4, s5, s6⟩ := hSw; go_simp; try with_reducible rfl)
        case at13z9 => assumption
        case rt13z9 =>
        simp only [Act.put, List.setIfInBounds_toArray, List.set_cons_zero, List.set_cons_succ]
        refine' wpAnyH_take (i := 10) (oi := ?ot14z10) (v := ?vt14z10) ?ht14z10 ?st14z10 ?ft14z10 ?zt14z10 ?qt14z10 ?yt14z10 ?at14z10 ?rt14z10
        case ht14z10 => (simp only [List.getElem?_toArray, List.getElem?_cons_succ, List.getElem?_cons_zero]; rfl)
        case st14z10 => kernel_rfl
        case ft14z10 => kernel_rfl
        case zt14z10 => kernel_rfl
        case qt14z10 => exact fun _ _ _ h => h
        case yt14z10 => (refine Or.inl ⟨rfl, ?_⟩; intro w hSw; (try dsimp only at hSw); obtain ⟨s0, s1, s2, s3, s4, s5, s6⟩ := hSw; go_simp; try with_reducible rfl)
        case at14z10 => assumption
        case rt14z10 =>
        simp only [Act.put, List.setIfInBounds_toArray, List.set_cons_zero, List.set_cons_succ]
        refine' wpAnyH_take (i := 12) (oi := ?ot15z12) (v := ?vt15z12) ?ht15z12 ?st15z12 ?ft15z12 ?zt15z12 ?qt15z12 ?yt15z12 ?at15z12 ?rt15z12
        case ht15z12 => (simp only [List.getElem?_toArray, List.getElem?_cons_succ, List.getElem?_cons_zero]; rfl)
        case st15z12 => kernel_rfl
        case ft15z12 => kernel_rfl
        case zt15z12 => kernel_rfl
        case qt15z12 => exact fun _ _ _ h => h
        case yt15z12 => (refine yieldsIf_load_mid ?w7y12 _ ?x7y12 ?o7y12 ?b7y12 ?of7y12 ?hx7y12 (Ls fx) _ ?s7y12 hu26 ?d7y12 (hi26 fx); (case o7y12 => exact rfl); (case hx7y12 => exact rfl); (case d7y12 => exact rfl); (case w7y12 => exact rfl); (case s7y12 => (intro W hSw; (try dsimp only at hSw); obtain ⟨s0, s1, s2, s3, s4, s5, s6⟩ := hSw; assumption)))
        case at15z12 => assumption
        case rt15z12 =>
        simp only [Act.put, List.setIfInBounds_toArray, List.set_cons_zero, List.set_cons_succ]
        refine' wpAnyH_take (i := 13) (oi := ?ot16z13) (v := ?vt16z13) ?ht16z13 ?st16z13 ?ft16z13 ?zt16z13 ?qt16z13 ?yt16z13 ?at16z13 ?rt16z13
        case ht16z13 => (simp only [List.getElem?_toArray, List.getElem?_cons_succ, List.getElem?_cons_zero]; rfl)
        case st16z13 => kernel_rfl
        case ft16z13 => kernel_rfl
        case zt16z13 => kernel_rfl
        case qt16z13 => exact fun _ _ _ h => h
        case yt16z13 => (refine yieldsIf_load_mid ?w7y13 _ ?x7y13 ?o7y13 ?b7y13 ?of7y13 ?hx7y13 (Ls fy) _ ?s7y13 hu26 ?d7y13 (hi26 fy); (case o7y13 => exact rfl); (case hx7y13 => exact rfl); (case d7y13 => exact rfl); (case w7y13 => exact rfl); (case s7y13 => (intro W hSw; (try dsimp only at hSw); obtain ⟨s0, s1, s2, s3, s4, s5, s6⟩ := hSw; assumption)))
        case at16z13 => assumption
        case rt16z13 =>
        simp only [Act.put, List.setIfInBounds_toArray, List.set_cons_zero, List.set_cons_succ]
        refine wpAnyH_ready (rs := [11]) (by kernel_rfl) (by simp) ?_
        refine' AllReadyH.cons (o := ?ob17z11) ?hb17z11 ?kb17z11 AllReadyH.nil
        case hb17z11 => (simp only [List.getElem?_toArray, List.getElem?_cons_succ, List.getElem?_cons_zero]; rfl)
        case kb17z11 =>
          intro K0 hK
          go_simp
          with_reducible (refine (B4 _).mono ?_)
          rintro e wdxxxx ⟨rfl, hX⟩
          have S9 := Lib.hid (S1.out.below hX)
          clear S1 hX qb0 qb1 qa0 qa1 lfx lfy
          have S1 := S9
          clear S9
          obtain ⟨⟨qb0, qb1⟩, -⟩ := two_of (S1.out.has (Has.l (has_blk g5 _ _)))
          obtain ⟨⟨qa0, qa1⟩, -⟩ := two_of (S1.out.has (Has.r (Has.l (has_blk g4 _ _))))
          have lfx := ld_of (S1.out.has (Has.r (Has.r (Has.l (has_blk g9 _ _)))))
          have lfy := ld_of (S1.out.has (Has.r (Has.r (Has.r (Has.l (has_blk g10 _ _))))))
          go_wp2_with fail
          refine hK.out _ _ ?_ (fun hHeld => ?_)
          · exact ⟨S1, qb0, qb1, qa0, qa1, lfx, lfy⟩
          clear hK K0
          (try simp only [Act.put, List.setIfInBounds_toArray, List.set_cons_zero, List.set_cons_succ])
          (try clear hH2)
          refine wpAnyH_ready (rs := [14]) (by kernel_rfl) (by simp) ?_
          refine' AllReadyH.cons (o := ?ob19z14) ?hb19z14 ?kb19z14 AllReadyH.nil
          case hb19z14 => (simp only [List.getElem?_toArray, List.getElem?_cons_succ, List.getElem?_cons_zero]; rfl)
          case kb19z14 =>
            intro K0 hK
            go_simp
            with_reducible (refine (B5 _).mono ?_)
            rintro e wdxxxxx ⟨rfl, hX⟩
            have S9 := Lib.hid (S1.out.below hX)
            clear S1 hX qb0 qb1 qa0 qa1 lfx lfy
            have S1 := S9
            clear S9
            obtain ⟨⟨qb0, qb1⟩, -⟩ := two_of (S1.out.has (Has.l (has_blk g5 _ _)))
            obtain ⟨⟨qa0, qa1⟩, -⟩ := two_of (S1.out.has (Has.r (Has.l (has_blk g4 _ _))))
            have lfx := ld_of (S1.out.has (Has.r (Has.r (Has.l (has_blk g9 _ _)))))
            have lfy := ld_of (S1.out.has (Has.r (Has.r (Has.r (Has.l (has_blk g10 _ _))))))
            go_wp2_with fail
            refine hK.out _ _ ?_ (fun hHeld => ?_)
            · exact ⟨S1, qb0, qb1, qa0, qa1, lfx, lfy⟩
            clear hK K0
            (try simp only [Act.put, List.setIfInBounds_toArray, List.set_cons_zero, List.set_cons_succ])
            (try clear hH2)
            refine wpAnyH_ready (rs := [15]) (by kernel_rfl) (by simp) ?_
            refine' AllReadyH.cons (o := ?ob21z15) ?hb21z15 ?kb21z15 AllReadyH.nil
            case hb21z15 => (simp only [List.getElem?_toArray, List.getElem?_cons_succ, List.getElem?_cons_zero]; rfl)
            case kb21z15 =>
              intro K0 hK
              go_simp
              with_reducible (refine (B6 _).mono ?_)
              rintro e wdxxxxxx ⟨rfl, hX⟩
              have S9 := Lib.hid (S1.out.below hX)
              clear S1 hX qb0 qb1 qa0 qa1 lfx lfy
              have S1 := S9
              clear S9
              obtain ⟨⟨qb0, qb1⟩, -⟩ := two_of (S1.out.has (Has.l (has_blk g5 _ _)))
              obtain ⟨⟨qa0, qa1⟩, -⟩ := two_of (S1.out.has (Has.r (Has.l (has_blk g4 _ _))))
              have lfx := ld_of (S1.out.has (Has.r (Has.r (Has.l (has_blk g9 _ _)))))
              have lfy := ld_of (S1.out.has (Has.r (Has.r (Has.r (Has.l (has_blk g10 _ _))))))
              go_wp2_with fail
              refine hK.out _ _ ?_ (fun hHeld => ?_)
              · exact ⟨S1, qb0, qb1, qa0, qa1, lfx, lfy⟩
              clear hK K0
              (try simp only [Act.put, List.setIfInBounds_toArray, List.set_cons_zero, List.set_cons_succ])
              (try clear hH2)
              refine wpAnyH_ready (rs := [16]) (by kernel_rfl) (by simp) ?_
              refine' AllReadyH.cons (o := ?ob23z16) ?hb23z16 ?kb23z16 AllReadyH.nil
              case hb23z16 => (simp only [List.getElem?_toArray, List.getElem?_cons_succ, List.getElem?_cons_zero]; rfl)
              case kb23z16 =>
                intro K0 hK
                go_simp
                with_reducible (refine (B7 _).mono ?_)
                rintro e wdxxxxxxx ⟨rfl, hX⟩
                have S9 := Lib.hid (S1.out.below hX)
                clear S1 hX qb0 qb1 qa0 qa1 lfx lfy
                have S1 := S9
                clear S9
                obtain ⟨⟨qb0, qb1⟩, -⟩ := two_of (S1.out.has (Has.l (has_blk g5 _ _)))
                obtain ⟨⟨qa0, qa1⟩, -⟩ := two_of (S1.out.has (Has.r (Has.l (has_blk g4 _ _))))
                have lfx := ld_of (S1.out.has (Has.r (Has.r (Has.l (has_blk g9 _ _)))))
                have lfy := ld_of (S1.out.has (Has.r (Has.r (Has.r (Has.l (has_blk g10 _ _))))))
                go_wp2_with fail
                refine hK.out _ _ ?_ (fun hHeld => ?_)
                · exact ⟨S1, qb0, qb1, qa0, qa1, lfx, lfy⟩
                clear hK K0
                (try simp only [Act.put, List.setIfInBounds_toArray, List.set_cons_zero, List.set_cons_succ])
                (try clear hH2)
                refine' wpAnyH_take (i := 17) (oi := ?ot25z17) (v := ?vt25z17) ?ht25z17 ?st25z17 ?ft25z17 ?zt25z17 ?qt25z17 ?yt25z17 ?at25z17 ?rt25z17
                case ht25z17 => (simp only [List.getElem?_toArray, List.getElem?_cons_succ, List.getElem?_cons_zero]; rfl)
                case st25z17 => kernel_rfl
                case ft25z17 => kernel_rfl
                case zt25z17 => kernel_rfl
                case qt25z17 => exact fun _ _ _ h => h
                case yt25z17 => (refine Or.inl ⟨rfl, ?_⟩; intro w hSw; (try dsimp only at hSw); obtain ⟨s0, s1, s2, s3, s4, s5, s6⟩ := hSw; go_simp; try with_reducible rfl)
                case at25z17 => assumption
                case rt25z17 =>
                simp only [Act.put, List.setIfInBounds_toArray, List.set_cons_zero, List.set_cons_succ]
                refine' wpAnyH_take (i := 18) (oi := ?ot26z18) (v := ?vt26z18) ?ht26z18 ?st26z18 ?ft26z18 ?zt26z18 ?qt26z18 ?yt26z18 ?at26z18 ?rt26z18
                case ht26z18 => (simp only [List.getElem?_toArray, List.getElem?_cons_succ, List.getElem?_cons_zero]; rfl)
                case st26z18 => kernel_rfl
                case ft26z18 => kernel_rfl
                case zt26z18 => kernel_rfl
                case qt26z18 => exact fun _ _ _ h => h
                case yt26z18 => (refine Or.inl ⟨rfl, ?_⟩; intro w hSw; (try dsimp only at hSw); obtain ⟨s0, s1, s2, s3, s4, s5, s6⟩ := hSw; go_simp; try with_reducible rfl)
                case at26z18 => assumption
                case rt26z18 =>
                simp only [Act.put, List.setIfInBounds_toArray, List.set_cons_zero, List.set_cons_succ]
                refine wpAnyH_done (by kernel_rfl) ?_ _
                clear B1 B2 B3 B4 B5 B6 B7
                go_upto_region 9 with fail
                have S9 := Lib.hid S1.out.drew
                clear S1
                have S1 := S9
                clear S9
                clear qb0 qb1 qa0 qa1 lfx lfy
                obtain ⟨⟨qb0, qb1⟩, -⟩ := two_of (S1.out.has (Has.l (has_blk g5 _ _)))
                obtain ⟨⟨qa0, qa1⟩, -⟩ := two_of (S1.out.has (Has.r (Has.l (has_blk g4 _ _))))
                have lfx := ld_of (S1.out.has (Has.r (Has.r (Has.l (has_blk g9 _ _)))))
                have lfy := ld_of (S1.out.has (Has.r (Has.r (Has.r (Has.l (has_blk g10 _ _))))))
                refine wp_region_held_drew (S := (fun W : World => Hid (Own w No W (Asn.blk g5 24 #[.int .i64 bh, .int .u64 bl] * (Asn.blk g4 24 #[.int .i64 ah, .int .u64 al] * (Asn.blk g9 26 (Bs fx) * (Asn.blk g10 26 (Bs fy) * (Asn.emp)))))) ∧ W.cell? ⟨g5, 0, none⟩ = some (.int .i64 bh) ∧ W.cell? ⟨g5, 1, none⟩ = some (.int .u64 bl) ∧ W.cell? ⟨g4, 0, none⟩ = some (.int .i64 ah) ∧ W.cell? ⟨g4, 1, none⟩ = some (.int .u64 al) ∧ W.rangeAt g9 0 (Ls fx) ∧ W.rangeAt g10 0 (Ls fy))) (by kernel_rfl) ⟨S1, qb0, qb1, qa0, qa1, lfx, lfy⟩ (fun hHeld => ?_)
                generalize wdxxxxxxx.drew = wd at *
                refine' wpAnyH_take (i := 0) (oi := ?ot27z0) (v := ?vt27z0) ?ht27z0 ?st27z0 ?ft27z0 ?zt27z0 ?qt27z0 ?yt27z0 ?at27z0 ?rt27z0
                case ht27z0 => (simp only [List.getElem?_toArray, List.getElem?_cons_succ, List.getElem?_cons_zero]; rfl)
                case st27z0 => kernel_rfl
                case ft27z0 => kernel_rfl
                case zt27z0 => kernel_rfl
                case qt27z0 => exact fun _ _ _ h => h
                case yt27z0 => (refine Or.inl ⟨rfl, ?_⟩; intro w hSw; (try dsimp only at hSw); obtain ⟨s0, s1, s2, s3, s4, s5, s6⟩ := hSw; go_simp; try with_reducible rfl)
                case at27z0 => assumption
                case rt27z0 =>
                simp only [Act.put, List.setIfInBounds_toArray, List.set_cons_zero, List.set_cons_succ]
                refine' wpAnyH_take (i := 1) (oi := ?ot28z1) (v := ?vt28z1) ?ht28z1 ?st28z1 ?ft28z1 ?zt28z1 ?qt28z1 ?yt28z1 ?at28z1 ?rt28z1
                case ht28z1 => (simp only [List.getElem?_toArray, List.getElem?_cons_succ, List.getElem?_cons_zero]; rfl)
                case st28z1 => kernel_rfl
                case ft28z1 => kernel_rfl
                case zt28z1 => kernel_rfl
                case qt28z1 => exact fun _ _ _ h => h
                case yt28z1 => (refine Or.inl ⟨rfl, ?_⟩; intro w hSw; (try dsimp only at hSw); obtain ⟨s0, s1, s2, s3, s4, s5, s6⟩ := hSw; go_simp; try with_reducible rfl)
                case at28z1 => assumption
                case rt28z1 =>
                simp only [Act.put, List.setIfInBounds_toArray, List.set_cons_zero, List.set_cons_succ]
                refine' wpAnyH_take (i := 3) (oi := ?ot29z3) (v := ?vt29z3) ?ht29z3 ?st29z3 ?ft29z3 ?zt29z3 ?qt29z3 ?yt29z3 ?at29z3 ?rt29z3
                case ht29z3 => (simp only [List.getElem?_toArray, List.getElem?_cons_succ, List.getElem?_cons_zero]; rfl)
                case st29z3 => kernel_rfl
                case ft29z3 => kernel_rfl
                case zt29z3 => kernel_rfl
                case qt29z3 => exact fun _ _ _ h => h
                case yt29z3 => (refine yieldsIf_load_mid ?w9y3 _ ?x9y3 ?o9y3 ?b9y3 ?of9y3 ?hx9y3 (Ls fx) _ ?s9y3 hu26 ?d9y3 (hi26 fx); (case o9y3 => exact rfl); (case hx9y3 => exact rfl); (case d9y3 => exact rfl); (case w9y3 => exact rfl); (case s9y3 => (intro W hSw; (try dsimp only at hSw); obtain ⟨s0, s1, s2, s3, s4, s5, s6⟩ := hSw; assumption)))
                case at29z3 => assumption
                case rt29z3 =>
                simp only [Act.put, List.setIfInBounds_toArray, List.set_cons_zero, List.set_cons_succ]
                refine' wpAnyH_take (i := 4) (oi := ?ot30z4) (v := ?vt30z4) ?ht30z4 ?st30z4 ?ft30z4 ?zt30z4 ?qt30z4 ?yt30z4 ?at30z4 ?rt30z4
                case ht30z4 => (simp only [List.getElem?_toArray, List.getElem?_cons_succ, List.getElem?_cons_zero]; rfl)
                case st30z4 => kernel_rfl
                case ft30z4 => kernel_rfl
                case zt30z4 => kernel_rfl
                case qt30z4 => exact fun _ _ _ h => h
                case yt30z4 => (refine yieldsIf_load_mid ?w9y4 _ ?x9y4 ?o9y4 ?b9y4 ?of9y4 ?hx9y4 (Ls fy) _ ?s9y4 hu26 ?d9y4 (hi26 fy); (case o9y4 => exact rfl); (case hx9y4 => exact rfl); (case d9y4 => exact rfl); (case w9y4 => exact rfl); (case s9y4 => (intro W hSw; (try dsimp only at hSw); obtain ⟨s0, s1, s2, s3, s4, s5, s6⟩ := hSw; assumption)))
                case at30z4 => assumption
                case rt30z4 =>
                simp only [Act.put, List.setIfInBounds_toArray, List.set_cons_zero, List.set_cons_succ]
                refine wpAnyH_ready (rs := [2]) (by kernel_rfl) (by simp) ?_
                refine' AllReadyH.cons (o := ?ob31z2) ?hb31z2 ?kb31z2 AllReadyH.nil
                case hb31z2 => (simp only [List.getElem?_toArray, List.getElem?_cons_succ, List.getElem?_cons_zero]; rfl)
                case kb31z2 =>
                  intro K0 hK
                  go_simp
                  with_reducible (refine (C1 _).mono ?_)
                  rintro e wdx ⟨rfl, hX⟩
                  have S9 := Lib.hid (S1.out.below hX)
                  clear S1 hX qb0 qb1 qa0 qa1 lfx lfy
                  have S1 := S9
                  clear S9
                  obtain ⟨⟨qb0, qb1⟩, -⟩ := two_of (S1.out.has (Has.l (has_blk g5 _ _)))
                  obtain ⟨⟨qa0, qa1⟩, -⟩ := two_of (S1.out.has (Has.r (Has.l (has_blk g4 _ _))))
                  have lfx := ld_of (S1.out.has (Has.r (Has.r (Has.l (has_blk g9 _ _)))))
                  have lfy := ld_of (S1.out.has (Has.r (Has.r (Has.r (Has.l (has_blk g10 _ _))))))
                  go_wp2_with fail
                  refine hK.out _ _ ?_ (fun hHeld => ?_)
                  · exact ⟨S1, qb0, qb1, qa0, qa1, lfx, lfy⟩
                  clear hK K0
                  (try simp only [Act.put, List.setIfInBounds_toArray, List.set_cons_zero, List.set_cons_succ])
                  (try clear hH2)
                  refine wpAnyH_ready (rs := [5]) (by kernel_rfl) (by simp) ?_
                  refine' AllReadyH.cons (o := ?ob33z5) ?hb33z5 ?kb33z5 AllReadyH.nil
                  case hb33z5 => (simp only [List.getElem?_toArray, List.getElem?_cons_succ, List.getElem?_cons_zero]; rfl)
                  case kb33z5 =>
                    intro K0 hK
                    go_simp
                    with_reducible (refine (C2 _).mono ?_)
                    rintro e wdxx ⟨rfl, hX⟩
                    have S9 := Lib.hid (S1.out.below hX)
                    clear S1 hX qb0 qb1 qa0 qa1 lfx lfy
                    have S1 := S9
                    clear S9
                    obtain ⟨⟨qb0, qb1⟩, -⟩ := two_of (S1.out.has (Has.l (has_blk g5 _ _)))
                    obtain ⟨⟨qa0, qa1⟩, -⟩ := two_of (S1.out.has (Has.r (Has.l (has_blk g4 _ _))))
                    have lfx := ld_of (S1.out.has (Has.r (Has.r (Has.l (has_blk g9 _ _)))))
                    have lfy := ld_of (S1.out.has (Has.r (Has.r (Has.r (Has.l (has_blk g10 _ _))))))
                    go_wp2_with fail
                    refine hK.out _ _ ?_ (fun hHeld => ?_)
                    · exact ⟨S1, qb0, qb1, qa0, qa1, lfx, lfy⟩
                    clear hK K0
                    (try simp only [Act.put, List.setIfInBounds_toArray, List.set_cons_zero, List.set_cons_succ])
                    (try clear hH2)
                    refine' wpAnyH_take (i := 6) (oi := ?ot35z6) (v := ?vt35z6) ?ht35z6 ?st35z6 ?ft35z6 ?zt35z6 ?qt35z6 ?yt35z6 ?at35z6 ?rt35z6
                    case ht35z6 => (simp only [List.getElem?_toArray, List.getElem?_cons_succ, List.getElem?_cons_zero]; rfl)
                    case st35z6 => kernel_rfl
                    case ft35z6 => kernel_rfl
                    case zt35z6 => kernel_rfl
                    case qt35z6 => exact fun _ _ _ h => h
                    case yt35z6 => (refine Or.inl ⟨rfl, ?_⟩; intro w hSw; (try dsimp only at hSw); obtain ⟨s0, s1, s2, s3, s4, s5, s6⟩ := hSw; go_simp; try with_reducible rfl)
                    case at35z6 => assumption
                    case rt35z6 =>
                    simp only [Act.put, List.setIfInBounds_toArray, List.set_cons_zero, List.set_cons_succ]
                    refine' wpAnyH_take (i := 7) (oi := ?ot36z7) (v := ?vt36z7) ?ht36z7 ?st36z7 ?ft36z7 ?zt36z7 ?qt36z7 ?yt36z7 ?at36z7 ?rt36z7
                    case ht36z7 => (simp only [List.getElem?_toArray, List.getElem?_cons_succ, List.getElem?_cons_zero]; rfl)
                    case st36z7 => kernel_rfl
                    case ft36z7 => kernel_rfl
                    case zt36z7 => kernel_rfl
                    case qt36z7 => exact fun _ _ _ h => h
                    case yt36z7 => (refine Or.inl ⟨rfl, ?_⟩; intro w hSw; (try dsimp only at hSw); obtain ⟨s0, s1, s2, s3, s4, s5, s6⟩ := hSw; go_simp; try with_reducible rfl)
                    case at36z7 => assumption
                    case rt36z7 =>
                    simp only [Act.put, List.setIfInBounds_toArray, List.set_cons_zero, List.set_cons_succ]
                    refine' wpAnyH_take (i := 8) (oi := ?ot37z8) (v := ?vt37z8) ?ht37z8 ?st37z8 ?ft37z8 ?zt37z8 ?qt37z8 ?yt37z8 ?at37z8 ?rt37z8
                    case ht37z8 => (simp only [List.getElem?_toArray, List.getElem?_cons_succ, List.getElem?_cons_zero]; rfl)
                    case st37z8 => kernel_rfl
                    case ft37z8 => kernel_rfl
                    case zt37z8 => kernel_rfl
                    case qt37z8 => exact fun _ _ _ h => h
                    case yt37z8 => (refine Or.inl ⟨rfl, ?_⟩; intro w hSw; (try dsimp only at hSw); obtain ⟨s0, s1, s2, s3, s4, s5, s6⟩ := hSw; go_simp; try with_reducible rfl)
                    case at37z8 => assumption
                    case rt37z8 =>
                    simp only [Act.put, List.setIfInBounds_toArray, List.set_cons_zero, List.set_cons_succ]
                    refine' wpAnyH_take (i := 9) (oi := ?ot38z9) (v := ?vt38z9) ?ht38z9 ?st38z9 ?ft38z9 ?zt38z9 ?qt38z9 ?yt38z9 ?at38z9 ?rt38z9
                    case ht38z9 => (simp only [List.getElem?_toArray, List.getElem?_cons_succ, List.getElem?_cons_zero]; rfl)
                    case st38z9 => kernel_rfl
                    case ft38z9 => kernel_rfl
                    case zt38z9 => kernel_rfl
                    case qt38z9 => exact fun _ _ _ h => h
                    case yt38z9 => (refine Or.inl ⟨rfl, ?_⟩; intro w hSw; (try dsimp only at hSw); obtain ⟨s0, s1, s2, s3, s4, s5, s6⟩ := hSw; go_simp; try with_reducible rfl)
                    case at38z9 => assumption
                    case rt38z9 =>
                    simp only [Act.put, List.setIfInBounds_toArray, List.set_cons_zero, List.set_cons_succ]
                    refine' wpAnyH_take (i := 11) (oi := ?ot39z11) (v := ?vt39z11) ?ht39z11 ?st39z11 ?ft39z11 ?zt39z11 ?qt39z11 ?yt39z11 ?at39z11 ?rt39z11
                    case ht39z11 => (simp only [List.getElem?_toArray, List.getElem?_cons_succ, List.getElem?_cons_zero]; rfl)
                    case st39z11 => kernel_rfl
                    case ft39z11 => kernel_rfl
                    case zt39z11 => kernel_rfl
                    case qt39z11 => exact fun _ _ _ h => h
                    case yt39z11 => (refine yieldsIf_load_mid ?w9y11 _ ?x9y11 ?o9y11 ?b9y11 ?of9y11 ?hx9y11 (Ls fx) _ ?s9y11 hu26 ?d9y11 (hi26 fx); (case o9y11 => exact rfl); (case hx9y11 => exact rfl); (case d9y11 => exact rfl); (case w9y11 => exact rfl); (case s9y11 => (intro W hSw; (try dsimp only at hSw); obtain ⟨s0, s1, s2, s3, s4, s5, s6⟩ := hSw; assumption)))
                    case at39z11 => assumption
                    case rt39z11 =>
                    simp only [Act.put, List.setIfInBounds_toArray, List.set_cons_zero, List.set_cons_succ]
                    refine' wpAnyH_take (i := 12) (oi := ?ot40z12) (v := ?vt40z12) ?ht40z12 ?st40z12 ?ft40z12 ?zt40z12 ?qt40z12 ?yt40z12 ?at40z12 ?rt40z12
                    case ht40z12 => (simp only [List.getElem?_toArray, List.getElem?_cons_succ, List.getElem?_cons_zero]; rfl)
                    case st40z12 => kernel_rfl
                    case ft40z12 => kernel_rfl
                    case zt40z12 => kernel_rfl
                    case qt40z12 => exact fun _ _ _ h => h
                    case yt40z12 => (refine Or.inl ⟨rfl, ?_⟩; intro w hSw; (try dsimp only at hSw); obtain ⟨s0, s1, s2, s3, s4, s5, s6⟩ := hSw; go_simp; try with_reducible rfl)
                    case at40z12 => assumption
                    case rt40z12 =>
                    simp only [Act.put, List.setIfInBounds_toArray, List.set_cons_zero, List.set_cons_succ]
                    refine wpAnyH_ready (rs := [10]) (by kernel_rfl) (by simp) ?_
                    refine' AllReadyH.cons (o := ?ob41z10) ?hb41z10 ?kb41z10 AllReadyH.nil
                    case hb41z10 => (simp only [List.getElem?_toArray, List.getElem?_cons_succ, List.getElem?_cons_zero]; rfl)
                    case kb41z10 =>
                      intro K0 hK
                      go_simp
                      with_reducible (refine (C3 _).mono ?_)
                      rintro e wdxxx ⟨rfl, hX⟩
                      have S9 := Lib.hid (S1.out.below hX)
                      clear S1 hX qb0 qb1 qa0 qa1 lfx lfy
                      have S1 := S9
                      clear S9
                      obtain ⟨⟨qb0, qb1⟩, -⟩ := two_of (S1.out.has (Has.l (has_blk g5 _ _)))
                      obtain ⟨⟨qa0, qa1⟩, -⟩ := two_of (S1.out.has (Has.r (Has.l (has_blk g4 _ _))))
                      have lfx := ld_of (S1.out.has (Has.r (Has.r (Has.l (has_blk g9 _ _)))))
                      have lfy := ld_of (S1.out.has (Has.r (Has.r (Has.r (Has.l (has_blk g10 _ _))))))
                      go_wp2_with fail
                      refine hK.out _ _ ?_ (fun hHeld => ?_)
                      · exact ⟨S1, qb0, qb1, qa0, qa1, lfx, lfy⟩
                      clear hK K0
                      (try simp only [Act.put, List.setIfInBounds_toArray, List.set_cons_zero, List.set_cons_succ])
                      (try clear hH2)
                      refine wpAnyH_ready (rs := [13]) (by kernel_rfl) (by simp) ?_
                      refine' AllReadyH.cons (o := ?ob43z13) ?hb43z13 ?kb43z13 AllReadyH.nil
                      case hb43z13 => (simp only [List.getElem?_toArray, List.getElem?_cons_succ, List.getElem?_cons_zero]; rfl)
                      case kb43z13 =>
                        intro K0 hK
                        go_simp
                        with_reducible (refine (C4 _).mono ?_)
                        rintro e wdxxxx ⟨rfl, hX⟩
                        have S9 := Lib.hid (S1.out.below hX)
                        clear S1 hX qb0 qb1 qa0 qa1 lfx lfy
                        have S1 := S9
                        clear S9
                        obtain ⟨⟨qb0, qb1⟩, -⟩ := two_of (S1.out.has (Has.l (has_blk g5 _ _)))
                        obtain ⟨⟨qa0, qa1⟩, -⟩ := two_of (S1.out.has (Has.r (Has.l (has_blk g4 _ _))))
                        have lfx := ld_of (S1.out.has (Has.r (Has.r (Has.l (has_blk g9 _ _)))))
                        have lfy := ld_of (S1.out.has (Has.r (Has.r (Has.r (Has.l (has_blk g10 _ _))))))
                        go_wp2_with fail
                        refine hK.out _ _ ?_ (fun hHeld => ?_)
                        · exact ⟨S1, qb0, qb1, qa0, qa1, lfx, lfy⟩
                        clear hK K0
                        (try simp only [Act.put, List.setIfInBounds_toArray, List.set_cons_zero, List.set_cons_succ])
                        (try clear hH2)
                        refine wpAnyH_ready (rs := [14]) (by kernel_rfl) (by simp) ?_
                        refine' AllReadyH.cons (o := ?ob45z14) ?hb45z14 ?kb45z14 AllReadyH.nil
                        case hb45z14 => (simp only [List.getElem?_toArray, List.getElem?_cons_succ, List.getElem?_cons_zero]; rfl)
                        case kb45z14 =>
                          intro K0 hK
                          go_simp
                          with_reducible (refine (C5 _).mono ?_)
                          rintro e wdxxxxx ⟨rfl, hX⟩
                          have S9 := Lib.hid (S1.out.below hX)
                          clear S1 hX qb0 qb1 qa0 qa1 lfx lfy
                          have S1 := S9
                          clear S9
                          obtain ⟨⟨qb0, qb1⟩, -⟩ := two_of (S1.out.has (Has.l (has_blk g5 _ _)))
                          obtain ⟨⟨qa0, qa1⟩, -⟩ := two_of (S1.out.has (Has.r (Has.l (has_blk g4 _ _))))
                          have lfx := ld_of (S1.out.has (Has.r (Has.r (Has.l (has_blk g9 _ _)))))
                          have lfy := ld_of (S1.out.has (Has.r (Has.r (Has.r (Has.l (has_blk g10 _ _))))))
                          go_wp2_with fail
                          refine hK.out _ _ ?_ (fun hHeld => ?_)
                          · exact ⟨S1, qb0, qb1, qa0, qa1, lfx, lfy⟩
                          clear hK K0
                          (try simp only [Act.put, List.setIfInBounds_toArray, List.set_cons_zero, List.set_cons_succ])
                          (try clear hH2)
                          refine' wpAnyH_take (i := 15) (oi := ?ot47z15) (v := ?vt47z15) ?ht47z15 ?st47z15 ?ft47z15 ?zt47z15 ?qt47z15 ?yt47z15 ?at47z15 ?rt47z15
                          case ht47z15 => (simp only [List.getElem?_toArray, List.getElem?_cons_succ, List.getElem?_cons_zero]; rfl)
                          case st47z15 => kernel_rfl
                          case ft47z15 => kernel_rfl
                          case zt47z15 => kernel_rfl
                          case qt47z15 => exact fun _ _ _ h => h
                          case yt47z15 => (refine Or.inl ⟨rfl, ?_⟩; intro w hSw; (try dsimp only at hSw); obtain ⟨s0, s1, s2, s3, s4, s5, s6⟩ := hSw; go_simp; try with_reducible rfl)
                          case at47z15 => assumption
                          case rt47z15 =>
                          simp only [Act.put, List.setIfInBounds_toArray, List.set_cons_zero, List.set_cons_succ]
                          refine' wpAnyH_take (i := 16) (oi := ?ot48z16) (v := ?vt48z16) ?ht48z16 ?st48z16 ?ft48z16 ?zt48z16 ?qt48z16 ?yt48z16 ?at48z16 ?rt48z16
                          case ht48z16 => (simp only [List.getElem?_toArray, List.getElem?_cons_succ, List.getElem?_cons_zero]; rfl)
                          case st48z16 => kernel_rfl
                          case ft48z16 => kernel_rfl
                          case zt48z16 => kernel_rfl
                          case qt48z16 => exact fun _ _ _ h => h
                          case yt48z16 => (refine Or.inl ⟨rfl, ?_⟩; intro w hSw; (try dsimp only at hSw); obtain ⟨s0, s1, s2, s3, s4, s5, s6⟩ := hSw; go_simp; try with_reducible rfl)
                          case at48z16 => assumption
                          case rt48z16 =>
                          simp only [Act.put, List.setIfInBounds_toArray, List.set_cons_zero, List.set_cons_succ]
                          refine' wpAnyH_take (i := 17) (oi := ?ot49z17) (v := ?vt49z17) ?ht49z17 ?st49z17 ?ft49z17 ?zt49z17 ?qt49z17 ?yt49z17 ?at49z17 ?rt49z17
                          case ht49z17 => (simp only [List.getElem?_toArray, List.getElem?_cons_succ, List.getElem?_cons_zero]; rfl)
                          case st49z17 => kernel_rfl
                          case ft49z17 => kernel_rfl
                          case zt49z17 => kernel_rfl
                          case qt49z17 => exact fun _ _ _ h => h
                          case yt49z17 => (refine Or.inl ⟨rfl, ?_⟩; intro w hSw; (try dsimp only at hSw); obtain ⟨s0, s1, s2, s3, s4, s5, s6⟩ := hSw; go_simp; try with_reducible rfl)
                          case at49z17 => assumption
                          case rt49z17 =>
                          simp only [Act.put, List.setIfInBounds_toArray, List.set_cons_zero, List.set_cons_succ]
                          refine' wpAnyH_take (i := 18) (oi := ?ot50z18) (v := ?vt50z18) ?ht50z18 ?st50z18 ?ft50z18 ?zt50z18 ?qt50z18 ?yt50z18 ?at50z18 ?rt50z18
                          case ht50z18 => (simp only [List.getElem?_toArray, List.getElem?_cons_succ, List.getElem?_cons_zero]; rfl)
                          case st50z18 => kernel_rfl
                          case ft50z18 => kernel_rfl
                          case zt50z18 => kernel_rfl
                          case qt50z18 => exact fun _ _ _ h => h
                          case yt50z18 => (refine Or.inl ⟨rfl, ?_⟩; intro w hSw; (try dsimp only at hSw); obtain ⟨s0, s1, s2, s3, s4, s5, s6⟩ := hSw; go_simp; try with_reducible rfl)
                          case at50z18 => assumption
                          case rt50z18 =>
                          simp only [Act.put, List.setIfInBounds_toArray, List.set_cons_zero, List.set_cons_succ]
                          refine' wpAnyH_take (i := 20) (oi := ?ot51z20) (v := ?vt51z20) ?ht51z20 ?st51z20 ?ft51z20 ?zt51z20 ?qt51z20 ?yt51z20 ?at51z20 ?rt51z20
                          case ht51z20 => (simp only [List.getElem?_toArray, List.getElem?_cons_succ, List.getElem?_cons_zero]; rfl)
                          case st51z20 => kernel_rfl
                          case ft51z20 => kernel_rfl
                          case zt51z20 => kernel_rfl
                          case qt51z20 => exact fun _ _ _ h => h
                          case yt51z20 => (refine Or.inl ⟨rfl, ?_⟩; intro w hSw; (try dsimp only at hSw); obtain ⟨s0, s1, s2, s3, s4, s5, s6⟩ := hSw; go_simp; try with_reducible rfl)
                          case at51z20 => assumption
                          case rt51z20 =>
                          simp only [Act.put, List.setIfInBounds_toArray, List.set_cons_zero, List.set_cons_succ]
                          refine wpAnyH_ready (rs := [19]) (by kernel_rfl) (by simp) ?_
                          refine' AllReadyH.cons (o := ?ob52z19) ?hb52z19 ?kb52z19 AllReadyH.nil
                          case hb52z19 => (simp only [List.getElem?_toArray, List.getElem?_cons_succ, List.getElem?_cons_zero]; rfl)
                          case kb52z19 =>
                            intro K0 hK
                            go_simp
                            with_reducible (refine (C6 _).mono ?_)
                            rintro e wdxxxxxx ⟨rfl, hX⟩
                            have S9 := Lib.hid (S1.out.below hX)
                            clear S1 hX qb0 qb1 qa0 qa1 lfx lfy
                            have S1 := S9
                            clear S9
                            obtain ⟨⟨qb0, qb1⟩, -⟩ := two_of (S1.out.has (Has.l (has_blk g5 _ _)))
                            obtain ⟨⟨qa0, qa1⟩, -⟩ := two_of (S1.out.has (Has.r (Has.l (has_blk g4 _ _))))
                            have lfx := ld_of (S1.out.has (Has.r (Has.r (Has.l (has_blk g9 _ _)))))
                            have lfy := ld_of (S1.out.has (Has.r (Has.r (Has.r (Has.l (has_blk g10 _ _))))))
                            go_wp2_with fail
                            refine hK.out _ _ ?_ (fun hHeld => ?_)
                            · exact ⟨S1, qb0, qb1, qa0, qa1, lfx, lfy⟩
                            clear hK K0
                            (try simp only [Act.put, List.setIfInBounds_toArray, List.set_cons_zero, List.set_cons_succ])
                            (try clear hH2)
                            refine wpAnyH_ready (rs := [21]) (by kernel_rfl) (by simp) ?_
                            refine' AllReadyH.cons (o := ?ob54z21) ?hb54z21 ?kb54z21 AllReadyH.nil
                            case hb54z21 => (simp only [List.getElem?_toArray, List.getElem?_cons_succ, List.getElem?_cons_zero]; rfl)
                            case kb54z21 =>
                              intro K0 hK
                              go_simp
                              with_reducible (refine (C7 _).mono ?_)
                              rintro e wdxxxxxxx ⟨rfl, hX⟩
                              have S9 := Lib.hid (S1.out.below hX)
                              clear S1 hX qb0 qb1 qa0 qa1 lfx lfy
                              have S1 := S9
                              clear S9
                              obtain ⟨⟨qb0, qb1⟩, -⟩ := two_of (S1.out.has (Has.l (has_blk g5 _ _)))
                              obtain ⟨⟨qa0, qa1⟩, -⟩ := two_of (S1.out.has (Has.r (Has.l (has_blk g4 _ _))))
                              have lfx := ld_of (S1.out.has (Has.r (Has.r (Has.l (has_blk g9 _ _)))))
                              have lfy := ld_of (S1.out.has (Has.r (Has.r (Has.r (Has.l (has_blk g10 _ _))))))
                              go_wp2_with fail
                              refine hK.out _ _ ?_ (fun hHeld => ?_)
                              · exact ⟨S1, qb0, qb1, qa0, qa1, lfx, lfy⟩
                              clear hK K0
                              (try simp only [Act.put, List.setIfInBounds_toArray, List.set_cons_zero, List.set_cons_succ])
                              (try clear hH2)
                              refine' wpAnyH_take (i := 22) (oi := ?ot56z22) (v := ?vt56z22) ?ht56z22 ?st56z22 ?ft56z22 ?zt56z22 ?qt56z22 ?yt56z22 ?at56z22 ?rt56z22
                              case ht56z22 => (simp only [List.getElem?_toArray, List.getElem?_cons_succ, List.getElem?_cons_zero]; rfl)
                              case st56z22 => kernel_rfl
                              case ft56z22 => kernel_rfl
                              case zt56z22 => kernel_rfl
                              case qt56z22 => exact fun _ _ _ h => h
                              case yt56z22 => (refine Or.inl ⟨rfl, ?_⟩; intro w hSw; (try dsimp only at hSw); obtain ⟨s0, s1, s2, s3, s4, s5, s6⟩ := hSw; go_simp; try with_reducible rfl)
                              case at56z22 => assumption
                              case rt56z22 =>
                              simp only [Act.put, List.setIfInBounds_toArray, List.set_cons_zero, List.set_cons_succ]
                              refine' wpAnyH_take (i := 23) (oi := ?ot57z23) (v := ?vt57z23) ?ht57z23 ?st57z23 ?ft57z23 ?zt57z23 ?qt57z23 ?yt57z23 ?at57z23 ?rt57z23
                              case ht57z23 => (simp only [List.getElem?_toArray, List.getElem?_cons_succ, List.getElem?_cons_zero]; rfl)
                              case st57z23 => kernel_rfl
                              case ft57z23 => kernel_rfl
                              case zt57z23 => kernel_rfl
                              case qt57z23 => exact fun _ _ _ h => h
                              case yt57z23 => (refine Or.inl ⟨rfl, ?_⟩; intro w hSw; (try dsimp only at hSw); obtain ⟨s0, s1, s2, s3, s4, s5, s6⟩ := hSw; go_simp; try with_reducible rfl)
                              case at57z23 => assumption
                              case rt57z23 =>
                              simp only [Act.put, List.setIfInBounds_toArray, List.set_cons_zero, List.set_cons_succ]
                              refine wpAnyH_done (by kernel_rfl) ?_ _
                              clear C1 C2 C3 C4 C5 C6 C7
                              go_upto_region 11 with fail
                              go_wp2_with fail
                              refine (E1 _).mono ?_
                              rintro e wi ⟨rfl, hX⟩
                              have S2 := Lib.hid (S1.out.below hX)
                              clear hX S1 
                              clear qb0 qb1 qa0 qa1 lfx lfy
                              obtain ⟨⟨qa0, qa1⟩, -⟩ := two_of (S2.out.has (Has.r (Has.l (has_blk g4 _ _))))
                              rcases hI with ⟨rfl, rfl, ⟨rfl, hl⟩ | ⟨rfl, hl⟩⟩ | ⟨rfl, rfl, ⟨rfl, hl⟩ | ⟨rfl, hl⟩ | ⟨h0, h1⟩⟩
                              case' inr.inr.inr => (have h0b := beq_eq_false_iff_ne.2 h0; have h1b := beq_eq_false_iff_ne.2 h1)
                              case' inl.inl => (have hl2 : ¬ 9223372036854775808 ≤ al := (by omega))
                              case' inl.inr => (have hl2 : ¬ al < 9223372036854775808 := (by omega))
                              case' inr.inl => (have hl2 : ¬ al < 9223372036854775808 := (by omega))
                              case' inr.inr.inl => (have hl2 : ¬ 9223372036854775808 ≤ al := (by omega))
                              all_goals (
                                go_upto_region 15 with fail
                                clear qa0 qa1
                                go_wp2_with fail
                                refine (E2 _).mono ?_
                                rintro e wj ⟨rfl, hX⟩
                                have S3 := Lib.hid (S2.out.below hX)
                                clear hX S2 
                                have S4 := Lib.hid (S3.out.alloc #[.int .i64 oh, .int .u64 ol] 24)
                                clear S3
                                go_upto_region 16 with fail
                                obtain ⟨g14, hgz⟩ : ∃ g, g = wj.heap.size := ⟨_, rfl⟩
                                rw [← hgz] at S4 ⊢
                                clear hgz
                                generalize World.alloc wj _ = wk at *
                                obtain ⟨⟨qo0, qo1⟩, -⟩ := two_of (S4.out.has (Has.l (has_blk g14 _ _)))
                                rcases hO with ⟨hn, rfl⟩ | ⟨hn, rfl⟩
                                case' inl => (have hn2 : ¬ 0 ≤ n := (by omega))
                                case' inr => (have hn2 : 0 ≤ n := (by omega))
                                all_goals (
                                  go_upto_region 18 with fail
                                  rcases hR with ⟨hz, hr⟩ | ⟨hz, rh, rl, hr, hk⟩
                                  case' inl => (
                                    have hzb : ((s.size : Int) != 16) = true := (by rw [bne_iff_ne]; omega)
                                    go_wp2_with fail
                                    refine (hr _).mono ?_
                                    rintro e wl ⟨rfl, hX⟩
                                    have S5 := Lib.hid (S4.out.below hX)
                                    clear hX S4 
                                    have S6 := Lib.hid (S5.out.alloc #[.int .i64 0, .int .u64 0] 24)
                                    clear S5 qo0 qo1
                                    go_upto_region 19 with fail
                                    obtain ⟨g15, hgz⟩ : ∃ g, g = wl.heap.size := ⟨_, rfl⟩
                                    rw [← hgz] at S6 ⊢
                                    clear hgz
                                    generalize World.alloc wl _ = wm at *
                                    obtain ⟨⟨qr0, qr1⟩, -⟩ := two_of (S6.out.has (Has.l (has_blk g15 _ _)))
                                    go_wp2_with fail
                                    go_returns
                                    exact ⟨rfl, S6.out.bel⟩)
                                  case' inr => (
                                    have hzb : ((s.size : Int) != 16) = false := (by rw [bne_eq_false_iff_eq]; omega)
                                    go_wp2_with fail
                                    refine (hr _).mono ?_
                                    rintro e wl ⟨rfl, hX⟩
                                    have S5 := Lib.hid (S4.out.below hX)
                                    clear hX S4 
                                    have S6 := Lib.hid (S5.out.alloc #[.int .i64 rh, .int .u64 rl] 24)
                                    clear S5 qo0 qo1
                                    go_upto_region 19 with fail
                                    obtain ⟨g15, hgz⟩ : ∃ g, g = wl.heap.size := ⟨_, rfl⟩
                                    rw [← hgz] at S6 ⊢
                                    clear hgz
                                    generalize World.alloc wl _ = wm at *
                                    obtain ⟨⟨qr0, qr1⟩, -⟩ := two_of (S6.out.has (Has.l (has_blk g15 _ _)))
                                    go_wp2_with fail
                                    refine (hk _).mono ?_
                                    rintro e wn ⟨rfl, hX⟩
                                    have S7 := Lib.hid (S6.out.below hX)
                                    clear hX S6 
                                    clear qr0 qr1
                                    go_wp2_with fail
                                    go_returns
                                    exact ⟨rfl, S7.out.bel⟩)))
end Go.Proofs.Ytggpcebcmoopnaa.Wd
