/- The walk of LockNames. -/
import Derived.Test.YtikdjgholjealaaDoorLkAw
import Derived.Test.YtikdjgholjealaaDoorLkU
namespace Go.Proofs.YtikdjgholjealaaDoor.Lk
open Go.ChangeShapes Go.WideShapes Go.ChangeAt Go.RowKit Go.PlainAid Aid Md
set_option linter.unusedVariables false
set_option linter.unusedSimpArgs false
theorem lowB_inj {x y : Int} (h0 : 0 ≤ x) (h1 : x < 256) (h2 : 0 ≤ y) (h3 : y < 256) (h : lowB x = lowB y) : x = y := by
  have e1 := lowB_int x
  have e2 := lowB_int y
  rw [h] at e1
  rw [Int.emod_eq_of_lt h0 h1] at e1
  rw [Int.emod_eq_of_lt h2 h3] at e2
  omega
theorem nameB_inj {k1 k2 : UInt8} {x y : Int} {a b : ByteArray} (h : nameB k1 x a = nameB k2 y b) : k1 = k2 ∧ lowB x = lowB y ∧ a = b := by
  unfold nameB ofL at h
  have h2 := congrArg (fun z : ByteArray => z.data.toList) h
  simp only [List.cons.injEq] at h2
  obtain ⟨e1, e2, e3⟩ := h2
  refine ⟨e1, e2, ?_⟩
  apply ByteArray.ext
  apply Array.toList_inj.1
  exact e3
set_option maxRecDepth 100000 in
set_option maxHeartbeats 16000000 in
theorem names_tt (t o : Int) (a b : ByteArray) (K M : Nat) (hK : wrap64 ((IntKind.u64.wrap t).tmod 256) = (K : Int)) (hM : wrap64 ((IntKind.u64.wrap o).tmod 256) = (M : Int)) (ha : ¬ 60 < (a.size : Int)) (hb : ¬ 60 < (b.size : Int)) (kx ky gx gy gt tx ty : ByteArray) (sk : UInt8) (w : World) (ht : Tabs w)
    (KX : Hid (∀ W, Calls Tryd.prog 13 #[.int .i64 (K : Int), .string a] W fun e w' => e = .returned (.string kx) ∧ Below W.heap.size W w'))
    (KY : Hid (∀ W, Calls Tryd.prog 13 #[.int .i64 (M : Int), .string b] W fun e w' => e = .returned (.string ky) ∧ Below W.heap.size W w'))
    (GX : Hid (∀ W, Calls Tryd.prog 14 #[.int .i64 (K : Int), .string a] W fun e w' => e = .returned (.string gx) ∧ Below W.heap.size W w'))
    (GY : Hid (∀ W, Calls Tryd.prog 14 #[.int .i64 (M : Int), .string b] W fun e w' => e = .returned (.string gy) ∧ Below W.heap.size W w'))
    (GT : Hid (∀ W, Calls Tryd.prog 14 #[.int .i64 t, .string a] W fun e w' => e = .returned (.string gt) ∧ Below W.heap.size W w'))
    (TX : Hid (∀ W, Calls Tryd.prog 15 #[.int .i64 (K : Int)] W fun e w' => e = .returned (.string tx) ∧ Below W.heap.size W w'))
    (TY : Hid (∀ W, Calls Tryd.prog 15 #[.int .i64 (M : Int)] W fun e w' => e = .returned (.string ty) ∧ Below W.heap.size W w'))
    (CV : Hid (∀ W g, W.cell? ⟨g, 0, none⟩ = some (.int .u8 (IntKind.u8.wrap (K : Int))) → (convert 37 9 (.slice (some ⟨g, 0, none⟩) 1 1)).run Tryd.prog W = .ok (.string (ofL [sk])) W))
    (HSL : Hid (∀ W, (Instr.slice 9 (.string tx) (some (.int .i64 1)) none none).run Tryd.prog W = .ok (.string (ofL [sk])) W))
    (exy : ((K : Int) == (M : Int)) = true) (eab : (a.toList == b.toList) = true)
    (e1 : (kx.toList == ky.toList) = true) (e2 : (gx.toList == gy.toList) = true) (e3 : (tx.toList == ty.toList) = true)
    (e4 : (kx.toList == gy.toList) = false) (e5 : (kx.toList == ty.toList) = false) (e6 : (gx.toList == ty.toList) = false)
    (e7 : (tx.toList == (⟨#[116]⟩ ++ ofL [sk] : ByteArray).toList) = true) (e8 : (kx.toList == (⟨#[107]⟩ ++ ofL [sk] ++ a : ByteArray).toList) = true) (e9 : (gt.toList == gx.toList) = true) (hsk : (ofL [sk]).size = 1)
    (hsz : ¬ 9223372036854775807 < 2 + a.size) :
    Calls Tryd.prog 5 #[.int .i64 t, .int .i64 o, .string a, .string b] w fun e w' => e = .returned (.bool true) ∧ Below w.heap.size w w' := by
  have HA := Lib.hid (awake_any w ht)
  clear ht
  go_enter Tryd.func5, Tryd.ntmps5
  go_wp2_with fail
  refine HA.out.mono ?_
  rintro e wa ⟨rfl, hX⟩
  have Ba := Lib.hid hX
  clear hX HA
  go_wp2_with fail
  refine (KX.out _).mono ?_
  rintro e wb ⟨rfl, hX⟩
  have Bb := Lib.hid (bl Ba.out hX)
  clear hX Ba
  go_wp2_with fail
  refine (KY.out _).mono ?_
  rintro e wc ⟨rfl, hX⟩
  have Bc := Lib.hid (bl Bb.out hX)
  clear hX Bb
  go_wp2_with fail
  refine (GX.out _).mono ?_
  rintro e wd ⟨rfl, hX⟩
  have Bd := Lib.hid (bl Bc.out hX)
  clear hX Bc
  go_wp2_with fail
  refine (GY.out _).mono ?_
  rintro e we ⟨rfl, hX⟩
  have Be := Lib.hid (bl Bd.out hX)
  clear hX Bd
  go_wp2_with fail
  refine (TX.out _).mono ?_
  rintro e wf ⟨rfl, hX⟩
  have Bf := Lib.hid (bl Be.out hX)
  clear hX Be
  go_wp2_with fail
  refine (TY.out _).mono ?_
  rintro e w1 ⟨rfl, hX⟩
  have B1 := Lib.hid (bl Bf.out hX)
  clear hX Bf
  go_wp2_with fail
  refine wp_region_held_drew (S := fun W' : World => Below w1.heap.size w1 W') (by kernel_rfl) (by first | exact Below.refl _ _ | exact ⟨rfl, rfl, rfl, Nat.le_refl _, fun _ _ => rfl⟩) (fun hHeld => ?_)
  generalize w1.drew = wd at *
  refine' wpAnyH_take (i := 0) (oi := ?ot1z0) (v := ?vt1z0) ?ht1z0 ?st1z0 ?ft1z0 ?zt1z0 ?qt1z0 ?yt1z0 ?at1z0 ?rt1z0
  case ht1z0 => (simp only [List.getElem?_toArray, List.getElem?_cons_succ, List.getElem?_cons_zero]; rfl)
  case st1z0 => kernel_rfl
  case ft1z0 => kernel_rfl
  case zt1z0 => kernel_rfl
  case qt1z0 => exact fun _ _ _ h => h
  case yt1z0 => (refine Or.inl ⟨rfl, ?_⟩; intro w hSw; (try dsimp only at hSw); go_simp; try with_reducible rfl)
  case at1z0 => assumption
  case rt1z0 =>
  simp only [Act.put, List.setIfInBounds_toArray, List.set_cons_zero, List.set_cons_succ]
  refine' wpAnyH_take (i := 1) (oi := ?ot2z1) (v := ?vt2z1) ?ht2z1 ?st2z1 ?ft2z1 ?zt2z1 ?qt2z1 ?yt2z1 ?at2z1 ?rt2z1
  case ht2z1 => (simp only [List.getElem?_toArray, List.getElem?_cons_succ, List.getElem?_cons_zero]; rfl)
  case st2z1 => kernel_rfl
  case ft2z1 => kernel_rfl
  case zt2z1 => kernel_rfl
  case qt2z1 => exact fun _ _ _ h => h
  case yt2z1 => (refine Or.inl ⟨rfl, ?_⟩; intro w hSw; (try dsimp only at hSw); go_simp; try with_reducible rfl)
  case at2z1 => assumption
  case rt2z1 =>
  simp only [Act.put, List.setIfInBounds_toArray, List.set_cons_zero, List.set_cons_succ]
  refine' wpAnyH_take (i := 3) (oi := ?ot3z3) (v := ?vt3z3) ?ht3z3 ?st3z3 ?ft3z3 ?zt3z3 ?qt3z3 ?yt3z3 ?at3z3 ?rt3z3
  case ht3z3 => (simp only [List.getElem?_toArray, List.getElem?_cons_succ, List.getElem?_cons_zero]; rfl)
  case st3z3 => kernel_rfl
  case ft3z3 => kernel_rfl
  case zt3z3 => kernel_rfl
  case qt3z3 => exact fun _ _ _ h => h
  case yt3z3 => (refine Or.inl ⟨rfl, ?_⟩; intro w hSw; (try dsimp only at hSw); go_simp; try with_reducible rfl)
  case at3z3 => assumption
  case rt3z3 =>
  simp only [Act.put, List.setIfInBounds_toArray, List.set_cons_zero, List.set_cons_succ]
  refine' wpAnyH_take (i := 4) (oi := ?ot4z4) (v := ?vt4z4) ?ht4z4 ?st4z4 ?ft4z4 ?zt4z4 ?qt4z4 ?yt4z4 ?at4z4 ?rt4z4
  case ht4z4 => (simp only [List.getElem?_toArray, List.getElem?_cons_succ, List.getElem?_cons_zero]; rfl)
  case st4z4 => kernel_rfl
  case ft4z4 => kernel_rfl
  case zt4z4 => kernel_rfl
  case qt4z4 => exact fun _ _ _ h => h
  case yt4z4 => (refine Or.inl ⟨rfl, ?_⟩; intro w hSw; (try dsimp only at hSw); go_simp; try with_reducible rfl)
  case at4z4 => assumption
  case rt4z4 =>
  simp only [Act.put, List.setIfInBounds_toArray, List.set_cons_zero, List.set_cons_succ]
  refine wpAnyH_ready (rs := [2]) (by kernel_rfl) (by simp) ?_
  refine' AllReadyH.cons (o := ?ob5z2) ?hb5z2 ?kb5z2 AllReadyH.nil
  case hb5z2 => (simp only [List.getElem?_toArray, List.getElem?_cons_succ, List.getElem?_cons_zero]; rfl)
  case kb5z2 =>
    intro K0 hK
    go_simp
    go_at_call 13
    refine (KX.out _).mono ?_
    rintro eK wq6 ⟨rfl, hX⟩
    have hH2 := bl hHeld hX
    clear hX hHeld
    refine hK.out _ _ ?_ (fun hHeld => ?_)
    · exact hH2
    clear hK K0
    (try simp only [Act.put, List.setIfInBounds_toArray, List.set_cons_zero, List.set_cons_succ])
    (try clear hH2)
    refine wpAnyH_ready (rs := [5]) (by kernel_rfl) (by simp) ?_
    refine' AllReadyH.cons (o := ?ob7z5) ?hb7z5 ?kb7z5 AllReadyH.nil
    case hb7z5 => (simp only [List.getElem?_toArray, List.getElem?_cons_succ, List.getElem?_cons_zero]; rfl)
    case kb7z5 =>
      intro K0 hK
      go_simp
      go_at_call 14
      refine (GY.out _).mono ?_
      rintro eK wq8 ⟨rfl, hX⟩
      have hH2 := bl hHeld hX
      clear hX hHeld
      refine hK.out _ _ ?_ (fun hHeld => ?_)
      · exact hH2
      clear hK K0
      (try simp only [Act.put, List.setIfInBounds_toArray, List.set_cons_zero, List.set_cons_succ])
      (try clear hH2)
      refine' wpAnyH_take (i := 6) (oi := ?ot9z6) (v := ?vt9z6) ?ht9z6 ?st9z6 ?ft9z6 ?zt9z6 ?qt9z6 ?yt9z6 ?at9z6 ?rt9z6
      case ht9z6 => (simp only [List.getElem?_toArray, List.getElem?_cons_succ, List.getElem?_cons_zero]; rfl)
      case st9z6 => kernel_rfl
      case ft9z6 => kernel_rfl
      case zt9z6 => kernel_rfl
      case qt9z6 => exact fun _ _ _ h => h
      case yt9z6 => (refine Or.inl ⟨rfl, ?_⟩; intro w hSw; (try dsimp only at hSw); go_simp; try with_reducible rfl)
      case at9z6 => assumption
      case rt9z6 =>
      simp only [Act.put, List.setIfInBounds_toArray, List.set_cons_zero, List.set_cons_succ]
      refine' wpAnyH_take (i := 7) (oi := ?ot10z7) (v := ?vt10z7) ?ht10z7 ?st10z7 ?ft10z7 ?zt10z7 ?qt10z7 ?yt10z7 ?at10z7 ?rt10z7
      case ht10z7 => (simp only [List.getElem?_toArray, List.getElem?_cons_succ, List.getElem?_cons_zero]; rfl)
      case st10z7 => kernel_rfl
      case ft10z7 => kernel_rfl
      case zt10z7 => kernel_rfl
      case qt10z7 => exact fun _ _ _ h => h
      case yt10z7 => (refine Or.inl ⟨rfl, ?_⟩; intro w hSw; (try dsimp only at hSw); go_simp; try with_reducible rfl)
      case at10z7 => assumption
      case rt10z7 =>
      simp only [Act.put, List.setIfInBounds_toArray, List.set_cons_zero, List.set_cons_succ]
      refine' wpAnyH_take (i := 8) (oi := ?ot11z8) (v := ?vt11z8) ?ht11z8 ?st11z8 ?ft11z8 ?zt11z8 ?qt11z8 ?yt11z8 ?at11z8 ?rt11z8
      case ht11z8 => (simp only [List.getElem?_toArray, List.getElem?_cons_succ, List.getElem?_cons_zero]; rfl)
      case st11z8 => kernel_rfl
      case ft11z8 => kernel_rfl
      case zt11z8 => kernel_rfl
      case qt11z8 => exact fun _ _ _ h => h
      case yt11z8 => (refine Or.inl ⟨rfl, ?_⟩; intro w hSw; (try dsimp only at hSw); go_simp; try with_reducible rfl)
      case at11z8 => assumption
      case rt11z8 =>
      simp only [Act.put, List.setIfInBounds_toArray, List.set_cons_zero, List.set_cons_succ]
      refine' wpAnyH_take (i := 9) (oi := ?ot12z9) (v := ?vt12z9) ?ht12z9 ?st12z9 ?ft12z9 ?zt12z9 ?qt12z9 ?yt12z9 ?at12z9 ?rt12z9
      case ht12z9 => (simp only [List.getElem?_toArray, List.getElem?_cons_succ, List.getElem?_cons_zero]; rfl)
      case st12z9 => kernel_rfl
      case ft12z9 => kernel_rfl
      case zt12z9 => kernel_rfl
      case qt12z9 => exact fun _ _ _ h => h
      case yt12z9 => (refine Or.inl ⟨rfl, ?_⟩; intro w hSw; (try dsimp only at hSw); go_simp; try with_reducible rfl)
      case at12z9 => assumption
      case rt12z9 =>
      simp only [Act.put, List.setIfInBounds_toArray, List.set_cons_zero, List.set_cons_succ]
      refine' wpAnyH_take (i := 11) (oi := ?ot13z11) (v := ?vt13z11) ?ht13z11 ?st13z11 ?ft13z11 ?zt13z11 ?qt13z11 ?yt13z11 ?at13z11 ?rt13z11
      case ht13z11 => (simp only [List.getElem?_toArray, List.getElem?_cons_succ, List.getElem?_cons_zero]; rfl)
      case st13z11 => kernel_rfl
      case ft13z11 => kernel_rfl
      case zt13z11 => kernel_rfl
      case qt13z11 => exact fun _ _ _ h => h
      case yt13z11 => (refine Or.inl ⟨rfl, ?_⟩; intro w hSw; (try dsimp only at hSw); go_simp; try with_reducible rfl)
      case at13z11 => assumption
      case rt13z11 =>
      simp only [Act.put, List.setIfInBounds_toArray, List.set_cons_zero, List.set_cons_succ]
      refine wpAnyH_ready (rs := [10]) (by kernel_rfl) (by simp) ?_
      refine' AllReadyH.cons (o := ?ob14z10) ?hb14z10 ?kb14z10 AllReadyH.nil
      case hb14z10 => (simp only [List.getElem?_toArray, List.getElem?_cons_succ, List.getElem?_cons_zero]; rfl)
      case kb14z10 =>
        intro K0 hK
        go_simp
        go_at_call 13
        refine (KX.out _).mono ?_
        rintro eK wq15 ⟨rfl, hX⟩
        have hH2 := bl hHeld hX
        clear hX hHeld
        refine hK.out _ _ ?_ (fun hHeld => ?_)
        · exact hH2
        clear hK K0
        (try simp only [Act.put, List.setIfInBounds_toArray, List.set_cons_zero, List.set_cons_succ])
        (try clear hH2)
        refine wpAnyH_ready (rs := [12]) (by kernel_rfl) (by simp) ?_
        refine' AllReadyH.cons (o := ?ob16z12) ?hb16z12 ?kb16z12 AllReadyH.nil
        case hb16z12 => (simp only [List.getElem?_toArray, List.getElem?_cons_succ, List.getElem?_cons_zero]; rfl)
        case kb16z12 =>
          intro K0 hK
          go_simp
          go_at_call 15
          refine (TY.out _).mono ?_
          rintro eK wq17 ⟨rfl, hX⟩
          have hH2 := bl hHeld hX
          clear hX hHeld
          refine hK.out _ _ ?_ (fun hHeld => ?_)
          · exact hH2
          clear hK K0
          (try simp only [Act.put, List.setIfInBounds_toArray, List.set_cons_zero, List.set_cons_succ])
          (try clear hH2)
          refine' wpAnyH_take (i := 13) (oi := ?ot18z13) (v := ?vt18z13) ?ht18z13 ?st18z13 ?ft18z13 ?zt18z13 ?qt18z13 ?yt18z13 ?at18z13 ?rt18z13
          case ht18z13 => (simp only [List.getElem?_toArray, List.getElem?_cons_succ, List.getElem?_cons_zero]; rfl)
          case st18z13 => kernel_rfl
          case ft18z13 => kernel_rfl
          case zt18z13 => kernel_rfl
          case qt18z13 => exact fun _ _ _ h => h
          case yt18z13 => (refine Or.inl ⟨rfl, ?_⟩; intro w hSw; (try dsimp only at hSw); go_simp; try with_reducible rfl)
          case at18z13 => assumption
          case rt18z13 =>
          simp only [Act.put, List.setIfInBounds_toArray, List.set_cons_zero, List.set_cons_succ]
          refine' wpAnyH_take (i := 14) (oi := ?ot19z14) (v := ?vt19z14) ?ht19z14 ?st19z14 ?ft19z14 ?zt19z14 ?qt19z14 ?yt19z14 ?at19z14 ?rt19z14
          case ht19z14 => (simp only [List.getElem?_toArray, List.getElem?_cons_succ, List.getElem?_cons_zero]; rfl)
          case st19z14 => kernel_rfl
          case ft19z14 => kernel_rfl
          case zt19z14 => kernel_rfl
          case qt19z14 => exact fun _ _ _ h => h
          case yt19z14 => (refine Or.inl ⟨rfl, ?_⟩; intro w hSw; (try dsimp only at hSw); go_simp; try with_reducible rfl)
          case at19z14 => assumption
          case rt19z14 =>
          simp only [Act.put, List.setIfInBounds_toArray, List.set_cons_zero, List.set_cons_succ]
          refine' wpAnyH_take (i := 15) (oi := ?ot20z15) (v := ?vt20z15) ?ht20z15 ?st20z15 ?ft20z15 ?zt20z15 ?qt20z15 ?yt20z15 ?at20z15 ?rt20z15
          case ht20z15 => (simp only [List.getElem?_toArray, List.getElem?_cons_succ, List.getElem?_cons_zero]; rfl)
          case st20z15 => kernel_rfl
          case ft20z15 => kernel_rfl
          case zt20z15 => kernel_rfl
          case qt20z15 => exact fun _ _ _ h => h
          case yt20z15 => (refine Or.inl ⟨rfl, ?_⟩; intro w hSw; (try dsimp only at hSw); go_simp; try with_reducible rfl)
          case at20z15 => assumption
          case rt20z15 =>
          simp only [Act.put, List.setIfInBounds_toArray, List.set_cons_zero, List.set_cons_succ]
          refine' wpAnyH_take (i := 16) (oi := ?ot21z16) (v := ?vt21z16) ?ht21z16 ?st21z16 ?ft21z16 ?zt21z16 ?qt21z16 ?yt21z16 ?at21z16 ?rt21z16
          case ht21z16 => (simp only [List.getElem?_toArray, List.getElem?_cons_succ, List.getElem?_cons_zero]; rfl)
          case st21z16 => kernel_rfl
          case ft21z16 => kernel_rfl
          case zt21z16 => kernel_rfl
          case qt21z16 => exact fun _ _ _ h => h
          case yt21z16 => (refine Or.inl ⟨rfl, ?_⟩; intro w hSw; (try dsimp only at hSw); go_simp; try with_reducible rfl)
          case at21z16 => assumption
          case rt21z16 =>
          simp only [Act.put, List.setIfInBounds_toArray, List.set_cons_zero, List.set_cons_succ]
          refine' wpAnyH_take (i := 17) (oi := ?ot22z17) (v := ?vt22z17) ?ht22z17 ?st22z17 ?ft22z17 ?zt22z17 ?qt22z17 ?yt22z17 ?at22z17 ?rt22z17
          case ht22z17 => (simp only [List.getElem?_toArray, List.getElem?_cons_succ, List.getElem?_cons_zero]; rfl)
          case st22z17 => kernel_rfl
          case ft22z17 => kernel_rfl
          case zt22z17 => kernel_rfl
          case qt22z17 => exact fun _ _ _ h => h
          case yt22z17 => (refine Or.inl ⟨rfl, ?_⟩; intro w hSw; (try dsimp only at hSw); go_simp; try with_reducible rfl)
          case at22z17 => assumption
          case rt22z17 =>
          simp only [Act.put, List.setIfInBounds_toArray, List.set_cons_zero, List.set_cons_succ]
          refine' wpAnyH_take (i := 19) (oi := ?ot23z19) (v := ?vt23z19) ?ht23z19 ?st23z19 ?ft23z19 ?zt23z19 ?qt23z19 ?yt23z19 ?at23z19 ?rt23z19
          case ht23z19 => (simp only [List.getElem?_toArray, List.getElem?_cons_succ, List.getElem?_cons_zero]; rfl)
          case st23z19 => kernel_rfl
          case ft23z19 => kernel_rfl
          case zt23z19 => kernel_rfl
          case qt23z19 => exact fun _ _ _ h => h
          case yt23z19 => (refine Or.inl ⟨rfl, ?_⟩; intro w hSw; (try dsimp only at hSw); go_simp; try with_reducible rfl)
          case at23z19 => assumption
          case rt23z19 =>
          simp only [Act.put, List.setIfInBounds_toArray, List.set_cons_zero, List.set_cons_succ]
          refine wpAnyH_ready (rs := [18]) (by kernel_rfl) (by simp) ?_
          refine' AllReadyH.cons (o := ?ob24z18) ?hb24z18 ?kb24z18 AllReadyH.nil
          case hb24z18 => (simp only [List.getElem?_toArray, List.getElem?_cons_succ, List.getElem?_cons_zero]; rfl)
          case kb24z18 =>
            intro K0 hK
            go_simp
            go_at_call 14
            refine (GX.out _).mono ?_
            rintro eK wq25 ⟨rfl, hX⟩
            have hH2 := bl hHeld hX
            clear hX hHeld
            refine hK.out _ _ ?_ (fun hHeld => ?_)
            · exact hH2
            clear hK K0
            (try simp only [Act.put, List.setIfInBounds_toArray, List.set_cons_zero, List.set_cons_succ])
            (try clear hH2)
            refine wpAnyH_ready (rs := [20]) (by kernel_rfl) (by simp) ?_
            refine' AllReadyH.cons (o := ?ob26z20) ?hb26z20 ?kb26z20 AllReadyH.nil
            case hb26z20 => (simp only [List.getElem?_toArray, List.getElem?_cons_succ, List.getElem?_cons_zero]; rfl)
            case kb26z20 =>
              intro K0 hK
              go_simp
              go_at_call 15
              refine (TY.out _).mono ?_
              rintro eK wq27 ⟨rfl, hX⟩
              have hH2 := bl hHeld hX
              clear hX hHeld
              refine hK.out _ _ ?_ (fun hHeld => ?_)
              · exact hH2
              clear hK K0
              (try simp only [Act.put, List.setIfInBounds_toArray, List.set_cons_zero, List.set_cons_succ])
              (try clear hH2)
              refine' wpAnyH_take (i := 21) (oi := ?ot28z21) (v := ?vt28z21) ?ht28z21 ?st28z21 ?ft28z21 ?zt28z21 ?qt28z21 ?yt28z21 ?at28z21 ?rt28z21
              case ht28z21 => (simp only [List.getElem?_toArray, List.getElem?_cons_succ, List.getElem?_cons_zero]; rfl)
              case st28z21 => kernel_rfl
              case ft28z21 => kernel_rfl
              case zt28z21 => kernel_rfl
              case qt28z21 => exact fun _ _ _ h => h
              case yt28z21 => (refine Or.inl ⟨rfl, ?_⟩; intro w hSw; (try dsimp only at hSw); go_simp; try with_reducible rfl)
              case at28z21 => assumption
              case rt28z21 =>
              simp only [Act.put, List.setIfInBounds_toArray, List.set_cons_zero, List.set_cons_succ]
              refine' wpAnyH_take (i := 22) (oi := ?ot29z22) (v := ?vt29z22) ?ht29z22 ?st29z22 ?ft29z22 ?zt29z22 ?qt29z22 ?yt29z22 ?at29z22 ?rt29z22
              case ht29z22 => (simp only [List.getElem?_toArray, List.getElem?_cons_succ, List.getElem?_cons_zero]; rfl)
              case st29z22 => kernel_rfl
              case ft29z22 => kernel_rfl
              case zt29z22 => kernel_rfl
              case qt29z22 => exact fun _ _ _ h => h
              case yt29z22 => (refine Or.inl ⟨rfl, ?_⟩; intro w hSw; (try dsimp only at hSw); go_simp; try with_reducible rfl)
              case at29z22 => assumption
              case rt29z22 =>
              simp only [Act.put, List.setIfInBounds_toArray, List.set_cons_zero, List.set_cons_succ]
              refine' wpAnyH_take (i := 23) (oi := ?ot30z23) (v := ?vt30z23) ?ht30z23 ?st30z23 ?ft30z23 ?zt30z23 ?qt30z23 ?yt30z23 ?at30z23 ?rt30z23
              case ht30z23 => (simp only [List.getElem?_toArray, List.getElem?_cons_succ, List.getElem?_cons_zero]; rfl)
              case st30z23 => kernel_rfl
              case ft30z23 => kernel_rfl
              case zt30z23 => kernel_rfl
              case qt30z23 => exact fun _ _ _ h => h
              case yt30z23 => (refine Or.inl ⟨rfl, ?_⟩; intro w hSw; (try dsimp only at hSw); go_simp; try with_reducible rfl)
              case at30z23 => assumption
              case rt30z23 =>
              simp only [Act.put, List.setIfInBounds_toArray, List.set_cons_zero, List.set_cons_succ]
              refine' wpAnyH_take (i := 24) (oi := ?ot31z24) (v := ?vt31z24) ?ht31z24 ?st31z24 ?ft31z24 ?zt31z24 ?qt31z24 ?yt31z24 ?at31z24 ?rt31z24
              case ht31z24 => (simp only [List.getElem?_toArray, List.getElem?_cons_succ, List.getElem?_cons_zero]; rfl)
              case st31z24 => kernel_rfl
              case ft31z24 => kernel_rfl
              case zt31z24 => kernel_rfl
              case qt31z24 => exact fun _ _ _ h => h
              case yt31z24 => (refine Or.inl ⟨rfl, ?_⟩; intro w hSw; (try dsimp only at hSw); go_simp; try with_reducible rfl)
              case at31z24 => assumption
              case rt31z24 =>
              simp only [Act.put, List.setIfInBounds_toArray, List.set_cons_zero, List.set_cons_succ]
              refine' wpAnyH_take (i := 26) (oi := ?ot32z26) (v := ?vt32z26) ?ht32z26 ?st32z26 ?ft32z26 ?zt32z26 ?qt32z26 ?yt32z26 ?at32z26 ?rt32z26
              case ht32z26 => (simp only [List.getElem?_toArray, List.getElem?_cons_succ, List.getElem?_cons_zero]; rfl)
              case st32z26 => kernel_rfl
              case ft32z26 => kernel_rfl
              case zt32z26 => kernel_rfl
              case qt32z26 => exact fun _ _ _ h => h
              case yt32z26 => (refine Or.inl ⟨rfl, ?_⟩; intro w hSw; (try dsimp only at hSw); go_simp; try with_reducible rfl)
              case at32z26 => assumption
              case rt32z26 =>
              simp only [Act.put, List.setIfInBounds_toArray, List.set_cons_zero, List.set_cons_succ]
              refine' wpAnyH_take (i := 27) (oi := ?ot33z27) (v := ?vt33z27) ?ht33z27 ?st33z27 ?ft33z27 ?zt33z27 ?qt33z27 ?yt33z27 ?at33z27 ?rt33z27
              case ht33z27 => (simp only [List.getElem?_toArray, List.getElem?_cons_succ, List.getElem?_cons_zero]; rfl)
              case st33z27 => kernel_rfl
              case ft33z27 => kernel_rfl
              case zt33z27 => kernel_rfl
              case qt33z27 => exact fun _ _ _ h => h
              case yt33z27 => (refine Or.inl ⟨rfl, ?_⟩; intro w hSw; (try dsimp only at hSw); go_simp; try with_reducible rfl)
              case at33z27 => assumption
              case rt33z27 =>
              simp only [Act.put, List.setIfInBounds_toArray, List.set_cons_zero, List.set_cons_succ]
              refine wpAnyH_ready (rs := [25, 28]) (by kernel_rfl) (by simp) ?_
              refine' AllReadyH.cons (o := ?ob34z25) ?hb34z25 ?kb34z25 ?mb34z25
              case hb34z25 => (simp only [List.getElem?_toArray, List.getElem?_cons_succ, List.getElem?_cons_zero]; rfl)
              case kb34z25 =>
                intro K0 hK
                go_simp
                go_at_call 15
                refine (TX.out _).mono ?_
                rintro eK wq35 ⟨rfl, hX⟩
                have hH2 := bl hHeld hX
                clear hX hHeld
                refine hK.out _ _ ?_ (fun hHeld => ?_)
                · exact hH2
                clear hK K0
                (try simp only [Act.put, List.setIfInBounds_toArray, List.set_cons_zero, List.set_cons_succ])
                (try clear hH2)
                refine wpAnyH_ready (rs := [28]) (by kernel_rfl) (by simp) ?_
                refine' AllReadyH.cons (o := ?ob36z28) ?hb36z28 ?kb36z28 AllReadyH.nil
                case hb36z28 => (simp only [List.getElem?_toArray, List.getElem?_cons_succ, List.getElem?_cons_zero]; rfl)
                case kb36z28 =>
                  intro K0 hK
                  go_simp
                  obtain ⟨gb, hgz⟩ : ∃ g, g = wq35.heap.size := ⟨_, rfl⟩
                  have hH2 : Below w1.heap.size w1 (wq35.alloc (.cells #[.int .u8 (IntKind.u8.wrap (K : Int))] 5)) ∧ gb < (wq35.alloc (.cells #[.int .u8 (IntKind.u8.wrap (K : Int))] 5)).heap.size ∧ (wq35.alloc (.cells #[.int .u8 (IntKind.u8.wrap (K : Int))] 5)).cell? ⟨gb, 0, none⟩ = some (.int .u8 (IntKind.u8.wrap (K : Int))) := ⟨blA hHeld _, by rw [hgz, World.size_alloc]; omega, by rw [hgz]; exact (Blk.new _ _ _).cell 0⟩
                  rw [← hgz]
                  clear hgz hHeld
                  generalize World.alloc wq35 _ = wq37 at *
                  refine hK.out _ _ ?_ (fun hHeld => ?_)
                  · exact hH2.1
                  clear hK K0
                  (try simp only [Act.put, List.setIfInBounds_toArray, List.set_cons_zero, List.set_cons_succ])
                  refine wpAnyH_weak (S := fun W => Below w1.heap.size w1 W ∧ gb < W.heap.size ∧ W.cell? ⟨gb, 0, none⟩ = some (.int .u8 (IntKind.u8.wrap (K : Int)))) (fun _ h => h.1) _ _ _ _ ?_
                  clear hHeld
                  have hHeld := hH2
                  clear hH2
                  refine' wpAnyH_take (i := 29) (oi := ?ot39z29) (v := ?vt39z29) ?ht39z29 ?st39z29 ?ft39z29 ?zt39z29 ?qt39z29 ?yt39z29 ?at39z29 ?rt39z29
                  case ht39z29 => (simp only [List.getElem?_toArray, List.getElem?_cons_succ, List.getElem?_cons_zero]; rfl)
                  case st39z29 => kernel_rfl
                  case ft39z29 => kernel_rfl
                  case zt39z29 => kernel_rfl
                  case qt39z29 => exact fun _ _ _ h => h
                  case yt39z29 => (refine Or.inl ⟨rfl, ?_⟩; intro w hSw; have hcv := CV.out _ _ hSw.2.2; clear hSw; go_simp; try with_reducible rfl)
                  case at39z29 => assumption
                  case rt39z29 =>
                  simp only [Act.put, List.setIfInBounds_toArray, List.set_cons_zero, List.set_cons_succ]
                  refine' wpAnyH_take (i := 30) (oi := ?ot40z30) (v := ?vt40z30) ?ht40z30 ?st40z30 ?ft40z30 ?zt40z30 ?qt40z30 ?yt40z30 ?at40z30 ?rt40z30
                  case ht40z30 => (simp only [List.getElem?_toArray, List.getElem?_cons_succ, List.getElem?_cons_zero]; rfl)
                  case st40z30 => kernel_rfl
                  case ft40z30 => kernel_rfl
                  case zt40z30 => kernel_rfl
                  case qt40z30 => exact fun _ _ _ h => h
                  case yt40z30 => (refine Or.inl ⟨rfl, ?_⟩; intro w hSw; (try dsimp only at hSw); go_simp; try with_reducible rfl)
                  case at40z30 => assumption
                  case rt40z30 =>
                  simp only [Act.put, List.setIfInBounds_toArray, List.set_cons_zero, List.set_cons_succ]
                  refine' wpAnyH_take (i := 31) (oi := ?ot41z31) (v := ?vt41z31) ?ht41z31 ?st41z31 ?ft41z31 ?zt41z31 ?qt41z31 ?yt41z31 ?at41z31 ?rt41z31
                  case ht41z31 => (simp only [List.getElem?_toArray, List.getElem?_cons_succ, List.getElem?_cons_zero]; rfl)
                  case st41z31 => kernel_rfl
                  case ft41z31 => kernel_rfl
                  case zt41z31 => kernel_rfl
                  case qt41z31 => exact fun _ _ _ h => h
                  case yt41z31 => (refine Or.inl ⟨rfl, ?_⟩; intro w hSw; (try dsimp only at hSw); go_simp; try with_reducible rfl)
                  case at41z31 => assumption
                  case rt41z31 =>
                  simp only [Act.put, List.setIfInBounds_toArray, List.set_cons_zero, List.set_cons_succ]
                  refine' wpAnyH_take (i := 32) (oi := ?ot42z32) (v := ?vt42z32) ?ht42z32 ?st42z32 ?ft42z32 ?zt42z32 ?qt42z32 ?yt42z32 ?at42z32 ?rt42z32
                  case ht42z32 => (simp only [List.getElem?_toArray, List.getElem?_cons_succ, List.getElem?_cons_zero]; rfl)
                  case st42z32 => kernel_rfl
                  case ft42z32 => kernel_rfl
                  case zt42z32 => kernel_rfl
                  case qt42z32 => exact fun _ _ _ h => h
                  case yt42z32 => (refine Or.inl ⟨rfl, ?_⟩; intro w hSw; (try dsimp only at hSw); go_simp; try with_reducible rfl)
                  case at42z32 => assumption
                  case rt42z32 =>
                  simp only [Act.put, List.setIfInBounds_toArray, List.set_cons_zero, List.set_cons_succ]
                  refine' wpAnyH_take (i := 33) (oi := ?ot43z33) (v := ?vt43z33) ?ht43z33 ?st43z33 ?ft43z33 ?zt43z33 ?qt43z33 ?yt43z33 ?at43z33 ?rt43z33
                  case ht43z33 => (simp only [List.getElem?_toArray, List.getElem?_cons_succ, List.getElem?_cons_zero]; rfl)
                  case st43z33 => kernel_rfl
                  case ft43z33 => kernel_rfl
                  case zt43z33 => kernel_rfl
                  case qt43z33 => exact fun _ _ _ h => h
                  case yt43z33 => (refine Or.inl ⟨rfl, ?_⟩; intro w hSw; (try dsimp only at hSw); go_simp; try with_reducible rfl)
                  case at43z33 => assumption
                  case rt43z33 =>
                  simp only [Act.put, List.setIfInBounds_toArray, List.set_cons_zero, List.set_cons_succ]
                  refine' wpAnyH_take (i := 34) (oi := ?ot44z34) (v := ?vt44z34) ?ht44z34 ?st44z34 ?ft44z34 ?zt44z34 ?qt44z34 ?yt44z34 ?at44z34 ?rt44z34
                  case ht44z34 => (simp only [List.getElem?_toArray, List.getElem?_cons_succ, List.getElem?_cons_zero]; rfl)
                  case st44z34 => kernel_rfl
                  case ft44z34 => kernel_rfl
                  case zt44z34 => kernel_rfl
                  case qt44z34 => exact fun _ _ _ h => h
                  case yt44z34 => (refine Or.inl ⟨rfl, ?_⟩; intro w hSw; (try dsimp only at hSw); go_simp; try with_reducible rfl)
                  case at44z34 => assumption
                  case rt44z34 =>
                  simp only [Act.put, List.setIfInBounds_toArray, List.set_cons_zero, List.set_cons_succ]
                  refine' wpAnyH_take (i := 35) (oi := ?ot45z35) (v := ?vt45z35) ?ht45z35 ?st45z35 ?ft45z35 ?zt45z35 ?qt45z35 ?yt45z35 ?at45z35 ?rt45z35
                  case ht45z35 => (simp only [List.getElem?_toArray, List.getElem?_cons_succ, List.getElem?_cons_zero]; rfl)
                  case st45z35 => kernel_rfl
                  case ft45z35 => kernel_rfl
                  case zt45z35 => kernel_rfl
                  case qt45z35 => exact fun _ _ _ h => h
                  case yt45z35 => (refine Or.inl ⟨rfl, ?_⟩; intro w hSw; (try dsimp only at hSw); go_simp; try with_reducible rfl)
                  case at45z35 => assumption
                  case rt45z35 =>
                  simp only [Act.put, List.setIfInBounds_toArray, List.set_cons_zero, List.set_cons_succ]
                  refine' wpAnyH_take (i := 37) (oi := ?ot46z37) (v := ?vt46z37) ?ht46z37 ?st46z37 ?ft46z37 ?zt46z37 ?qt46z37 ?yt46z37 ?at46z37 ?rt46z37
                  case ht46z37 => (simp only [List.getElem?_toArray, List.getElem?_cons_succ, List.getElem?_cons_zero]; rfl)
                  case st46z37 => kernel_rfl
                  case ft46z37 => kernel_rfl
                  case zt46z37 => kernel_rfl
                  case qt46z37 => exact fun _ _ _ h => h
                  case yt46z37 => (refine Or.inl ⟨rfl, ?_⟩; intro w hSw; (try dsimp only at hSw); go_simp; try with_reducible rfl)
                  case at46z37 => assumption
                  case rt46z37 =>
                  simp only [Act.put, List.setIfInBounds_toArray, List.set_cons_zero, List.set_cons_succ]
                  refine' wpAnyH_take (i := 41) (oi := ?ot47z41) (v := ?vt47z41) ?ht47z41 ?st47z41 ?ft47z41 ?zt47z41 ?qt47z41 ?yt47z41 ?at47z41 ?rt47z41
                  case ht47z41 => (simp only [List.getElem?_toArray, List.getElem?_cons_succ, List.getElem?_cons_zero]; rfl)
                  case st47z41 => kernel_rfl
                  case ft47z41 => kernel_rfl
                  case zt47z41 => kernel_rfl
                  case qt47z41 => exact fun _ _ _ h => h
                  case yt47z41 => (refine Or.inl ⟨rfl, ?_⟩; intro w hSw; (try dsimp only at hSw); go_simp; try with_reducible rfl)
                  case at47z41 => assumption
                  case rt47z41 =>
                  simp only [Act.put, List.setIfInBounds_toArray, List.set_cons_zero, List.set_cons_succ]
                  refine wpAnyH_ready (rs := [36]) (by kernel_rfl) (by simp) ?_
                  refine' AllReadyH.cons (o := ?ob48z36) ?hb48z36 ?kb48z36 AllReadyH.nil
                  case hb48z36 => (simp only [List.getElem?_toArray, List.getElem?_cons_succ, List.getElem?_cons_zero]; rfl)
                  case kb48z36 =>
                    intro K0 hK
                    go_simp
                    go_at_call 13
                    refine (KX.out _).mono ?_
                    rintro eK wq49 ⟨rfl, hX⟩
                    have hH2 : Below w1.heap.size w1 wq49 ∧ gb < wq49.heap.size ∧ wq49.cell? ⟨gb, 0, none⟩ = some (.int .u8 (IntKind.u8.wrap (K : Int))) := ⟨bl hHeld.1 hX, by have := hX.size; have := hHeld.2.1; omega, by rw [(bcell hX).1 _ _ hHeld.2.1]; exact hHeld.2.2⟩
                    clear hX hHeld
                    refine hK.out _ _ ?_ (fun hHeld => ?_)
                    · exact hH2
                    clear hK K0
                    (try simp only [Act.put, List.setIfInBounds_toArray, List.set_cons_zero, List.set_cons_succ])
                    (try clear hH2)
                    refine wpAnyH_ready (rs := [38]) (by kernel_rfl) (by simp) ?_
                    refine' AllReadyH.cons (o := ?ob50z38) ?hb50z38 ?kb50z38 AllReadyH.nil
                    case hb50z38 => (simp only [List.getElem?_toArray, List.getElem?_cons_succ, List.getElem?_cons_zero]; rfl)
                    case kb50z38 =>
                      intro K0 hK
                      go_simp
                      go_at_call 15
                      refine (TX.out _).mono ?_
                      rintro eK wq51 ⟨rfl, hX⟩
                      have hH2 : Below w1.heap.size w1 wq51 ∧ gb < wq51.heap.size ∧ wq51.cell? ⟨gb, 0, none⟩ = some (.int .u8 (IntKind.u8.wrap (K : Int))) := ⟨bl hHeld.1 hX, by have := hX.size; have := hHeld.2.1; omega, by rw [(bcell hX).1 _ _ hHeld.2.1]; exact hHeld.2.2⟩
                      clear hX hHeld
                      refine hK.out _ _ ?_ (fun hHeld => ?_)
                      · exact hH2
                      clear hK K0
                      (try simp only [Act.put, List.setIfInBounds_toArray, List.set_cons_zero, List.set_cons_succ])
                      (try clear hH2)
                      refine' wpAnyH_take (i := 39) (oi := ?ot52z39) (v := ?vt52z39) ?ht52z39 ?st52z39 ?ft52z39 ?zt52z39 ?qt52z39 ?yt52z39 ?at52z39 ?rt52z39
                      case ht52z39 => (simp only [List.getElem?_toArray, List.getElem?_cons_succ, List.getElem?_cons_zero]; rfl)
                      case st52z39 => kernel_rfl
                      case ft52z39 => kernel_rfl
                      case zt52z39 => kernel_rfl
                      case qt52z39 => exact fun _ _ _ h => h
                      case yt52z39 => (refine Or.inl ⟨rfl, ?_⟩; intro w hSw; clear hSw; have hsl := HSL.out w; go_simp; try with_reducible rfl)
                      case at52z39 => assumption
                      case rt52z39 =>
                      simp only [Act.put, List.setIfInBounds_toArray, List.set_cons_zero, List.set_cons_succ]
                      refine' wpAnyH_take (i := 40) (oi := ?ot53z40) (v := ?vt53z40) ?ht53z40 ?st53z40 ?ft53z40 ?zt53z40 ?qt53z40 ?yt53z40 ?at53z40 ?rt53z40
                      case ht53z40 => (simp only [List.getElem?_toArray, List.getElem?_cons_succ, List.getElem?_cons_zero]; rfl)
                      case st53z40 => kernel_rfl
                      case ft53z40 => kernel_rfl
                      case zt53z40 => kernel_rfl
                      case qt53z40 => exact fun _ _ _ h => h
                      case yt53z40 => (refine Or.inl ⟨rfl, ?_⟩; intro w hSw; (try dsimp only at hSw); go_simp; try with_reducible rfl)
                      case at53z40 => assumption
                      case rt53z40 =>
                      simp only [Act.put, List.setIfInBounds_toArray, List.set_cons_zero, List.set_cons_succ]
                      refine' wpAnyH_take (i := 42) (oi := ?ot54z42) (v := ?vt54z42) ?ht54z42 ?st54z42 ?ft54z42 ?zt54z42 ?qt54z42 ?yt54z42 ?at54z42 ?rt54z42
                      case ht54z42 => (simp only [List.getElem?_toArray, List.getElem?_cons_succ, List.getElem?_cons_zero]; rfl)
                      case st54z42 => kernel_rfl
                      case ft54z42 => kernel_rfl
                      case zt54z42 => kernel_rfl
                      case qt54z42 => exact fun _ _ _ h => h
                      case yt54z42 => (refine Or.inl ⟨rfl, ?_⟩; intro w hSw; (try dsimp only at hSw); go_simp; try with_reducible rfl)
                      case at54z42 => assumption
                      case rt54z42 =>
                      simp only [Act.put, List.setIfInBounds_toArray, List.set_cons_zero, List.set_cons_succ]
                      refine' wpAnyH_take (i := 43) (oi := ?ot55z43) (v := ?vt55z43) ?ht55z43 ?st55z43 ?ft55z43 ?zt55z43 ?qt55z43 ?yt55z43 ?at55z43 ?rt55z43
                      case ht55z43 => (simp only [List.getElem?_toArray, List.getElem?_cons_succ, List.getElem?_cons_zero]; rfl)
                      case st55z43 => kernel_rfl
                      case ft55z43 => kernel_rfl
                      case zt55z43 => kernel_rfl
                      case qt55z43 => exact fun _ _ _ h => h
                      case yt55z43 => (refine Or.inl ⟨rfl, ?_⟩; intro w hSw; (try dsimp only at hSw); go_simp; try with_reducible rfl)
                      case at55z43 => assumption
                      case rt55z43 =>
                      simp only [Act.put, List.setIfInBounds_toArray, List.set_cons_zero, List.set_cons_succ]
                      refine' wpAnyH_take (i := 44) (oi := ?ot56z44) (v := ?vt56z44) ?ht56z44 ?st56z44 ?ft56z44 ?zt56z44 ?qt56z44 ?yt56z44 ?at56z44 ?rt56z44
                      case ht56z44 => (simp only [List.getElem?_toArray, List.getElem?_cons_succ, List.getElem?_cons_zero]; rfl)
                      case st56z44 => kernel_rfl
                      case ft56z44 => kernel_rfl
                      case zt56z44 => kernel_rfl
                      case qt56z44 => exact fun _ _ _ h => h
                      case yt56z44 => (refine Or.inl ⟨rfl, ?_⟩; intro w hSw; (try dsimp only at hSw); go_simp; try with_reducible rfl)
                      case at56z44 => assumption
                      case rt56z44 =>
                      simp only [Act.put, List.setIfInBounds_toArray, List.set_cons_zero, List.set_cons_succ]
                      refine' wpAnyH_take (i := 45) (oi := ?ot57z45) (v := ?vt57z45) ?ht57z45 ?st57z45 ?ft57z45 ?zt57z45 ?qt57z45 ?yt57z45 ?at57z45 ?rt57z45
                      case ht57z45 => (simp only [List.getElem?_toArray, List.getElem?_cons_succ, List.getElem?_cons_zero]; rfl)
                      case st57z45 => kernel_rfl
                      case ft57z45 => kernel_rfl
                      case zt57z45 => kernel_rfl
                      case qt57z45 => exact fun _ _ _ h => h
                      case yt57z45 => (refine Or.inl ⟨rfl, ?_⟩; intro w hSw; (try dsimp only at hSw); go_simp; try with_reducible rfl)
                      case at57z45 => assumption
                      case rt57z45 =>
                      simp only [Act.put, List.setIfInBounds_toArray, List.set_cons_zero, List.set_cons_succ]
                      refine' wpAnyH_take (i := 46) (oi := ?ot58z46) (v := ?vt58z46) ?ht58z46 ?st58z46 ?ft58z46 ?zt58z46 ?qt58z46 ?yt58z46 ?at58z46 ?rt58z46
                      case ht58z46 => (simp only [List.getElem?_toArray, List.getElem?_cons_succ, List.getElem?_cons_zero]; rfl)
                      case st58z46 => kernel_rfl
                      case ft58z46 => kernel_rfl
                      case zt58z46 => kernel_rfl
                      case qt58z46 => exact fun _ _ _ h => h
                      case yt58z46 => (refine Or.inl ⟨rfl, ?_⟩; intro w hSw; (try dsimp only at hSw); go_simp; try with_reducible rfl)
                      case at58z46 => assumption
                      case rt58z46 =>
                      simp only [Act.put, List.setIfInBounds_toArray, List.set_cons_zero, List.set_cons_succ]
                      refine' wpAnyH_take (i := 47) (oi := ?ot59z47) (v := ?vt59z47) ?ht59z47 ?st59z47 ?ft59z47 ?zt59z47 ?qt59z47 ?yt59z47 ?at59z47 ?rt59z47
                      case ht59z47 => (simp only [List.getElem?_toArray, List.getElem?_cons_succ, List.getElem?_cons_zero]; rfl)
                      case st59z47 => kernel_rfl
                      case ft59z47 => kernel_rfl
                      case zt59z47 => kernel_rfl
                      case qt59z47 => exact fun _ _ _ h => h
                      case yt59z47 => (refine Or.inl ⟨rfl, ?_⟩; intro w hSw; (try dsimp only at hSw); go_simp; try with_reducible rfl)
                      case at59z47 => assumption
                      case rt59z47 =>
                      simp only [Act.put, List.setIfInBounds_toArray, List.set_cons_zero, List.set_cons_succ]
                      refine' wpAnyH_take (i := 49) (oi := ?ot60z49) (v := ?vt60z49) ?ht60z49 ?st60z49 ?ft60z49 ?zt60z49 ?qt60z49 ?yt60z49 ?at60z49 ?rt60z49
                      case ht60z49 => (simp only [List.getElem?_toArray, List.getElem?_cons_succ, List.getElem?_cons_zero]; rfl)
                      case st60z49 => kernel_rfl
                      case ft60z49 => kernel_rfl
                      case zt60z49 => kernel_rfl
                      case qt60z49 => exact fun _ _ _ h => h
                      case yt60z49 => (refine Or.inl ⟨rfl, ?_⟩; intro w hSw; (try dsimp only at hSw); go_simp; try with_reducible rfl)
                      case at60z49 => assumption
                      case rt60z49 =>
                      simp only [Act.put, List.setIfInBounds_toArray, List.set_cons_zero, List.set_cons_succ]
                      refine' wpAnyH_take (i := 50) (oi := ?ot61z50) (v := ?vt61z50) ?ht61z50 ?st61z50 ?ft61z50 ?zt61z50 ?qt61z50 ?yt61z50 ?at61z50 ?rt61z50
                      case ht61z50 => (simp only [List.getElem?_toArray, List.getElem?_cons_succ, List.getElem?_cons_zero]; rfl)
                      case st61z50 => kernel_rfl
                      case ft61z50 => kernel_rfl
                      case zt61z50 => kernel_rfl
                      case qt61z50 => exact fun _ _ _ h => h
                      case yt61z50 => (refine Or.inl ⟨rfl, ?_⟩; intro w hSw; (try dsimp only at hSw); go_simp; try with_reducible rfl)
                      case at61z50 => assumption
                      case rt61z50 =>
                      simp only [Act.put, List.setIfInBounds_toArray, List.set_cons_zero, List.set_cons_succ]
                      refine wpAnyH_ready (rs := [48]) (by kernel_rfl) (by simp) ?_
                      refine' AllReadyH.cons (o := ?ob62z48) ?hb62z48 ?kb62z48 AllReadyH.nil
                      case hb62z48 => (simp only [List.getElem?_toArray, List.getElem?_cons_succ, List.getElem?_cons_zero]; rfl)
                      case kb62z48 =>
                        intro K0 hK
                        go_simp
                        go_at_call 14
                        refine (GT.out _).mono ?_
                        rintro eK wq63 ⟨rfl, hX⟩
                        have hH2 : Below w1.heap.size w1 wq63 ∧ gb < wq63.heap.size ∧ wq63.cell? ⟨gb, 0, none⟩ = some (.int .u8 (IntKind.u8.wrap (K : Int))) := ⟨bl hHeld.1 hX, by have := hX.size; have := hHeld.2.1; omega, by rw [(bcell hX).1 _ _ hHeld.2.1]; exact hHeld.2.2⟩
                        clear hX hHeld
                        refine hK.out _ _ ?_ (fun hHeld => ?_)
                        · exact hH2
                        clear hK K0
                        (try simp only [Act.put, List.setIfInBounds_toArray, List.set_cons_zero, List.set_cons_succ])
                        (try clear hH2)
                        refine wpAnyH_ready (rs := [51]) (by kernel_rfl) (by simp) ?_
                        refine' AllReadyH.cons (o := ?ob64z51) ?hb64z51 ?kb64z51 AllReadyH.nil
                        case hb64z51 => (simp only [List.getElem?_toArray, List.getElem?_cons_succ, List.getElem?_cons_zero]; rfl)
                        case kb64z51 =>
                          intro K0 hK
                          go_simp
                          go_at_call 14
                          refine (GX.out _).mono ?_
                          rintro eK wq65 ⟨rfl, hX⟩
                          have hH2 : Below w1.heap.size w1 wq65 ∧ gb < wq65.heap.size ∧ wq65.cell? ⟨gb, 0, none⟩ = some (.int .u8 (IntKind.u8.wrap (K : Int))) := ⟨bl hHeld.1 hX, by have := hX.size; have := hHeld.2.1; omega, by rw [(bcell hX).1 _ _ hHeld.2.1]; exact hHeld.2.2⟩
                          clear hX hHeld
                          refine hK.out _ _ ?_ (fun hHeld => ?_)
                          · exact hH2
                          clear hK K0
                          (try simp only [Act.put, List.setIfInBounds_toArray, List.set_cons_zero, List.set_cons_succ])
                          (try clear hH2)
                          refine' wpAnyH_take (i := 52) (oi := ?ot66z52) (v := ?vt66z52) ?ht66z52 ?st66z52 ?ft66z52 ?zt66z52 ?qt66z52 ?yt66z52 ?at66z52 ?rt66z52
                          case ht66z52 => (simp only [List.getElem?_toArray, List.getElem?_cons_succ, List.getElem?_cons_zero]; rfl)
                          case st66z52 => kernel_rfl
                          case ft66z52 => kernel_rfl
                          case zt66z52 => kernel_rfl
                          case qt66z52 => exact fun _ _ _ h => h
                          case yt66z52 => (refine Or.inl ⟨rfl, ?_⟩; intro w hSw; (try dsimp only at hSw); go_simp; try with_reducible rfl)
                          case at66z52 => assumption
                          case rt66z52 =>
                          simp only [Act.put, List.setIfInBounds_toArray, List.set_cons_zero, List.set_cons_succ]
                          refine' wpAnyH_take (i := 53) (oi := ?ot67z53) (v := ?vt67z53) ?ht67z53 ?st67z53 ?ft67z53 ?zt67z53 ?qt67z53 ?yt67z53 ?at67z53 ?rt67z53
                          case ht67z53 => (simp only [List.getElem?_toArray, List.getElem?_cons_succ, List.getElem?_cons_zero]; rfl)
                          case st67z53 => kernel_rfl
                          case ft67z53 => kernel_rfl
                          case zt67z53 => kernel_rfl
                          case qt67z53 => exact fun _ _ _ h => h
                          case yt67z53 => (refine Or.inl ⟨rfl, ?_⟩; intro w hSw; (try dsimp only at hSw); go_simp; try with_reducible rfl)
                          case at67z53 => assumption
                          case rt67z53 =>
                          simp only [Act.put, List.setIfInBounds_toArray, List.set_cons_zero, List.set_cons_succ]
                          refine' wpAnyH_take (i := 54) (oi := ?ot68z54) (v := ?vt68z54) ?ht68z54 ?st68z54 ?ft68z54 ?zt68z54 ?qt68z54 ?yt68z54 ?at68z54 ?rt68z54
                          case ht68z54 => (simp only [List.getElem?_toArray, List.getElem?_cons_succ, List.getElem?_cons_zero]; rfl)
                          case st68z54 => kernel_rfl
                          case ft68z54 => kernel_rfl
                          case zt68z54 => kernel_rfl
                          case qt68z54 => exact fun _ _ _ h => h
                          case yt68z54 => (refine Or.inl ⟨rfl, ?_⟩; intro w hSw; (try dsimp only at hSw); go_simp; try with_reducible rfl)
                          case at68z54 => assumption
                          case rt68z54 =>
                          simp only [Act.put, List.setIfInBounds_toArray, List.set_cons_zero, List.set_cons_succ]
                          refine wpAnyH_done (by kernel_rfl) ?_ _
                          go_wp2_with fail
                          go_returns
                          exact ⟨rfl, bl B1.out hHeld.1⟩
              case mb34z25 =>
              refine' AllReadyH.cons (o := ?ob69z28) ?hb69z28 ?kb69z28 AllReadyH.nil
              case hb69z28 => (simp only [List.getElem?_toArray, List.getElem?_cons_succ, List.getElem?_cons_zero]; rfl)
              case kb69z28 =>
                intro K0 hK
                go_simp
                obtain ⟨gb, hgz⟩ : ∃ g, g = wq27.heap.size := ⟨_, rfl⟩
                have hH2 : Below w1.heap.size w1 (wq27.alloc (.cells #[.int .u8 (IntKind.u8.wrap (K : Int))] 5)) ∧ gb < (wq27.alloc (.cells #[.int .u8 (IntKind.u8.wrap (K : Int))] 5)).heap.size ∧ (wq27.alloc (.cells #[.int .u8 (IntKind.u8.wrap (K : Int))] 5)).cell? ⟨gb, 0, none⟩ = some (.int .u8 (IntKind.u8.wrap (K : Int))) := ⟨blA hHeld _, by rw [hgz, World.size_alloc]; omega, by rw [hgz]; exact (Blk.new _ _ _).cell 0⟩
                rw [← hgz]
                clear hgz hHeld
                generalize World.alloc wq27 _ = wq70 at *
                refine hK.out _ _ ?_ (fun hHeld => ?_)
                · exact hH2.1
                clear hK K0
                (try simp only [Act.put, List.setIfInBounds_toArray, List.set_cons_zero, List.set_cons_succ])
                refine wpAnyH_weak (S := fun W => Below w1.heap.size w1 W ∧ gb < W.heap.size ∧ W.cell? ⟨gb, 0, none⟩ = some (.int .u8 (IntKind.u8.wrap (K : Int)))) (fun _ h => h.1) _ _ _ _ ?_
                clear hHeld
                have hHeld := hH2
                clear hH2
                refine' wpAnyH_take (i := 29) (oi := ?ot72z29) (v := ?vt72z29) ?ht72z29 ?st72z29 ?ft72z29 ?zt72z29 ?qt72z29 ?yt72z29 ?at72z29 ?rt72z29
                case ht72z29 => (simp only [List.getElem?_toArray, List.getElem?_cons_succ, List.getElem?_cons_zero]; rfl)
                case st72z29 => kernel_rfl
                case ft72z29 => kernel_rfl
                case zt72z29 => kernel_rfl
                case qt72z29 => exact fun _ _ _ h => h
                case yt72z29 => (refine Or.inl ⟨rfl, ?_⟩; intro w hSw; have hcv := CV.out _ _ hSw.2.2; clear hSw; go_simp; try with_reducible rfl)
                case at72z29 => assumption
                case rt72z29 =>
                simp only [Act.put, List.setIfInBounds_toArray, List.set_cons_zero, List.set_cons_succ]
                refine' wpAnyH_take (i := 30) (oi := ?ot73z30) (v := ?vt73z30) ?ht73z30 ?st73z30 ?ft73z30 ?zt73z30 ?qt73z30 ?yt73z30 ?at73z30 ?rt73z30
                case ht73z30 => (simp only [List.getElem?_toArray, List.getElem?_cons_succ, List.getElem?_cons_zero]; rfl)
                case st73z30 => kernel_rfl
                case ft73z30 => kernel_rfl
                case zt73z30 => kernel_rfl
                case qt73z30 => exact fun _ _ _ h => h
                case yt73z30 => (refine Or.inl ⟨rfl, ?_⟩; intro w hSw; (try dsimp only at hSw); go_simp; try with_reducible rfl)
                case at73z30 => assumption
                case rt73z30 =>
                simp only [Act.put, List.setIfInBounds_toArray, List.set_cons_zero, List.set_cons_succ]
                refine wpAnyH_ready (rs := [25]) (by kernel_rfl) (by simp) ?_
                refine' AllReadyH.cons (o := ?ob74z25) ?hb74z25 ?kb74z25 AllReadyH.nil
                case hb74z25 => (simp only [List.getElem?_toArray, List.getElem?_cons_succ, List.getElem?_cons_zero]; rfl)
                case kb74z25 =>
                  intro K0 hK
                  go_simp
                  go_at_call 15
                  refine (TX.out _).mono ?_
                  rintro eK wq75 ⟨rfl, hX⟩
                  have hH2 : Below w1.heap.size w1 wq75 ∧ gb < wq75.heap.size ∧ wq75.cell? ⟨gb, 0, none⟩ = some (.int .u8 (IntKind.u8.wrap (K : Int))) := ⟨bl hHeld.1 hX, by have := hX.size; have := hHeld.2.1; omega, by rw [(bcell hX).1 _ _ hHeld.2.1]; exact hHeld.2.2⟩
                  clear hX hHeld
                  refine hK.out _ _ ?_ (fun hHeld => ?_)
                  · exact hH2
                  clear hK K0
                  (try simp only [Act.put, List.setIfInBounds_toArray, List.set_cons_zero, List.set_cons_succ])
                  (try clear hH2)
                  refine' wpAnyH_take (i := 31) (oi := ?ot76z31) (v := ?vt76z31) ?ht76z31 ?st76z31 ?ft76z31 ?zt76z31 ?qt76z31 ?yt76z31 ?at76z31 ?rt76z31
                  case ht76z31 => (simp only [List.getElem?_toArray, List.getElem?_cons_succ, List.getElem?_cons_zero]; rfl)
                  case st76z31 => kernel_rfl
                  case ft76z31 => kernel_rfl
                  case zt76z31 => kernel_rfl
                  case qt76z31 => exact fun _ _ _ h => h
                  case yt76z31 => (refine Or.inl ⟨rfl, ?_⟩; intro w hSw; (try dsimp only at hSw); go_simp; try with_reducible rfl)
                  case at76z31 => assumption
                  case rt76z31 =>
                  simp only [Act.put, List.setIfInBounds_toArray, List.set_cons_zero, List.set_cons_succ]
                  refine' wpAnyH_take (i := 32) (oi := ?ot77z32) (v := ?vt77z32) ?ht77z32 ?st77z32 ?ft77z32 ?zt77z32 ?qt77z32 ?yt77z32 ?at77z32 ?rt77z32
                  case ht77z32 => (simp only [List.getElem?_toArray, List.getElem?_cons_succ, List.getElem?_cons_zero]; rfl)
                  case st77z32 => kernel_rfl
                  case ft77z32 => kernel_rfl
                  case zt77z32 => kernel_rfl
                  case qt77z32 => exact fun _ _ _ h => h
                  case yt77z32 => (refine Or.inl ⟨rfl, ?_⟩; intro w hSw; (try dsimp only at hSw); go_simp; try with_reducible rfl)
                  case at77z32 => assumption
                  case rt77z32 =>
                  simp only [Act.put, List.setIfInBounds_toArray, List.set_cons_zero, List.set_cons_succ]
                  refine' wpAnyH_take (i := 33) (oi := ?ot78z33) (v := ?vt78z33) ?ht78z33 ?st78z33 ?ft78z33 ?zt78z33 ?qt78z33 ?yt78z33 ?at78z33 ?rt78z33
                  case ht78z33 => (simp only [List.getElem?_toArray, List.getElem?_cons_succ, List.getElem?_cons_zero]; rfl)
                  case st78z33 => kernel_rfl
                  case ft78z33 => kernel_rfl
                  case zt78z33 => kernel_rfl
                  case qt78z33 => exact fun _ _ _ h => h
                  case yt78z33 => (refine Or.inl ⟨rfl, ?_⟩; intro w hSw; (try dsimp only at hSw); go_simp; try with_reducible rfl)
                  case at78z33 => assumption
                  case rt78z33 =>
                  simp only [Act.put, List.setIfInBounds_toArray, List.set_cons_zero, List.set_cons_succ]
                  refine' wpAnyH_take (i := 34) (oi := ?ot79z34) (v := ?vt79z34) ?ht79z34 ?st79z34 ?ft79z34 ?zt79z34 ?qt79z34 ?yt79z34 ?at79z34 ?rt79z34
                  case ht79z34 => (simp only [List.getElem?_toArray, List.getElem?_cons_succ, List.getElem?_cons_zero]; rfl)
                  case st79z34 => kernel_rfl
                  case ft79z34 => kernel_rfl
                  case zt79z34 => kernel_rfl
                  case qt79z34 => exact fun _ _ _ h => h
                  case yt79z34 => (refine Or.inl ⟨rfl, ?_⟩; intro w hSw; (try dsimp only at hSw); go_simp; try with_reducible rfl)
                  case at79z34 => assumption
                  case rt79z34 =>
                  simp only [Act.put, List.setIfInBounds_toArray, List.set_cons_zero, List.set_cons_succ]
                  refine' wpAnyH_take (i := 35) (oi := ?ot80z35) (v := ?vt80z35) ?ht80z35 ?st80z35 ?ft80z35 ?zt80z35 ?qt80z35 ?yt80z35 ?at80z35 ?rt80z35
                  case ht80z35 => (simp only [List.getElem?_toArray, List.getElem?_cons_succ, List.getElem?_cons_zero]; rfl)
                  case st80z35 => kernel_rfl
                  case ft80z35 => kernel_rfl
                  case zt80z35 => kernel_rfl
                  case qt80z35 => exact fun _ _ _ h => h
                  case yt80z35 => (refine Or.inl ⟨rfl, ?_⟩; intro w hSw; (try dsimp only at hSw); go_simp; try with_reducible rfl)
                  case at80z35 => assumption
                  case rt80z35 =>
                  simp only [Act.put, List.setIfInBounds_toArray, List.set_cons_zero, List.set_cons_succ]
                  refine' wpAnyH_take (i := 37) (oi := ?ot81z37) (v := ?vt81z37) ?ht81z37 ?st81z37 ?ft81z37 ?zt81z37 ?qt81z37 ?yt81z37 ?at81z37 ?rt81z37
                  case ht81z37 => (simp only [List.getElem?_toArray, List.getElem?_cons_succ, List.getElem?_cons_zero]; rfl)
                  case st81z37 => kernel_rfl
                  case ft81z37 => kernel_rfl
                  case zt81z37 => kernel_rfl
                  case qt81z37 => exact fun _ _ _ h => h
                  case yt81z37 => (refine Or.inl ⟨rfl, ?_⟩; intro w hSw; (try dsimp only at hSw); go_simp; try with_reducible rfl)
                  case at81z37 => assumption
                  case rt81z37 =>
                  simp only [Act.put, List.setIfInBounds_toArray, List.set_cons_zero, List.set_cons_succ]
                  refine' wpAnyH_take (i := 41) (oi := ?ot82z41) (v := ?vt82z41) ?ht82z41 ?st82z41 ?ft82z41 ?zt82z41 ?qt82z41 ?yt82z41 ?at82z41 ?rt82z41
                  case ht82z41 => (simp only [List.getElem?_toArray, List.getElem?_cons_succ, List.getElem?_cons_zero]; rfl)
                  case st82z41 => kernel_rfl
                  case ft82z41 => kernel_rfl
                  case zt82z41 => kernel_rfl
                  case qt82z41 => exact fun _ _ _ h => h
                  case yt82z41 => (refine Or.inl ⟨rfl, ?_⟩; intro w hSw; (try dsimp only at hSw); go_simp; try with_reducible rfl)
                  case at82z41 => assumption
                  case rt82z41 =>
                  simp only [Act.put, List.setIfInBounds_toArray, List.set_cons_zero, List.set_cons_succ]
                  refine wpAnyH_ready (rs := [36]) (by kernel_rfl) (by simp) ?_
                  refine' AllReadyH.cons (o := ?ob83z36) ?hb83z36 ?kb83z36 AllReadyH.nil
                  case hb83z36 => (simp only [List.getElem?_toArray, List.getElem?_cons_succ, List.getElem?_cons_zero]; rfl)
                  case kb83z36 =>
                    intro K0 hK
                    go_simp
                    go_at_call 13
                    refine (KX.out _).mono ?_
                    rintro eK wq84 ⟨rfl, hX⟩
                    have hH2 : Below w1.heap.size w1 wq84 ∧ gb < wq84.heap.size ∧ wq84.cell? ⟨gb, 0, none⟩ = some (.int .u8 (IntKind.u8.wrap (K : Int))) := ⟨bl hHeld.1 hX, by have := hX.size; have := hHeld.2.1; omega, by rw [(bcell hX).1 _ _ hHeld.2.1]; exact hHeld.2.2⟩
                    clear hX hHeld
                    refine hK.out _ _ ?_ (fun hHeld => ?_)
                    · exact hH2
                    clear hK K0
                    (try simp only [Act.put, List.setIfInBounds_toArray, List.set_cons_zero, List.set_cons_succ])
                    (try clear hH2)
                    refine wpAnyH_ready (rs := [38]) (by kernel_rfl) (by simp) ?_
                    refine' AllReadyH.cons (o := ?ob85z38) ?hb85z38 ?kb85z38 AllReadyH.nil
                    case hb85z38 => (simp only [List.getElem?_toArray, List.getElem?_cons_succ, List.getElem?_cons_zero]; rfl)
                    case kb85z38 =>
                      intro K0 hK
                      go_simp
                      go_at_call 15
                      refine (TX.out _).mono ?_
                      rintro eK wq86 ⟨rfl, hX⟩
                      have hH2 : Below w1.heap.size w1 wq86 ∧ gb < wq86.heap.size ∧ wq86.cell? ⟨gb, 0, none⟩ = some (.int .u8 (IntKind.u8.wrap (K : Int))) := ⟨bl hHeld.1 hX, by have := hX.size; have := hHeld.2.1; omega, by rw [(bcell hX).1 _ _ hHeld.2.1]; exact hHeld.2.2⟩
                      clear hX hHeld
                      refine hK.out _ _ ?_ (fun hHeld => ?_)
                      · exact hH2
                      clear hK K0
                      (try simp only [Act.put, List.setIfInBounds_toArray, List.set_cons_zero, List.set_cons_succ])
                      (try clear hH2)
                      refine' wpAnyH_take (i := 39) (oi := ?ot87z39) (v := ?vt87z39) ?ht87z39 ?st87z39 ?ft87z39 ?zt87z39 ?qt87z39 ?yt87z39 ?at87z39 ?rt87z39
                      case ht87z39 => (simp only [List.getElem?_toArray, List.getElem?_cons_succ, List.getElem?_cons_zero]; rfl)
                      case st87z39 => kernel_rfl
                      case ft87z39 => kernel_rfl
                      case zt87z39 => kernel_rfl
                      case qt87z39 => exact fun _ _ _ h => h
                      case yt87z39 => (refine Or.inl ⟨rfl, ?_⟩; intro w hSw; clear hSw; have hsl := HSL.out w; go_simp; try with_reducible rfl)
                      case at87z39 => assumption
                      case rt87z39 =>
                      simp only [Act.put, List.setIfInBounds_toArray, List.set_cons_zero, List.set_cons_succ]
                      refine' wpAnyH_take (i := 40) (oi := ?ot88z40) (v := ?vt88z40) ?ht88z40 ?st88z40 ?ft88z40 ?zt88z40 ?qt88z40 ?yt88z40 ?at88z40 ?rt88z40
                      case ht88z40 => (simp only [List.getElem?_toArray, List.getElem?_cons_succ, List.getElem?_cons_zero]; rfl)
                      case st88z40 => kernel_rfl
                      case ft88z40 => kernel_rfl
                      case zt88z40 => kernel_rfl
                      case qt88z40 => exact fun _ _ _ h => h
                      case yt88z40 => (refine Or.inl ⟨rfl, ?_⟩; intro w hSw; (try dsimp only at hSw); go_simp; try with_reducible rfl)
                      case at88z40 => assumption
                      case rt88z40 =>
                      simp only [Act.put, List.setIfInBounds_toArray, List.set_cons_zero, List.set_cons_succ]
                      refine' wpAnyH_take (i := 42) (oi := ?ot89z42) (v := ?vt89z42) ?ht89z42 ?st89z42 ?ft89z42 ?zt89z42 ?qt89z42 ?yt89z42 ?at89z42 ?rt89z42
                      case ht89z42 => (simp only [List.getElem?_toArray, List.getElem?_cons_succ, List.getElem?_cons_zero]; rfl)
                      case st89z42 => kernel_rfl
                      case ft89z42 => kernel_rfl
                      case zt89z42 => kernel_rfl
                      case qt89z42 => exact fun _ _ _ h => h
                      case yt89z42 => (refine Or.inl ⟨rfl, ?_⟩; intro w hSw; (try dsimp only at hSw); go_simp; try with_reducible rfl)
                      case at89z42 => assumption
                      case rt89z42 =>
                      simp only [Act.put, List.setIfInBounds_toArray, List.set_cons_zero, List.set_cons_succ]
                      refine' wpAnyH_take (i := 43) (oi := ?ot90z43) (v := ?vt90z43) ?ht90z43 ?st90z43 ?ft90z43 ?zt90z43 ?qt90z43 ?yt90z43 ?at90z43 ?rt90z43
                      case ht90z43 => (simp only [List.getElem?_toArray, List.getElem?_cons_succ, List.getElem?_cons_zero]; rfl)
                      case st90z43 => kernel_rfl
                      case ft90z43 => kernel_rfl
                      case zt90z43 => kernel_rfl
                      case qt90z43 => exact fun _ _ _ h => h
                      case yt90z43 => (refine Or.inl ⟨rfl, ?_⟩; intro w hSw; (try dsimp only at hSw); go_simp; try with_reducible rfl)
                      case at90z43 => assumption
                      case rt90z43 =>
                      simp only [Act.put, List.setIfInBounds_toArray, List.set_cons_zero, List.set_cons_succ]
                      refine' wpAnyH_take (i := 44) (oi := ?ot91z44) (v := ?vt91z44) ?ht91z44 ?st91z44 ?ft91z44 ?zt91z44 ?qt91z44 ?yt91z44 ?at91z44 ?rt91z44
                      case ht91z44 => (simp only [List.getElem?_toArray, List.getElem?_cons_succ, List.getElem?_cons_zero]; rfl)
                      case st91z44 => kernel_rfl
                      case ft91z44 => kernel_rfl
                      case zt91z44 => kernel_rfl
                      case qt91z44 => exact fun _ _ _ h => h
                      case yt91z44 => (refine Or.inl ⟨rfl, ?_⟩; intro w hSw; (try dsimp only at hSw); go_simp; try with_reducible rfl)
                      case at91z44 => assumption
                      case rt91z44 =>
                      simp only [Act.put, List.setIfInBounds_toArray, List.set_cons_zero, List.set_cons_succ]
                      refine' wpAnyH_take (i := 45) (oi := ?ot92z45) (v := ?vt92z45) ?ht92z45 ?st92z45 ?ft92z45 ?zt92z45 ?qt92z45 ?yt92z45 ?at92z45 ?rt92z45
                      case ht92z45 => (simp only [List.getElem?_toArray, List.getElem?_cons_succ, List.getElem?_cons_zero]; rfl)
                      case st92z45 => kernel_rfl
                      case ft92z45 => kernel_rfl
                      case zt92z45 => kernel_rfl
                      case qt92z45 => exact fun _ _ _ h => h
                      case yt92z45 => (refine Or.inl ⟨rfl, ?_⟩; intro w hSw; (try dsimp only at hSw); go_simp; try with_reducible rfl)
                      case at92z45 => assumption
                      case rt92z45 =>
                      simp only [Act.put, List.setIfInBounds_toArray, List.set_cons_zero, List.set_cons_succ]
                      refine' wpAnyH_take (i := 46) (oi := ?ot93z46) (v := ?vt93z46) ?ht93z46 ?st93z46 ?ft93z46 ?zt93z46 ?qt93z46 ?yt93z46 ?at93z46 ?rt93z46
                      case ht93z46 => (simp only [List.getElem?_toArray, List.getElem?_cons_succ, List.getElem?_cons_zero]; rfl)
                      case st93z46 => kernel_rfl
                      case ft93z46 => kernel_rfl
                      case zt93z46 => kernel_rfl
                      case qt93z46 => exact fun _ _ _ h => h
                      case yt93z46 => (refine Or.inl ⟨rfl, ?_⟩; intro w hSw; (try dsimp only at hSw); go_simp; try with_reducible rfl)
                      case at93z46 => assumption
                      case rt93z46 =>
                      simp only [Act.put, List.setIfInBounds_toArray, List.set_cons_zero, List.set_cons_succ]
                      refine' wpAnyH_take (i := 47) (oi := ?ot94z47) (v := ?vt94z47) ?ht94z47 ?st94z47 ?ft94z47 ?zt94z47 ?qt94z47 ?yt94z47 ?at94z47 ?rt94z47
                      case ht94z47 => (simp only [List.getElem?_toArray, List.getElem?_cons_succ, List.getElem?_cons_zero]; rfl)
                      case st94z47 => kernel_rfl
                      case ft94z47 => kernel_rfl
                      case zt94z47 => kernel_rfl
                      case qt94z47 => exact fun _ _ _ h => h
                      case yt94z47 => (refine Or.inl ⟨rfl, ?_⟩; intro w hSw; (try dsimp only at hSw); go_simp; try with_reducible rfl)
                      case at94z47 => assumption
                      case rt94z47 =>
                      simp only [Act.put, List.setIfInBounds_toArray, List.set_cons_zero, List.set_cons_succ]
                      refine' wpAnyH_take (i := 49) (oi := ?ot95z49) (v := ?vt95z49) ?ht95z49 ?st95z49 ?ft95z49 ?zt95z49 ?qt95z49 ?yt95z49 ?at95z49 ?rt95z49
                      case ht95z49 => (simp only [List.getElem?_toArray, List.getElem?_cons_succ, List.getElem?_cons_zero]; rfl)
                      case st95z49 => kernel_rfl
                      case ft95z49 => kernel_rfl
                      case zt95z49 => kernel_rfl
                      case qt95z49 => exact fun _ _ _ h => h
                      case yt95z49 => (refine Or.inl ⟨rfl, ?_⟩; intro w hSw; (try dsimp only at hSw); go_simp; try with_reducible rfl)
                      case at95z49 => assumption
                      case rt95z49 =>
                      simp only [Act.put, List.setIfInBounds_toArray, List.set_cons_zero, List.set_cons_succ]
                      refine' wpAnyH_take (i := 50) (oi := ?ot96z50) (v := ?vt96z50) ?ht96z50 ?st96z50 ?ft96z50 ?zt96z50 ?qt96z50 ?yt96z50 ?at96z50 ?rt96z50
                      case ht96z50 => (simp only [List.getElem?_toArray, List.getElem?_cons_succ, List.getElem?_cons_zero]; rfl)
                      case st96z50 => kernel_rfl
                      case ft96z50 => kernel_rfl
                      case zt96z50 => kernel_rfl
                      case qt96z50 => exact fun _ _ _ h => h
                      case yt96z50 => (refine Or.inl ⟨rfl, ?_⟩; intro w hSw; (try dsimp only at hSw); go_simp; try with_reducible rfl)
                      case at96z50 => assumption
                      case rt96z50 =>
                      simp only [Act.put, List.setIfInBounds_toArray, List.set_cons_zero, List.set_cons_succ]
                      refine wpAnyH_ready (rs := [48]) (by kernel_rfl) (by simp) ?_
                      refine' AllReadyH.cons (o := ?ob97z48) ?hb97z48 ?kb97z48 AllReadyH.nil
                      case hb97z48 => (simp only [List.getElem?_toArray, List.getElem?_cons_succ, List.getElem?_cons_zero]; rfl)
                      case kb97z48 =>
                        intro K0 hK
                        go_simp
                        go_at_call 14
                        refine (GT.out _).mono ?_
                        rintro eK wq98 ⟨rfl, hX⟩
                        have hH2 : Below w1.heap.size w1 wq98 ∧ gb < wq98.heap.size ∧ wq98.cell? ⟨gb, 0, none⟩ = some (.int .u8 (IntKind.u8.wrap (K : Int))) := ⟨bl hHeld.1 hX, by have := hX.size; have := hHeld.2.1; omega, by rw [(bcell hX).1 _ _ hHeld.2.1]; exact hHeld.2.2⟩
                        clear hX hHeld
                        refine hK.out _ _ ?_ (fun hHeld => ?_)
                        · exact hH2
                        clear hK K0
                        (try simp only [Act.put, List.setIfInBounds_toArray, List.set_cons_zero, List.set_cons_succ])
                        (try clear hH2)
                        refine wpAnyH_ready (rs := [51]) (by kernel_rfl) (by simp) ?_
                        refine' AllReadyH.cons (o := ?ob99z51) ?hb99z51 ?kb99z51 AllReadyH.nil
                        case hb99z51 => (simp only [List.getElem?_toArray, List.getElem?_cons_succ, List.getElem?_cons_zero]; rfl)
                        case kb99z51 =>
                          intro K0 hK
                          go_simp
                          go_at_call 14
                          refine (GX.out _).mono ?_
                          rintro eK wq100 ⟨rfl, hX⟩
                          have hH2 : Below w1.heap.size w1 wq100 ∧ gb < wq100.heap.size ∧ wq100.cell? ⟨gb, 0, none⟩ = some (.int .u8 (IntKind.u8.wrap (K : Int))) := ⟨bl hHeld.1 hX, by have := hX.size; have := hHeld.2.1; omega, by rw [(bcell hX).1 _ _ hHeld.2.1]; exact hHeld.2.2⟩
                          clear hX hHeld
                          refine hK.out _ _ ?_ (fun hHeld => ?_)
                          · exact hH2
                          clear hK K0
                          (try simp only [Act.put, List.setIfInBounds_toArray, List.set_cons_zero, List.set_cons_succ])
                          (try clear hH2)
                          refine' wpAnyH_take (i := 52) (oi := ?ot101z52) (v := ?vt101z52) ?ht101z52 ?st101z52 ?ft101z52 ?zt101z52 ?qt101z52 ?yt101z52 ?at101z52 ?rt101z52
                          case ht101z52 => (simp only [List.getElem?_toArray, List.getElem?_cons_succ, List.getElem?_cons_zero]; rfl)
                          case st101z52 => kernel_rfl
                          case ft101z52 => kernel_rfl
                          case zt101z52 => kernel_rfl
                          case qt101z52 => exact fun _ _ _ h => h
                          case yt101z52 => (refine Or.inl ⟨rfl, ?_⟩; intro w hSw; (try dsimp only at hSw); go_simp; try with_reducible rfl)
                          case at101z52 => assumption
                          case rt101z52 =>
                          simp only [Act.put, List.setIfInBounds_toArray, List.set_cons_zero, List.set_cons_succ]
                          refine' wpAnyH_take (i := 53) (oi := ?ot102z53) (v := ?vt102z53) ?ht102z53 ?st102z53 ?ft102z53 ?zt102z53 ?qt102z53 ?yt102z53 ?at102z53 ?rt102z53
                          case ht102z53 => (simp only [List.getElem?_toArray, List.getElem?_cons_succ, List.getElem?_cons_zero]; rfl)
                          case st102z53 => kernel_rfl
                          case ft102z53 => kernel_rfl
                          case zt102z53 => kernel_rfl
                          case qt102z53 => exact fun _ _ _ h => h
                          case yt102z53 => (refine Or.inl ⟨rfl, ?_⟩; intro w hSw; (try dsimp only at hSw); go_simp; try with_reducible rfl)
                          case at102z53 => assumption
                          case rt102z53 =>
                          simp only [Act.put, List.setIfInBounds_toArray, List.set_cons_zero, List.set_cons_succ]
                          refine' wpAnyH_take (i := 54) (oi := ?ot103z54) (v := ?vt103z54) ?ht103z54 ?st103z54 ?ft103z54 ?zt103z54 ?qt103z54 ?yt103z54 ?at103z54 ?rt103z54
                          case ht103z54 => (simp only [List.getElem?_toArray, List.getElem?_cons_succ, List.getElem?_cons_zero]; rfl)
                          case st103z54 => kernel_rfl
                          case ft103z54 => kernel_rfl
                          case zt103z54 => kernel_rfl
                          case qt103z54 => exact fun _ _ _ h => h
                          case yt103z54 => (refine Or.inl ⟨rfl, ?_⟩; intro w hSw; (try dsimp only at hSw); go_simp; try with_reducible rfl)
                          case at103z54 => assumption
                          case rt103z54 =>
                          simp only [Act.put, List.setIfInBounds_toArray, List.set_cons_zero, List.set_cons_succ]
                          refine wpAnyH_done (by kernel_rfl) ?_ _
                          go_wp2_with fail
                          go_returns
                          exact ⟨rfl, bl B1.out hHeld.1⟩

set_option maxRecDepth 100000 in
set_option maxHeartbeats 16000000 in
theorem names_tf (t o : Int) (a b : ByteArray) (K M : Nat) (hK : wrap64 ((IntKind.u64.wrap t).tmod 256) = (K : Int)) (hM : wrap64 ((IntKind.u64.wrap o).tmod 256) = (M : Int)) (ha : ¬ 60 < (a.size : Int)) (hb : ¬ 60 < (b.size : Int)) (kx ky gx gy gt tx ty : ByteArray) (sk : UInt8) (w : World) (ht : Tabs w)
    (KX : Hid (∀ W, Calls Tryd.prog 13 #[.int .i64 (K : Int), .string a] W fun e w' => e = .returned (.string kx) ∧ Below W.heap.size W w'))
    (KY : Hid (∀ W, Calls Tryd.prog 13 #[.int .i64 (M : Int), .string b] W fun e w' => e = .returned (.string ky) ∧ Below W.heap.size W w'))
    (GX : Hid (∀ W, Calls Tryd.prog 14 #[.int .i64 (K : Int), .string a] W fun e w' => e = .returned (.string gx) ∧ Below W.heap.size W w'))
    (GY : Hid (∀ W, Calls Tryd.prog 14 #[.int .i64 (M : Int), .string b] W fun e w' => e = .returned (.string gy) ∧ Below W.heap.size W w'))
    (GT : Hid (∀ W, Calls Tryd.prog 14 #[.int .i64 t, .string a] W fun e w' => e = .returned (.string gt) ∧ Below W.heap.size W w'))
    (TX : Hid (∀ W, Calls Tryd.prog 15 #[.int .i64 (K : Int)] W fun e w' => e = .returned (.string tx) ∧ Below W.heap.size W w'))
    (TY : Hid (∀ W, Calls Tryd.prog 15 #[.int .i64 (M : Int)] W fun e w' => e = .returned (.string ty) ∧ Below W.heap.size W w'))
    (CV : Hid (∀ W g, W.cell? ⟨g, 0, none⟩ = some (.int .u8 (IntKind.u8.wrap (K : Int))) → (convert 37 9 (.slice (some ⟨g, 0, none⟩) 1 1)).run Tryd.prog W = .ok (.string (ofL [sk])) W))
    (HSL : Hid (∀ W, (Instr.slice 9 (.string tx) (some (.int .i64 1)) none none).run Tryd.prog W = .ok (.string (ofL [sk])) W))
    (exy : ((K : Int) == (M : Int)) = true) (eab : (a.toList == b.toList) = false)
    (e1 : (kx.toList == ky.toList) = false) (e2 : (gx.toList == gy.toList) = false) (e3 : (tx.toList == ty.toList) = true)
    (e4 : (kx.toList == gy.toList) = false) (e5 : (kx.toList == ty.toList) = false) (e6 : (gx.toList == ty.toList) = false)
    (e7 : (tx.toList == (⟨#[116]⟩ ++ ofL [sk] : ByteArray).toList) = true) (e8 : (kx.toList == (⟨#[107]⟩ ++ ofL [sk] ++ a : ByteArray).toList) = true) (e9 : (gt.toList == gx.toList) = true) (hsk : (ofL [sk]).size = 1)
    (hsz : ¬ 9223372036854775807 < 2 + a.size) :
    Calls Tryd.prog 5 #[.int .i64 t, .int .i64 o, .string a, .string b] w fun e w' => e = .returned (.bool true) ∧ Below w.heap.size w w' := by
  have HA := Lib.hid (awake_any w ht)
  clear ht
  go_enter Tryd.func5, Tryd.ntmps5
  go_wp2_with fail
  refine HA.out.mono ?_
  rintro e wa ⟨rfl, hX⟩
  have Ba := Lib.hid hX
  clear hX HA
  go_wp2_with fail
  refine (KX.out _).mono ?_
  rintro e wb ⟨rfl, hX⟩
  have Bb := Lib.hid (bl Ba.out hX)
  clear hX Ba
  go_wp2_with fail
  refine (KY.out _).mono ?_
  rintro e wc ⟨rfl, hX⟩
  have Bc := Lib.hid (bl Bb.out hX)
  clear hX Bb
  go_wp2_with fail
  refine (GX.out _).mono ?_
  rintro e wd ⟨rfl, hX⟩
  have Bd := Lib.hid (bl Bc.out hX)
  clear hX Bc
  go_wp2_with fail
  refine (GY.out _).mono ?_
  rintro e we ⟨rfl, hX⟩
  have Be := Lib.hid (bl Bd.out hX)
  clear hX Bd
  go_wp2_with fail
  refine (TX.out _).mono ?_
  rintro e wf ⟨rfl, hX⟩
  have Bf := Lib.hid (bl Be.out hX)
  clear hX Be
  go_wp2_with fail
  refine (TY.out _).mono ?_
  rintro e w1 ⟨rfl, hX⟩
  have B1 := Lib.hid (bl Bf.out hX)
  clear hX Bf
  go_wp2_with fail
  refine wp_region_held_drew (S := fun W' : World => Below w1.heap.size w1 W') (by kernel_rfl) (by first | exact Below.refl _ _ | exact ⟨rfl, rfl, rfl, Nat.le_refl _, fun _ _ => rfl⟩) (fun hHeld => ?_)
  generalize w1.drew = wd at *
  refine' wpAnyH_take (i := 0) (oi := ?ot1z0) (v := ?vt1z0) ?ht1z0 ?st1z0 ?ft1z0 ?zt1z0 ?qt1z0 ?yt1z0 ?at1z0 ?rt1z0
  case ht1z0 => (simp only [List.getElem?_toArray, List.getElem?_cons_succ, List.getElem?_cons_zero]; rfl)
  case st1z0 => kernel_rfl
  case ft1z0 => kernel_rfl
  case zt1z0 => kernel_rfl
  case qt1z0 => exact fun _ _ _ h => h
  case yt1z0 => (refine Or.inl ⟨rfl, ?_⟩; intro w hSw; (try dsimp only at hSw); go_simp; try with_reducible rfl)
  case at1z0 => assumption
  case rt1z0 =>
  simp only [Act.put, List.setIfInBounds_toArray, List.set_cons_zero, List.set_cons_succ]
  refine' wpAnyH_take (i := 1) (oi := ?ot2z1) (v := ?vt2z1) ?ht2z1 ?st2z1 ?ft2z1 ?zt2z1 ?qt2z1 ?yt2z1 ?at2z1 ?rt2z1
  case ht2z1 => (simp only [List.getElem?_toArray, List.getElem?_cons_succ, List.getElem?_cons_zero]; rfl)
  case st2z1 => kernel_rfl
  case ft2z1 => kernel_rfl
  case zt2z1 => kernel_rfl
  case qt2z1 => exact fun _ _ _ h => h
  case yt2z1 => (refine Or.inl ⟨rfl, ?_⟩; intro w hSw; (try dsimp only at hSw); go_simp; try with_reducible rfl)
  case at2z1 => assumption
  case rt2z1 =>
  simp only [Act.put, List.setIfInBounds_toArray, List.set_cons_zero, List.set_cons_succ]
  refine' wpAnyH_take (i := 3) (oi := ?ot3z3) (v := ?vt3z3) ?ht3z3 ?st3z3 ?ft3z3 ?zt3z3 ?qt3z3 ?yt3z3 ?at3z3 ?rt3z3
  case ht3z3 => (simp only [List.getElem?_toArray, List.getElem?_cons_succ, List.getElem?_cons_zero]; rfl)
  case st3z3 => kernel_rfl
  case ft3z3 => kernel_rfl
  case zt3z3 => kernel_rfl
  case qt3z3 => exact fun _ _ _ h => h
  case yt3z3 => (refine Or.inl ⟨rfl, ?_⟩; intro w hSw; (try dsimp only at hSw); go_simp; try with_reducible rfl)
  case at3z3 => assumption
  case rt3z3 =>
  simp only [Act.put, List.setIfInBounds_toArray, List.set_cons_zero, List.set_cons_succ]
  refine' wpAnyH_take (i := 4) (oi := ?ot4z4) (v := ?vt4z4) ?ht4z4 ?st4z4 ?ft4z4 ?zt4z4 ?qt4z4 ?yt4z4 ?at4z4 ?rt4z4
  case ht4z4 => (simp only [List.getElem?_toArray, List.getElem?_cons_succ, List.getElem?_cons_zero]; rfl)
  case st4z4 => kernel_rfl
  case ft4z4 => kernel_rfl
  case zt4z4 => kernel_rfl
  case qt4z4 => exact fun _ _ _ h => h
  case yt4z4 => (refine Or.inl ⟨rfl, ?_⟩; intro w hSw; (try dsimp only at hSw); go_simp; try with_reducible rfl)
  case at4z4 => assumption
  case rt4z4 =>
  simp only [Act.put, List.setIfInBounds_toArray, List.set_cons_zero, List.set_cons_succ]
  refine wpAnyH_ready (rs := [2]) (by kernel_rfl) (by simp) ?_
  refine' AllReadyH.cons (o := ?ob5z2) ?hb5z2 ?kb5z2 AllReadyH.nil
  case hb5z2 => (simp only [List.getElem?_toArray, List.getElem?_cons_succ, List.getElem?_cons_zero]; rfl)
  case kb5z2 =>
    intro K0 hK
    go_simp
    go_at_call 13
    refine (KX.out _).mono ?_
    rintro eK wq6 ⟨rfl, hX⟩
    have hH2 := bl hHeld hX
    clear hX hHeld
    refine hK.out _ _ ?_ (fun hHeld => ?_)
    · exact hH2
    clear hK K0
    (try simp only [Act.put, List.setIfInBounds_toArray, List.set_cons_zero, List.set_cons_succ])
    (try clear hH2)
    refine wpAnyH_ready (rs := [5]) (by kernel_rfl) (by simp) ?_
    refine' AllReadyH.cons (o := ?ob7z5) ?hb7z5 ?kb7z5 AllReadyH.nil
    case hb7z5 => (simp only [List.getElem?_toArray, List.getElem?_cons_succ, List.getElem?_cons_zero]; rfl)
    case kb7z5 =>
      intro K0 hK
      go_simp
      go_at_call 14
      refine (GY.out _).mono ?_
      rintro eK wq8 ⟨rfl, hX⟩
      have hH2 := bl hHeld hX
      clear hX hHeld
      refine hK.out _ _ ?_ (fun hHeld => ?_)
      · exact hH2
      clear hK K0
      (try simp only [Act.put, List.setIfInBounds_toArray, List.set_cons_zero, List.set_cons_succ])
      (try clear hH2)
      refine' wpAnyH_take (i := 6) (oi := ?ot9z6) (v := ?vt9z6) ?ht9z6 ?st9z6 ?ft9z6 ?zt9z6 ?qt9z6 ?yt9z6 ?at9z6 ?rt9z6
      case ht9z6 => (simp only [List.getElem?_toArray, List.getElem?_cons_succ, List.getElem?_cons_zero]; rfl)
      case st9z6 => kernel_rfl
      case ft9z6 => kernel_rfl
      case zt9z6 => kernel_rfl
      case qt9z6 => exact fun _ _ _ h => h
      case yt9z6 => (refine Or.inl ⟨rfl, ?_⟩; intro w hSw; (try dsimp only at hSw); go_simp; try with_reducible rfl)
      case at9z6 => assumption
      case rt9z6 =>
      simp only [Act.put, List.setIfInBounds_toArray, List.set_cons_zero, List.set_cons_succ]
      refine' wpAnyH_take (i := 7) (oi := ?ot10z7) (v := ?vt10z7) ?ht10z7 ?st10z7 ?ft10z7 ?zt10z7 ?qt10z7 ?yt10z7 ?at10z7 ?rt10z7
      case ht10z7 => (simp only [List.getElem?_toArray, List.getElem?_cons_succ, List.getElem?_cons_zero]; rfl)
      case st10z7 => kernel_rfl
      case ft10z7 => kernel_rfl
      case zt10z7 => kernel_rfl
      case qt10z7 => exact fun _ _ _ h => h
      case yt10z7 => (refine Or.inl ⟨rfl, ?_⟩; intro w hSw; (try dsimp only at hSw); go_simp; try with_reducible rfl)
      case at10z7 => assumption
      case rt10z7 =>
      simp only [Act.put, List.setIfInBounds_toArray, List.set_cons_zero, List.set_cons_succ]
      refine' wpAnyH_take (i := 8) (oi := ?ot11z8) (v := ?vt11z8) ?ht11z8 ?st11z8 ?ft11z8 ?zt11z8 ?qt11z8 ?yt11z8 ?at11z8 ?rt11z8
      case ht11z8 => (simp only [List.getElem?_toArray, List.getElem?_cons_succ, List.getElem?_cons_zero]; rfl)
      case st11z8 => kernel_rfl
      case ft11z8 => kernel_rfl
      case zt11z8 => kernel_rfl
      case qt11z8 => exact fun _ _ _ h => h
      case yt11z8 => (refine Or.inl ⟨rfl, ?_⟩; intro w hSw; (try dsimp only at hSw); go_simp; try with_reducible rfl)
      case at11z8 => assumption
      case rt11z8 =>
      simp only [Act.put, List.setIfInBounds_toArray, List.set_cons_zero, List.set_cons_succ]
      refine' wpAnyH_take (i := 9) (oi := ?ot12z9) (v := ?vt12z9) ?ht12z9 ?st12z9 ?ft12z9 ?zt12z9 ?qt12z9 ?yt12z9 ?at12z9 ?rt12z9
      case ht12z9 => (simp only [List.getElem?_toArray, List.getElem?_cons_succ, List.getElem?_cons_zero]; rfl)
      case st12z9 => kernel_rfl
      case ft12z9 => kernel_rfl
      case zt12z9 => kernel_rfl
      case qt12z9 => exact fun _ _ _ h => h
      case yt12z9 => (refine Or.inl ⟨rfl, ?_⟩; intro w hSw; (try dsimp only at hSw); go_simp; try with_reducible rfl)
      case at12z9 => assumption
      case rt12z9 =>
      simp only [Act.put, List.setIfInBounds_toArray, List.set_cons_zero, List.set_cons_succ]
      refine' wpAnyH_take (i := 11) (oi := ?ot13z11) (v := ?vt13z11) ?ht13z11 ?st13z11 ?ft13z11 ?zt13z11 ?qt13z11 ?yt13z11 ?at13z11 ?rt13z11
      case ht13z11 => (simp only [List.getElem?_toArray, List.getElem?_cons_succ, List.getElem?_cons_zero]; rfl)
      case st13z11 => kernel_rfl
      case ft13z11 => kernel_rfl
      case zt13z11 => kernel_rfl
      case qt13z11 => exact fun _ _ _ h => h
      case yt13z11 => (refine Or.inl ⟨rfl, ?_⟩; intro w hSw; (try dsimp only at hSw); go_simp; try with_reducible rfl)
      case at13z11 => assumption
      case rt13z11 =>
      simp only [Act.put, List.setIfInBounds_toArray, List.set_cons_zero, List.set_cons_succ]
      refine wpAnyH_ready (rs := [10]) (by kernel_rfl) (by simp) ?_
      refine' AllReadyH.cons (o := ?ob14z10) ?hb14z10 ?kb14z10 AllReadyH.nil
      case hb14z10 => (simp only [List.getElem?_toArray, List.getElem?_cons_succ, List.getElem?_cons_zero]; rfl)
      case kb14z10 =>
        intro K0 hK
        go_simp
        go_at_call 13
        refine (KX.out _).mono ?_
        rintro eK wq15 ⟨rfl, hX⟩
        have hH2 := bl hHeld hX
        clear hX hHeld
        refine hK.out _ _ ?_ (fun hHeld => ?_)
        · exact hH2
        clear hK K0
        (try simp only [Act.put, List.setIfInBounds_toArray, List.set_cons_zero, List.set_cons_succ])
        (try clear hH2)
        refine wpAnyH_ready (rs := [12]) (by kernel_rfl) (by simp) ?_
        refine' AllReadyH.cons (o := ?ob16z12) ?hb16z12 ?kb16z12 AllReadyH.nil
        case hb16z12 => (simp only [List.getElem?_toArray, List.getElem?_cons_succ, List.getElem?_cons_zero]; rfl)
        case kb16z12 =>
          intro K0 hK
          go_simp
          go_at_call 15
          refine (TY.out _).mono ?_
          rintro eK wq17 ⟨rfl, hX⟩
          have hH2 := bl hHeld hX
          clear hX hHeld
          refine hK.out _ _ ?_ (fun hHeld => ?_)
          · exact hH2
          clear hK K0
          (try simp only [Act.put, List.setIfInBounds_toArray, List.set_cons_zero, List.set_cons_succ])
          (try clear hH2)
          refine' wpAnyH_take (i := 13) (oi := ?ot18z13) (v := ?vt18z13) ?ht18z13 ?st18z13 ?ft18z13 ?zt18z13 ?qt18z13 ?yt18z13 ?at18z13 ?rt18z13
          case ht18z13 => (simp only [List.getElem?_toArray, List.getElem?_cons_succ, List.getElem?_cons_zero]; rfl)
          case st18z13 => kernel_rfl
          case ft18z13 => kernel_rfl
          case zt18z13 => kernel_rfl
          case qt18z13 => exact fun _ _ _ h => h
          case yt18z13 => (refine Or.inl ⟨rfl, ?_⟩; intro w hSw; (try dsimp only at hSw); go_simp; try with_reducible rfl)
          case at18z13 => assumption
          case rt18z13 =>
          simp only [Act.put, List.setIfInBounds_toArray, List.set_cons_zero, List.set_cons_succ]
          refine' wpAnyH_take (i := 14) (oi := ?ot19z14) (v := ?vt19z14) ?ht19z14 ?st19z14 ?ft19z14 ?zt19z14 ?qt19z14 ?yt19z14 ?at19z14 ?rt19z14
          case ht19z14 => (simp only [List.getElem?_toArray, List.getElem?_cons_succ, List.getElem?_cons_zero]; rfl)
          case st19z14 => kernel_rfl
          case ft19z14 => kernel_rfl
          case zt19z14 => kernel_rfl
          case qt19z14 => exact fun _ _ _ h => h
          case yt19z14 => (refine Or.inl ⟨rfl, ?_⟩; intro w hSw; (try dsimp only at hSw); go_simp; try with_reducible rfl)
          case at19z14 => assumption
          case rt19z14 =>
          simp only [Act.put, List.setIfInBounds_toArray, List.set_cons_zero, List.set_cons_succ]
          refine' wpAnyH_take (i := 15) (oi := ?ot20z15) (v := ?vt20z15) ?ht20z15 ?st20z15 ?ft20z15 ?zt20z15 ?qt20z15 ?yt20z15 ?at20z15 ?rt20z15
          case ht20z15 => (simp only [List.getElem?_toArray, List.getElem?_cons_succ, List.getElem?_cons_zero]; rfl)
          case st20z15 => kernel_rfl
          case ft20z15 => kernel_rfl
          case zt20z15 => kernel_rfl
          case qt20z15 => exact fun _ _ _ h => h
          case yt20z15 => (refine Or.inl ⟨rfl, ?_⟩; intro w hSw; (try dsimp only at hSw); go_simp; try with_reducible rfl)
          case at20z15 => assumption
          case rt20z15 =>
          simp only [Act.put, List.setIfInBounds_toArray, List.set_cons_zero, List.set_cons_succ]
          refine' wpAnyH_take (i := 16) (oi := ?ot21z16) (v := ?vt21z16) ?ht21z16 ?st21z16 ?ft21z16 ?zt21z16 ?qt21z16 ?yt21z16 ?at21z16 ?rt21z16
          case ht21z16 => (simp only [List.getElem?_toArray, List.getElem?_cons_succ, List.getElem?_cons_zero]; rfl)
          case st21z16 => kernel_rfl
          case ft21z16 => kernel_rfl
          case zt21z16 => kernel_rfl
          case qt21z16 => exact fun _ _ _ h => h
          case yt21z16 => (refine Or.inl ⟨rfl, ?_⟩; intro w hSw; (try dsimp only at hSw); go_simp; try with_reducible rfl)
          case at21z16 => assumption
          case rt21z16 =>
          simp only [Act.put, List.setIfInBounds_toArray, List.set_cons_zero, List.set_cons_succ]
          refine' wpAnyH_take (i := 17) (oi := ?ot22z17) (v := ?vt22z17) ?ht22z17 ?st22z17 ?ft22z17 ?zt22z17 ?qt22z17 ?yt22z17 ?at22z17 ?rt22z17
          case ht22z17 => (simp only [List.getElem?_toArray, List.getElem?_cons_succ, List.getElem?_cons_zero]; rfl)
          case st22z17 => kernel_rfl
          case ft22z17 => kernel_rfl
          case zt22z17 => kernel_rfl
          case qt22z17 => exact fun _ _ _ h => h
          case yt22z17 => (refine Or.inl ⟨rfl, ?_⟩; intro w hSw; (try dsimp only at hSw); go_simp; try with_reducible rfl)
          case at22z17 => assumption
          case rt22z17 =>
          simp only [Act.put, List.setIfInBounds_toArray, List.set_cons_zero, List.set_cons_succ]
          refine' wpAnyH_take (i := 19) (oi := ?ot23z19) (v := ?vt23z19) ?ht23z19 ?st23z19 ?ft23z19 ?zt23z19 ?qt23z19 ?yt23z19 ?at23z19 ?rt23z19
          case ht23z19 => (simp only [List.getElem?_toArray, List.getElem?_cons_succ, List.getElem?_cons_zero]; rfl)
          case st23z19 => kernel_rfl
          case ft23z19 => kernel_rfl
          case zt23z19 => kernel_rfl
          case qt23z19 => exact fun _ _ _ h => h
          case yt23z19 => (refine Or.inl ⟨rfl, ?_⟩; intro w hSw; (try dsimp only at hSw); go_simp; try with_reducible rfl)
          case at23z19 => assumption
          case rt23z19 =>
          simp only [Act.put, List.setIfInBounds_toArray, List.set_cons_zero, List.set_cons_succ]
          refine wpAnyH_ready (rs := [18]) (by kernel_rfl) (by simp) ?_
          refine' AllReadyH.cons (o := ?ob24z18) ?hb24z18 ?kb24z18 AllReadyH.nil
          case hb24z18 => (simp only [List.getElem?_toArray, List.getElem?_cons_succ, List.getElem?_cons_zero]; rfl)
          case kb24z18 =>
            intro K0 hK
            go_simp
            go_at_call 14
            refine (GX.out _).mono ?_
            rintro eK wq25 ⟨rfl, hX⟩
            have hH2 := bl hHeld hX
            clear hX hHeld
            refine hK.out _ _ ?_ (fun hHeld => ?_)
            · exact hH2
            clear hK K0
            (try simp only [Act.put, List.setIfInBounds_toArray, List.set_cons_zero, List.set_cons_succ])
            (try clear hH2)
            refine wpAnyH_ready (rs := [20]) (by kernel_rfl) (by simp) ?_
            refine' AllReadyH.cons (o := ?ob26z20) ?hb26z20 ?kb26z20 AllReadyH.nil
            case hb26z20 => (simp only [List.getElem?_toArray, List.getElem?_cons_succ, List.getElem?_cons_zero]; rfl)
            case kb26z20 =>
              intro K0 hK
              go_simp
              go_at_call 15
              refine (TY.out _).mono ?_
              rintro eK wq27 ⟨rfl, hX⟩
              have hH2 := bl hHeld hX
              clear hX hHeld
              refine hK.out _ _ ?_ (fun hHeld => ?_)
              · exact hH2
              clear hK K0
              (try simp only [Act.put, List.setIfInBounds_toArray, List.set_cons_zero, List.set_cons_succ])
              (try clear hH2)
              refine' wpAnyH_take (i := 21) (oi := ?ot28z21) (v := ?vt28z21) ?ht28z21 ?st28z21 ?ft28z21 ?zt28z21 ?qt28z21 ?yt28z21 ?at28z21 ?rt28z21
              case ht28z21 => (simp only [List.getElem?_toArray, List.getElem?_cons_succ, List.getElem?_cons_zero]; rfl)
              case st28z21 => kernel_rfl
              case ft28z21 => kernel_rfl
              case zt28z21 => kernel_rfl
              case qt28z21 => exact fun _ _ _ h => h
              case yt28z21 => (refine Or.inl ⟨rfl, ?_⟩; intro w hSw; (try dsimp only at hSw); go_simp; try with_reducible rfl)
              case at28z21 => assumption
              case rt28z21 =>
              simp only [Act.put, List.setIfInBounds_toArray, List.set_cons_zero, List.set_cons_succ]
              refine' wpAnyH_take (i := 22) (oi := ?ot29z22) (v := ?vt29z22) ?ht29z22 ?st29z22 ?ft29z22 ?zt29z22 ?qt29z22 ?yt29z22 ?at29z22 ?rt29z22
              case ht29z22 => (simp only [List.getElem?_toArray, List.getElem?_cons_succ, List.getElem?_cons_zero]; rfl)
              case st29z22 => kernel_rfl
              case ft29z22 => kernel_rfl
              case zt29z22 => kernel_rfl
              case qt29z22 => exact fun _ _ _ h => h
              case yt29z22 => (refine Or.inl ⟨rfl, ?_⟩; intro w hSw; (try dsimp only at hSw); go_simp; try with_reducible rfl)
              case at29z22 => assumption
              case rt29z22 =>
              simp only [Act.put, List.setIfInBounds_toArray, List.set_cons_zero, List.set_cons_succ]
              refine' wpAnyH_take (i := 23) (oi := ?ot30z23) (v := ?vt30z23) ?ht30z23 ?st30z23 ?ft30z23 ?zt30z23 ?qt30z23 ?yt30z23 ?at30z23 ?rt30z23
              case ht30z23 => (simp only [List.getElem?_toArray, List.getElem?_cons_succ, List.getElem?_cons_zero]; rfl)
              case st30z23 => kernel_rfl
              case ft30z23 => kernel_rfl
              case zt30z23 => kernel_rfl
              case qt30z23 => exact fun _ _ _ h => h
              case yt30z23 => (refine Or.inl ⟨rfl, ?_⟩; intro w hSw; (try dsimp only at hSw); go_simp; try with_reducible rfl)
              case at30z23 => assumption
              case rt30z23 =>
              simp only [Act.put, List.setIfInBounds_toArray, List.set_cons_zero, List.set_cons_succ]
              refine' wpAnyH_take (i := 24) (oi := ?ot31z24) (v := ?vt31z24) ?ht31z24 ?st31z24 ?ft31z24 ?zt31z24 ?qt31z24 ?yt31z24 ?at31z24 ?rt31z24
              case ht31z24 => (simp only [List.getElem?_toArray, List.getElem?_cons_succ, List.getElem?_cons_zero]; rfl)
              case st31z24 => kernel_rfl
              case ft31z24 => kernel_rfl
              case zt31z24 => kernel_rfl
              case qt31z24 => exact fun _ _ _ h => h
              case yt31z24 => (refine Or.inl ⟨rfl, ?_⟩; intro w hSw; (try dsimp only at hSw); go_simp; try with_reducible rfl)
              case at31z24 => assumption
              case rt31z24 =>
              simp only [Act.put, List.setIfInBounds_toArray, List.set_cons_zero, List.set_cons_succ]
              refine' wpAnyH_take (i := 26) (oi := ?ot32z26) (v := ?vt32z26) ?ht32z26 ?st32z26 ?ft32z26 ?zt32z26 ?qt32z26 ?yt32z26 ?at32z26 ?rt32z26
              case ht32z26 => (simp only [List.getElem?_toArray, List.getElem?_cons_succ, List.getElem?_cons_zero]; rfl)
              case st32z26 => kernel_rfl
              case ft32z26 => kernel_rfl
              case zt32z26 => kernel_rfl
              case qt32z26 => exact fun _ _ _ h => h
              case yt32z26 => (refine Or.inl ⟨rfl, ?_⟩; intro w hSw; (try dsimp only at hSw); go_simp; try with_reducible rfl)
              case at32z26 => assumption
              case rt32z26 =>
              simp only [Act.put, List.setIfInBounds_toArray, List.set_cons_zero, List.set_cons_succ]
              refine' wpAnyH_take (i := 27) (oi := ?ot33z27) (v := ?vt33z27) ?ht33z27 ?st33z27 ?ft33z27 ?zt33z27 ?qt33z27 ?yt33z27 ?at33z27 ?rt33z27
              case ht33z27 => (simp only [List.getElem?_toArray, List.getElem?_cons_succ, List.getElem?_cons_zero]; rfl)
              case st33z27 => kernel_rfl
              case ft33z27 => kernel_rfl
              case zt33z27 => kernel_rfl
              case qt33z27 => exact fun _ _ _ h => h
              case yt33z27 => (refine Or.inl ⟨rfl, ?_⟩; intro w hSw; (try dsimp only at hSw); go_simp; try with_reducible rfl)
              case at33z27 => assumption
              case rt33z27 =>
              simp only [Act.put, List.setIfInBounds_toArray, List.set_cons_zero, List.set_cons_succ]
              refine wpAnyH_ready (rs := [25, 28]) (by kernel_rfl) (by simp) ?_
              refine' AllReadyH.cons (o := ?ob34z25) ?hb34z25 ?kb34z25 ?mb34z25
              case hb34z25 => (simp only [List.getElem?_toArray, List.getElem?_cons_succ, List.getElem?_cons_zero]; rfl)
              case kb34z25 =>
                intro K0 hK
                go_simp
                go_at_call 15
                refine (TX.out _).mono ?_
                rintro eK wq35 ⟨rfl, hX⟩
                have hH2 := bl hHeld hX
                clear hX hHeld
                refine hK.out _ _ ?_ (fun hHeld => ?_)
                · exact hH2
                clear hK K0
                (try simp only [Act.put, List.setIfInBounds_toArray, List.set_cons_zero, List.set_cons_succ])
                (try clear hH2)
                refine wpAnyH_ready (rs := [28]) (by kernel_rfl) (by simp) ?_
                refine' AllReadyH.cons (o := ?ob36z28) ?hb36z28 ?kb36z28 AllReadyH.nil
                case hb36z28 => (simp only [List.getElem?_toArray, List.getElem?_cons_succ, List.getElem?_cons_zero]; rfl)
                case kb36z28 =>
                  intro K0 hK
                  go_simp
                  obtain ⟨gb, hgz⟩ : ∃ g, g = wq35.heap.size := ⟨_, rfl⟩
                  have hH2 : Below w1.heap.size w1 (wq35.alloc (.cells #[.int .u8 (IntKind.u8.wrap (K : Int))] 5)) ∧ gb < (wq35.alloc (.cells #[.int .u8 (IntKind.u8.wrap (K : Int))] 5)).heap.size ∧ (wq35.alloc (.cells #[.int .u8 (IntKind.u8.wrap (K : Int))] 5)).cell? ⟨gb, 0, none⟩ = some (.int .u8 (IntKind.u8.wrap (K : Int))) := ⟨blA hHeld _, by rw [hgz, World.size_alloc]; omega, by rw [hgz]; exact (Blk.new _ _ _).cell 0⟩
                  rw [← hgz]
                  clear hgz hHeld
                  generalize World.alloc wq35 _ = wq37 at *
                  refine hK.out _ _ ?_ (fun hHeld => ?_)
                  · exact hH2.1
                  clear hK K0
                  (try simp only [Act.put, List.setIfInBounds_toArray, List.set_cons_zero, List.set_cons_succ])
                  refine wpAnyH_weak (S := fun W => Below w1.heap.size w1 W ∧ gb < W.heap.size ∧ W.cell? ⟨gb, 0, none⟩ = some (.int .u8 (IntKind.u8.wrap (K : Int)))) (fun _ h => h.1) _ _ _ _ ?_
                  clear hHeld
                  have hHeld := hH2
                  clear hH2
                  refine' wpAnyH_take (i := 29) (oi := ?ot39z29) (v := ?vt39z29) ?ht39z29 ?st39z29 ?ft39z29 ?zt39z29 ?qt39z29 ?yt39z29 ?at39z29 ?rt39z29
                  case ht39z29 => (simp only [List.getElem?_toArray, List.getElem?_cons_succ, List.getElem?_cons_zero]; rfl)
                  case st39z29 => kernel_rfl
                  case ft39z29 => kernel_rfl
                  case zt39z29 => kernel_rfl
                  case qt39z29 => exact fun _ _ _ h => h
                  case yt39z29 => (refine Or.inl ⟨rfl, ?_⟩; intro w hSw; have hcv := CV.out _ _ hSw.2.2; clear hSw; go_simp; try with_reducible rfl)
                  case at39z29 => assumption
                  case rt39z29 =>
                  simp only [Act.put, List.setIfInBounds_toArray, List.set_cons_zero, List.set_cons_succ]
                  refine' wpAnyH_take (i := 30) (oi := ?ot40z30) (v := ?vt40z30) ?ht40z30 ?st40z30 ?ft40z30 ?zt40z30 ?qt40z30 ?yt40z30 ?at40z30 ?rt40z30
                  case ht40z30 => (simp only [List.getElem?_toArray, List.getElem?_cons_succ, List.getElem?_cons_zero]; rfl)
                  case st40z30 => kernel_rfl
                  case ft40z30 => kernel_rfl
                  case zt40z30 => kernel_rfl
                  case qt40z30 => exact fun _ _ _ h => h
                  case yt40z30 => (refine Or.inl ⟨rfl, ?_⟩; intro w hSw; (try dsimp only at hSw); go_simp; try with_reducible rfl)
                  case at40z30 => assumption
                  case rt40z30 =>
                  simp only [Act.put, List.setIfInBounds_toArray, List.set_cons_zero, List.set_cons_succ]
                  refine' wpAnyH_take (i := 31) (oi := ?ot41z31) (v := ?vt41z31) ?ht41z31 ?st41z31 ?ft41z31 ?zt41z31 ?qt41z31 ?yt41z31 ?at41z31 ?rt41z31
                  case ht41z31 => (simp only [List.getElem?_toArray, List.getElem?_cons_succ, List.getElem?_cons_zero]; rfl)
                  case st41z31 => kernel_rfl
                  case ft41z31 => kernel_rfl
                  case zt41z31 => kernel_rfl
                  case qt41z31 => exact fun _ _ _ h => h
                  case yt41z31 => (refine Or.inl ⟨rfl, ?_⟩; intro w hSw; (try dsimp only at hSw); go_simp; try with_reducible rfl)
                  case at41z31 => assumption
                  case rt41z31 =>
                  simp only [Act.put, List.setIfInBounds_toArray, List.set_cons_zero, List.set_cons_succ]
                  refine' wpAnyH_take (i := 32) (oi := ?ot42z32) (v := ?vt42z32) ?ht42z32 ?st42z32 ?ft42z32 ?zt42z32 ?qt42z32 ?yt42z32 ?at42z32 ?rt42z32
                  case ht42z32 => (simp only [List.getElem?_toArray, List.getElem?_cons_succ, List.getElem?_cons_zero]; rfl)
                  case st42z32 => kernel_rfl
                  case ft42z32 => kernel_rfl
                  case zt42z32 => kernel_rfl
                  case qt42z32 => exact fun _ _ _ h => h
                  case yt42z32 => (refine Or.inl ⟨rfl, ?_⟩; intro w hSw; (try dsimp only at hSw); go_simp; try with_reducible rfl)
                  case at42z32 => assumption
                  case rt42z32 =>
                  simp only [Act.put, List.setIfInBounds_toArray, List.set_cons_zero, List.set_cons_succ]
                  refine' wpAnyH_take (i := 33) (oi := ?ot43z33) (v := ?vt43z33) ?ht43z33 ?st43z33 ?ft43z33 ?zt43z33 ?qt43z33 ?yt43z33 ?at43z33 ?rt43z33
                  case ht43z33 => (simp only [List.getElem?_toArray, List.getElem?_cons_succ, List.getElem?_cons_zero]; rfl)
                  case st43z33 => kernel_rfl
                  case ft43z33 => kernel_rfl
                  case zt43z33 => kernel_rfl
                  case qt43z33 => exact fun _ _ _ h => h
                  case yt43z33 => (refine Or.inl ⟨rfl, ?_⟩; intro w hSw; (try dsimp only at hSw); go_simp; try with_reducible rfl)
                  case at43z33 => assumption
                  case rt43z33 =>
                  simp only [Act.put, List.setIfInBounds_toArray, List.set_cons_zero, List.set_cons_succ]
                  refine' wpAnyH_take (i := 34) (oi := ?ot44z34) (v := ?vt44z34) ?ht44z34 ?st44z34 ?ft44z34 ?zt44z34 ?qt44z34 ?yt44z34 ?at44z34 ?rt44z34
                  case ht44z34 => (simp only [List.getElem?_toArray, List.getElem?_cons_succ, List.getElem?_cons_zero]; rfl)
                  case st44z34 => kernel_rfl
                  case ft44z34 => kernel_rfl
                  case zt44z34 => kernel_rfl
                  case qt44z34 => exact fun _ _ _ h => h
                  case yt44z34 => (refine Or.inl ⟨rfl, ?_⟩; intro w hSw; (try dsimp only at hSw); go_simp; try with_reducible rfl)
                  case at44z34 => assumption
                  case rt44z34 =>
                  simp only [Act.put, List.setIfInBounds_toArray, List.set_cons_zero, List.set_cons_succ]
                  refine' wpAnyH_take (i := 35) (oi := ?ot45z35) (v := ?vt45z35) ?ht45z35 ?st45z35 ?ft45z35 ?zt45z35 ?qt45z35 ?yt45z35 ?at45z35 ?rt45z35
                  case ht45z35 => (simp only [List.getElem?_toArray, List.getElem?_cons_succ, List.getElem?_cons_zero]; rfl)
                  case st45z35 => kernel_rfl
                  case ft45z35 => kernel_rfl
                  case zt45z35 => kernel_rfl
                  case qt45z35 => exact fun _ _ _ h => h
                  case yt45z35 => (refine Or.inl ⟨rfl, ?_⟩; intro w hSw; (try dsimp only at hSw); go_simp; try with_reducible rfl)
                  case at45z35 => assumption
                  case rt45z35 =>
                  simp only [Act.put, List.setIfInBounds_toArray, List.set_cons_zero, List.set_cons_succ]
                  refine' wpAnyH_take (i := 37) (oi := ?ot46z37) (v := ?vt46z37) ?ht46z37 ?st46z37 ?ft46z37 ?zt46z37 ?qt46z37 ?yt46z37 ?at46z37 ?rt46z37
                  case ht46z37 => (simp only [List.getElem?_toArray, List.getElem?_cons_succ, List.getElem?_cons_zero]; rfl)
                  case st46z37 => kernel_rfl
                  case ft46z37 => kernel_rfl
                  case zt46z37 => kernel_rfl
                  case qt46z37 => exact fun _ _ _ h => h
                  case yt46z37 => (refine Or.inl ⟨rfl, ?_⟩; intro w hSw; (try dsimp only at hSw); go_simp; try with_reducible rfl)
                  case at46z37 => assumption
                  case rt46z37 =>
                  simp only [Act.put, List.setIfInBounds_toArray, List.set_cons_zero, List.set_cons_succ]
                  refine' wpAnyH_take (i := 41) (oi := ?ot47z41) (v := ?vt47z41) ?ht47z41 ?st47z41 ?ft47z41 ?zt47z41 ?qt47z41 ?yt47z41 ?at47z41 ?rt47z41
                  case ht47z41 => (simp only [List.getElem?_toArray, List.getElem?_cons_succ, List.getElem?_cons_zero]; rfl)
                  case st47z41 => kernel_rfl
                  case ft47z41 => kernel_rfl
                  case zt47z41 => kernel_rfl
                  case qt47z41 => exact fun _ _ _ h => h
                  case yt47z41 => (refine Or.inl ⟨rfl, ?_⟩; intro w hSw; (try dsimp only at hSw); go_simp; try with_reducible rfl)
                  case at47z41 => assumption
                  case rt47z41 =>
                  simp only [Act.put, List.setIfInBounds_toArray, List.set_cons_zero, List.set_cons_succ]
                  refine wpAnyH_ready (rs := [36]) (by kernel_rfl) (by simp) ?_
                  refine' AllReadyH.cons (o := ?ob48z36) ?hb48z36 ?kb48z36 AllReadyH.nil
                  case hb48z36 => (simp only [List.getElem?_toArray, List.getElem?_cons_succ, List.getElem?_cons_zero]; rfl)
                  case kb48z36 =>
                    intro K0 hK
                    go_simp
                    go_at_call 13
                    refine (KX.out _).mono ?_
                    rintro eK wq49 ⟨rfl, hX⟩
                    have hH2 : Below w1.heap.size w1 wq49 ∧ gb < wq49.heap.size ∧ wq49.cell? ⟨gb, 0, none⟩ = some (.int .u8 (IntKind.u8.wrap (K : Int))) := ⟨bl hHeld.1 hX, by have := hX.size; have := hHeld.2.1; omega, by rw [(bcell hX).1 _ _ hHeld.2.1]; exact hHeld.2.2⟩
                    clear hX hHeld
                    refine hK.out _ _ ?_ (fun hHeld => ?_)
                    · exact hH2
                    clear hK K0
                    (try simp only [Act.put, List.setIfInBounds_toArray, List.set_cons_zero, List.set_cons_succ])
                    (try clear hH2)
                    refine wpAnyH_ready (rs := [38]) (by kernel_rfl) (by simp) ?_
                    refine' AllReadyH.cons (o := ?ob50z38) ?hb50z38 ?kb50z38 AllReadyH.nil
                    case hb50z38 => (simp only [List.getElem?_toArray, List.getElem?_cons_succ, List.getElem?_cons_zero]; rfl)
                    case kb50z38 =>
                      intro K0 hK
                      go_simp
                      go_at_call 15
                      refine (TX.out _).mono ?_
                      rintro eK wq51 ⟨rfl, hX⟩
                      have hH2 : Below w1.heap.size w1 wq51 ∧ gb < wq51.heap.size ∧ wq51.cell? ⟨gb, 0, none⟩ = some (.int .u8 (IntKind.u8.wrap (K : Int))) := ⟨bl hHeld.1 hX, by have := hX.size; have := hHeld.2.1; omega, by rw [(bcell hX).1 _ _ hHeld.2.1]; exact hHeld.2.2⟩
                      clear hX hHeld
                      refine hK.out _ _ ?_ (fun hHeld => ?_)
                      · exact hH2
                      clear hK K0
                      (try simp only [Act.put, List.setIfInBounds_toArray, List.set_cons_zero, List.set_cons_succ])
                      (try clear hH2)
                      refine' wpAnyH_take (i := 39) (oi := ?ot52z39) (v := ?vt52z39) ?ht52z39 ?st52z39 ?ft52z39 ?zt52z39 ?qt52z39 ?yt52z39 ?at52z39 ?rt52z39
                      case ht52z39 => (simp only [List.getElem?_toArray, List.getElem?_cons_succ, List.getElem?_cons_zero]; rfl)
                      case st52z39 => kernel_rfl
                      case ft52z39 => kernel_rfl
                      case zt52z39 => kernel_rfl
                      case qt52z39 => exact fun _ _ _ h => h
                      case yt52z39 => (refine Or.inl ⟨rfl, ?_⟩; intro w hSw; clear hSw; have hsl := HSL.out w; go_simp; try with_reducible rfl)
                      case at52z39 => assumption
                      case rt52z39 =>
                      simp only [Act.put, List.setIfInBounds_toArray, List.set_cons_zero, List.set_cons_succ]
                      refine' wpAnyH_take (i := 40) (oi := ?ot53z40) (v := ?vt53z40) ?ht53z40 ?st53z40 ?ft53z40 ?zt53z40 ?qt53z40 ?yt53z40 ?at53z40 ?rt53z40
                      case ht53z40 => (simp only [List.getElem?_toArray, List.getElem?_cons_succ, List.getElem?_cons_zero]; rfl)
                      case st53z40 => kernel_rfl
                      case ft53z40 => kernel_rfl
                      case zt53z40 => kernel_rfl
                      case qt53z40 => exact fun _ _ _ h => h
                      case yt53z40 => (refine Or.inl ⟨rfl, ?_⟩; intro w hSw; (try dsimp only at hSw); go_simp; try with_reducible rfl)
                      case at53z40 => assumption
                      case rt53z40 =>
                      simp only [Act.put, List.setIfInBounds_toArray, List.set_cons_zero, List.set_cons_succ]
                      refine' wpAnyH_take (i := 42) (oi := ?ot54z42) (v := ?vt54z42) ?ht54z42 ?st54z42 ?ft54z42 ?zt54z42 ?qt54z42 ?yt54z42 ?at54z42 ?rt54z42
                      case ht54z42 => (simp only [List.getElem?_toArray, List.getElem?_cons_succ, List.getElem?_cons_zero]; rfl)
                      case st54z42 => kernel_rfl
                      case ft54z42 => kernel_rfl
                      case zt54z42 => kernel_rfl
                      case qt54z42 => exact fun _ _ _ h => h
                      case yt54z42 => (refine Or.inl ⟨rfl, ?_⟩; intro w hSw; (try dsimp only at hSw); go_simp; try with_reducible rfl)
                      case at54z42 => assumption
                      case rt54z42 =>
                      simp only [Act.put, List.setIfInBounds_toArray, List.set_cons_zero, List.set_cons_succ]
                      refine' wpAnyH_take (i := 43) (oi := ?ot55z43) (v := ?vt55z43) ?ht55z43 ?st55z43 ?ft55z43 ?zt55z43 ?qt55z43 ?yt55z43 ?at55z43 ?rt55z43
                      case ht55z43 => (simp only [List.getElem?_toArray, List.getElem?_cons_succ, List.getElem?_cons_zero]; rfl)
                      case st55z43 => kernel_rfl
                      case ft55z43 => kernel_rfl
                      case zt55z43 => kernel_rfl
                      case qt55z43 => exact fun _ _ _ h => h
                      case yt55z43 => (refine Or.inl ⟨rfl, ?_⟩; intro w hSw; (try dsimp only at hSw); go_simp; try with_reducible rfl)
                      case at55z43 => assumption
                      case rt55z43 =>
                      simp only [Act.put, List.setIfInBounds_toArray, List.set_cons_zero, List.set_cons_succ]
                      refine' wpAnyH_take (i := 44) (oi := ?ot56z44) (v := ?vt56z44) ?ht56z44 ?st56z44 ?ft56z44 ?zt56z44 ?qt56z44 ?yt56z44 ?at56z44 ?rt56z44
                      case ht56z44 => (simp only [List.getElem?_toArray, List.getElem?_cons_succ, List.getElem?_cons_zero]; rfl)
                      case st56z44 => kernel_rfl
                      case ft56z44 => kernel_rfl
                      case zt56z44 => kernel_rfl
                      case qt56z44 => exact fun _ _ _ h => h
                      case yt56z44 => (refine Or.inl ⟨rfl, ?_⟩; intro w hSw; (try dsimp only at hSw); go_simp; try with_reducible rfl)
                      case at56z44 => assumption
                      case rt56z44 =>
                      simp only [Act.put, List.setIfInBounds_toArray, List.set_cons_zero, List.set_cons_succ]
                      refine' wpAnyH_take (i := 45) (oi := ?ot57z45) (v := ?vt57z45) ?ht57z45 ?st57z45 ?ft57z45 ?zt57z45 ?qt57z45 ?yt57z45 ?at57z45 ?rt57z45
                      case ht57z45 => (simp only [List.getElem?_toArray, List.getElem?_cons_succ, List.getElem?_cons_zero]; rfl)
                      case st57z45 => kernel_rfl
                      case ft57z45 => kernel_rfl
                      case zt57z45 => kernel_rfl
                      case qt57z45 => exact fun _ _ _ h => h
                      case yt57z45 => (refine Or.inl ⟨rfl, ?_⟩; intro w hSw; (try dsimp only at hSw); go_simp; try with_reducible rfl)
                      case at57z45 => assumption
                      case rt57z45 =>
                      simp only [Act.put, List.setIfInBounds_toArray, List.set_cons_zero, List.set_cons_succ]
                      refine' wpAnyH_take (i := 46) (oi := ?ot58z46) (v := ?vt58z46) ?ht58z46 ?st58z46 ?ft58z46 ?zt58z46 ?qt58z46 ?yt58z46 ?at58z46 ?rt58z46
                      case ht58z46 => (simp only [List.getElem?_toArray, List.getElem?_cons_succ, List.getElem?_cons_zero]; rfl)
                      case st58z46 => kernel_rfl
                      case ft58z46 => kernel_rfl
                      case zt58z46 => kernel_rfl
                      case qt58z46 => exact fun _ _ _ h => h
                      case yt58z46 => (refine Or.inl ⟨rfl, ?_⟩; intro w hSw; (try dsimp only at hSw); go_simp; try with_reducible rfl)
                      case at58z46 => assumption
                      case rt58z46 =>
                      simp only [Act.put, List.setIfInBounds_toArray, List.set_cons_zero, List.set_cons_succ]
                      refine' wpAnyH_take (i := 47) (oi := ?ot59z47) (v := ?vt59z47) ?ht59z47 ?st59z47 ?ft59z47 ?zt59z47 ?qt59z47 ?yt59z47 ?at59z47 ?rt59z47
                      case ht59z47 => (simp only [List.getElem?_toArray, List.getElem?_cons_succ, List.getElem?_cons_zero]; rfl)
                      case st59z47 => kernel_rfl
                      case ft59z47 => kernel_rfl
                      case zt59z47 => kernel_rfl
                      case qt59z47 => exact fun _ _ _ h => h
                      case yt59z47 => (refine Or.inl ⟨rfl, ?_⟩; intro w hSw; (try dsimp only at hSw); go_simp; try with_reducible rfl)
                      case at59z47 => assumption
                      case rt59z47 =>
                      simp only [Act.put, List.setIfInBounds_toArray, List.set_cons_zero, List.set_cons_succ]
                      refine' wpAnyH_take (i := 49) (oi := ?ot60z49) (v := ?vt60z49) ?ht60z49 ?st60z49 ?ft60z49 ?zt60z49 ?qt60z49 ?yt60z49 ?at60z49 ?rt60z49
                      case ht60z49 => (simp only [List.getElem?_toArray, List.getElem?_cons_succ, List.getElem?_cons_zero]; rfl)
                      case st60z49 => kernel_rfl
                      case ft60z49 => kernel_rfl
                      case zt60z49 => kernel_rfl
                      case qt60z49 => exact fun _ _ _ h => h
                      case yt60z49 => (refine Or.inl ⟨rfl, ?_⟩; intro w hSw; (try dsimp only at hSw); go_simp; try with_reducible rfl)
                      case at60z49 => assumption
                      case rt60z49 =>
                      simp only [Act.put, List.setIfInBounds_toArray, List.set_cons_zero, List.set_cons_succ]
                      refine' wpAnyH_take (i := 50) (oi := ?ot61z50) (v := ?vt61z50) ?ht61z50 ?st61z50 ?ft61z50 ?zt61z50 ?qt61z50 ?yt61z50 ?at61z50 ?rt61z50
                      case ht61z50 => (simp only [List.getElem?_toArray, List.getElem?_cons_succ, List.getElem?_cons_zero]; rfl)
                      case st61z50 => kernel_rfl
                      case ft61z50 => kernel_rfl
                      case zt61z50 => kernel_rfl
                      case qt61z50 => exact fun _ _ _ h => h
                      case yt61z50 => (refine Or.inl ⟨rfl, ?_⟩; intro w hSw; (try dsimp only at hSw); go_simp; try with_reducible rfl)
                      case at61z50 => assumption
                      case rt61z50 =>
                      simp only [Act.put, List.setIfInBounds_toArray, List.set_cons_zero, List.set_cons_succ]
                      refine wpAnyH_ready (rs := [48]) (by kernel_rfl) (by simp) ?_
                      refine' AllReadyH.cons (o := ?ob62z48) ?hb62z48 ?kb62z48 AllReadyH.nil
                      case hb62z48 => (simp only [List.getElem?_toArray, List.getElem?_cons_succ, List.getElem?_cons_zero]; rfl)
                      case kb62z48 =>
                        intro K0 hK
                        go_simp
                        go_at_call 14
                        refine (GT.out _).mono ?_
                        rintro eK wq63 ⟨rfl, hX⟩
                        have hH2 : Below w1.heap.size w1 wq63 ∧ gb < wq63.heap.size ∧ wq63.cell? ⟨gb, 0, none⟩ = some (.int .u8 (IntKind.u8.wrap (K : Int))) := ⟨bl hHeld.1 hX, by have := hX.size; have := hHeld.2.1; omega, by rw [(bcell hX).1 _ _ hHeld.2.1]; exact hHeld.2.2⟩
                        clear hX hHeld
                        refine hK.out _ _ ?_ (fun hHeld => ?_)
                        · exact hH2
                        clear hK K0
                        (try simp only [Act.put, List.setIfInBounds_toArray, List.set_cons_zero, List.set_cons_succ])
                        (try clear hH2)
                        refine wpAnyH_ready (rs := [51]) (by kernel_rfl) (by simp) ?_
                        refine' AllReadyH.cons (o := ?ob64z51) ?hb64z51 ?kb64z51 AllReadyH.nil
                        case hb64z51 => (simp only [List.getElem?_toArray, List.getElem?_cons_succ, List.getElem?_cons_zero]; rfl)
                        case kb64z51 =>
                          intro K0 hK
                          go_simp
                          go_at_call 14
                          refine (GX.out _).mono ?_
                          rintro eK wq65 ⟨rfl, hX⟩
                          have hH2 : Below w1.heap.size w1 wq65 ∧ gb < wq65.heap.size ∧ wq65.cell? ⟨gb, 0, none⟩ = some (.int .u8 (IntKind.u8.wrap (K : Int))) := ⟨bl hHeld.1 hX, by have := hX.size; have := hHeld.2.1; omega, by rw [(bcell hX).1 _ _ hHeld.2.1]; exact hHeld.2.2⟩
                          clear hX hHeld
                          refine hK.out _ _ ?_ (fun hHeld => ?_)
                          · exact hH2
                          clear hK K0
                          (try simp only [Act.put, List.setIfInBounds_toArray, List.set_cons_zero, List.set_cons_succ])
                          (try clear hH2)
                          refine' wpAnyH_take (i := 52) (oi := ?ot66z52) (v := ?vt66z52) ?ht66z52 ?st66z52 ?ft66z52 ?zt66z52 ?qt66z52 ?yt66z52 ?at66z52 ?rt66z52
                          case ht66z52 => (simp only [List.getElem?_toArray, List.getElem?_cons_succ, List.getElem?_cons_zero]; rfl)
                          case st66z52 => kernel_rfl
                          case ft66z52 => kernel_rfl
                          case zt66z52 => kernel_rfl
                          case qt66z52 => exact fun _ _ _ h => h
                          case yt66z52 => (refine Or.inl ⟨rfl, ?_⟩; intro w hSw; (try dsimp only at hSw); go_simp; try with_reducible rfl)
                          case at66z52 => assumption
                          case rt66z52 =>
                          simp only [Act.put, List.setIfInBounds_toArray, List.set_cons_zero, List.set_cons_succ]
                          refine' wpAnyH_take (i := 53) (oi := ?ot67z53) (v := ?vt67z53) ?ht67z53 ?st67z53 ?ft67z53 ?zt67z53 ?qt67z53 ?yt67z53 ?at67z53 ?rt67z53
                          case ht67z53 => (simp only [List.getElem?_toArray, List.getElem?_cons_succ, List.getElem?_cons_zero]; rfl)
                          case st67z53 => kernel_rfl
                          case ft67z53 => kernel_rfl
                          case zt67z53 => kernel_rfl
                          case qt67z53 => exact fun _ _ _ h => h
                          case yt67z53 => (refine Or.inl ⟨rfl, ?_⟩; intro w hSw; (try dsimp only at hSw); go_simp; try with_reducible rfl)
                          case at67z53 => assumption
                          case rt67z53 =>
                          simp only [Act.put, List.setIfInBounds_toArray, List.set_cons_zero, List.set_cons_succ]
                          refine' wpAnyH_take (i := 54) (oi := ?ot68z54) (v := ?vt68z54) ?ht68z54 ?st68z54 ?ft68z54 ?zt68z54 ?qt68z54 ?yt68z54 ?at68z54 ?rt68z54
                          case ht68z54 => (simp only [List.getElem?_toArray, List.getElem?_cons_succ, List.getElem?_cons_zero]; rfl)
                          case st68z54 => kernel_rfl
                          case ft68z54 => kernel_rfl
                          case zt68z54 => kernel_rfl
                          case qt68z54 => exact fun _ _ _ h => h
                          case yt68z54 => (refine Or.inl ⟨rfl, ?_⟩; intro w hSw; (try dsimp only at hSw); go_simp; try with_reducible rfl)
                          case at68z54 => assumption
                          case rt68z54 =>
                          simp only [Act.put, List.setIfInBounds_toArray, List.set_cons_zero, List.set_cons_succ]
                          refine wpAnyH_done (by kernel_rfl) ?_ _
                          go_wp2_with fail
                          go_returns
                          exact ⟨rfl, bl B1.out hHeld.1⟩
              case mb34z25 =>
              refine' AllReadyH.cons (o := ?ob69z28) ?hb69z28 ?kb69z28 AllReadyH.nil
              case hb69z28 => (simp only [List.getElem?_toArray, List.getElem?_cons_succ, List.getElem?_cons_zero]; rfl)
              case kb69z28 =>
                intro K0 hK
                go_simp
                obtain ⟨gb, hgz⟩ : ∃ g, g = wq27.heap.size := ⟨_, rfl⟩
                have hH2 : Below w1.heap.size w1 (wq27.alloc (.cells #[.int .u8 (IntKind.u8.wrap (K : Int))] 5)) ∧ gb < (wq27.alloc (.cells #[.int .u8 (IntKind.u8.wrap (K : Int))] 5)).heap.size ∧ (wq27.alloc (.cells #[.int .u8 (IntKind.u8.wrap (K : Int))] 5)).cell? ⟨gb, 0, none⟩ = some (.int .u8 (IntKind.u8.wrap (K : Int))) := ⟨blA hHeld _, by rw [hgz, World.size_alloc]; omega, by rw [hgz]; exact (Blk.new _ _ _).cell 0⟩
                rw [← hgz]
                clear hgz hHeld
                generalize World.alloc wq27 _ = wq70 at *
                refine hK.out _ _ ?_ (fun hHeld => ?_)
                · exact hH2.1
                clear hK K0
                (try simp only [Act.put, List.setIfInBounds_toArray, List.set_cons_zero, List.set_cons_succ])
                refine wpAnyH_weak (S := fun W => Below w1.heap.size w1 W ∧ gb < W.heap.size ∧ W.cell? ⟨gb, 0, none⟩ = some (.int .u8 (IntKind.u8.wrap (K : Int)))) (fun _ h => h.1) _ _ _ _ ?_
                clear hHeld
                have hHeld := hH2
                clear hH2
                refine' wpAnyH_take (i := 29) (oi := ?ot72z29) (v := ?vt72z29) ?ht72z29 ?st72z29 ?ft72z29 ?zt72z29 ?qt72z29 ?yt72z29 ?at72z29 ?rt72z29
                case ht72z29 => (simp only [List.getElem?_toArray, List.getElem?_cons_succ, List.getElem?_cons_zero]; rfl)
                case st72z29 => kernel_rfl
                case ft72z29 => kernel_rfl
                case zt72z29 => kernel_rfl
                case qt72z29 => exact fun _ _ _ h => h
                case yt72z29 => (refine Or.inl ⟨rfl, ?_⟩; intro w hSw; have hcv := CV.out _ _ hSw.2.2; clear hSw; go_simp; try with_reducible rfl)
                case at72z29 => assumption
                case rt72z29 =>
                simp only [Act.put, List.setIfInBounds_toArray, List.set_cons_zero, List.set_cons_succ]
                refine' wpAnyH_take (i := 30) (oi := ?ot73z30) (v := ?vt73z30) ?ht73z30 ?st73z30 ?ft73z30 ?zt73z30 ?qt73z30 ?yt73z30 ?at73z30 ?rt73z30
                case ht73z30 => (simp only [List.getElem?_toArray, List.getElem?_cons_succ, List.getElem?_cons_zero]; rfl)
                case st73z30 => kernel_rfl
                case ft73z30 => kernel_rfl
                case zt73z30 => kernel_rfl
                case qt73z30 => exact fun _ _ _ h => h
                case yt73z30 => (refine Or.inl ⟨rfl, ?_⟩; intro w hSw; (try dsimp only at hSw); go_simp; try with_reducible rfl)
                case at73z30 => assumption
                case rt73z30 =>
                simp only [Act.put, List.setIfInBounds_toArray, List.set_cons_zero, List.set_cons_succ]
                refine wpAnyH_ready (rs := [25]) (by kernel_rfl) (by simp) ?_
                refine' AllReadyH.cons (o := ?ob74z25) ?hb74z25 ?kb74z25 AllReadyH.nil
                case hb74z25 => (simp only [List.getElem?_toArray, List.getElem?_cons_succ, List.getElem?_cons_zero]; rfl)
                case kb74z25 =>
                  intro K0 hK
                  go_simp
                  go_at_call 15
                  refine (TX.out _).mono ?_
                  rintro eK wq75 ⟨rfl, hX⟩
                  have hH2 : Below w1.heap.size w1 wq75 ∧ gb < wq75.heap.size ∧ wq75.cell? ⟨gb, 0, none⟩ = some (.int .u8 (IntKind.u8.wrap (K : Int))) := ⟨bl hHeld.1 hX, by have := hX.size; have := hHeld.2.1; omega, by rw [(bcell hX).1 _ _ hHeld.2.1]; exact hHeld.2.2⟩
                  clear hX hHeld
                  refine hK.out _ _ ?_ (fun hHeld => ?_)
                  · exact hH2
                  clear hK K0
                  (try simp only [Act.put, List.setIfInBounds_toArray, List.set_cons_zero, List.set_cons_succ])
                  (try clear hH2)
                  refine' wpAnyH_take (i := 31) (oi := ?ot76z31) (v := ?vt76z31) ?ht76z31 ?st76z31 ?ft76z31 ?zt76z31 ?qt76z31 ?yt76z31 ?at76z31 ?rt76z31
                  case ht76z31 => (simp only [List.getElem?_toArray, List.getElem?_cons_succ, List.getElem?_cons_zero]; rfl)
                  case st76z31 => kernel_rfl
                  case ft76z31 => kernel_rfl
                  case zt76z31 => kernel_rfl
                  case qt76z31 => exact fun _ _ _ h => h
                  case yt76z31 => (refine Or.inl ⟨rfl, ?_⟩; intro w hSw; (try dsimp only at hSw); go_simp; try with_reducible rfl)
                  case at76z31 => assumption
                  case rt76z31 =>
                  simp only [Act.put, List.setIfInBounds_toArray, List.set_cons_zero, List.set_cons_succ]
                  refine' wpAnyH_take (i := 32) (oi := ?ot77z32) (v := ?vt77z32) ?ht77z32 ?st77z32 ?ft77z32 ?zt77z32 ?qt77z32 ?yt77z32 ?at77z32 ?rt77z32
                  case ht77z32 => (simp only [List.getElem?_toArray, List.getElem?_cons_succ, List.getElem?_cons_zero]; rfl)
                  case st77z32 => kernel_rfl
                  case ft77z32 => kernel_rfl
                  case zt77z32 => kernel_rfl
                  case qt77z32 => exact fun _ _ _ h => h
                  case yt77z32 => (refine Or.inl ⟨rfl, ?_⟩; intro w hSw; (try dsimp only at hSw); go_simp; try with_reducible rfl)
                  case at77z32 => assumption
                  case rt77z32 =>
                  simp only [Act.put, List.setIfInBounds_toArray, List.set_cons_zero, List.set_cons_succ]
                  refine' wpAnyH_take (i := 33) (oi := ?ot78z33) (v := ?vt78z33) ?ht78z33 ?st78z33 ?ft78z33 ?zt78z33 ?qt78z33 ?yt78z33 ?at78z33 ?rt78z33
                  case ht78z33 => (simp only [List.getElem?_toArray, List.getElem?_cons_succ, List.getElem?_cons_zero]; rfl)
                  case st78z33 => kernel_rfl
                  case ft78z33 => kernel_rfl
                  case zt78z33 => kernel_rfl
                  case qt78z33 => exact fun _ _ _ h => h
                  case yt78z33 => (refine Or.inl ⟨rfl, ?_⟩; intro w hSw; (try dsimp only at hSw); go_simp; try with_reducible rfl)
                  case at78z33 => assumption
                  case rt78z33 =>
                  simp only [Act.put, List.setIfInBounds_toArray, List.set_cons_zero, List.set_cons_succ]
                  refine' wpAnyH_take (i := 34) (oi := ?ot79z34) (v := ?vt79z34) ?ht79z34 ?st79z34 ?ft79z34 ?zt79z34 ?qt79z34 ?yt79z34 ?at79z34 ?rt79z34
                  case ht79z34 => (simp only [List.getElem?_toArray, List.getElem?_cons_succ, List.getElem?_cons_zero]; rfl)
                  case st79z34 => kernel_rfl
                  case ft79z34 => kernel_rfl
                  case zt79z34 => kernel_rfl
                  case qt79z34 => exact fun _ _ _ h => h
                  case yt79z34 => (refine Or.inl ⟨rfl, ?_⟩; intro w hSw; (try dsimp only at hSw); go_simp; try with_reducible rfl)
                  case at79z34 => assumption
                  case rt79z34 =>
                  simp only [Act.put, List.setIfInBounds_toArray, List.set_cons_zero, List.set_cons_succ]
                  refine' wpAnyH_take (i := 35) (oi := ?ot80z35) (v := ?vt80z35) ?ht80z35 ?st80z35 ?ft80z35 ?zt80z35 ?qt80z35 ?yt80z35 ?at80z35 ?rt80z35
                  case ht80z35 => (simp only [List.getElem?_toArray, List.getElem?_cons_succ, List.getElem?_cons_zero]; rfl)
                  case st80z35 => kernel_rfl
                  case ft80z35 => kernel_rfl
                  case zt80z35 => kernel_rfl
                  case qt80z35 => exact fun _ _ _ h => h
                  case yt80z35 => (refine Or.inl ⟨rfl, ?_⟩; intro w hSw; (try dsimp only at hSw); go_simp; try with_reducible rfl)
                  case at80z35 => assumption
                  case rt80z35 =>
                  simp only [Act.put, List.setIfInBounds_toArray, List.set_cons_zero, List.set_cons_succ]
                  refine' wpAnyH_take (i := 37) (oi := ?ot81z37) (v := ?vt81z37) ?ht81z37 ?st81z37 ?ft81z37 ?zt81z37 ?qt81z37 ?yt81z37 ?at81z37 ?rt81z37
                  case ht81z37 => (simp only [List.getElem?_toArray, List.getElem?_cons_succ, List.getElem?_cons_zero]; rfl)
                  case st81z37 => kernel_rfl
                  case ft81z37 => kernel_rfl
                  case zt81z37 => kernel_rfl
                  case qt81z37 => exact fun _ _ _ h => h
                  case yt81z37 => (refine Or.inl ⟨rfl, ?_⟩; intro w hSw; (try dsimp only at hSw); go_simp; try with_reducible rfl)
                  case at81z37 => assumption
                  case rt81z37 =>
                  simp only [Act.put, List.setIfInBounds_toArray, List.set_cons_zero, List.set_cons_succ]
                  refine' wpAnyH_take (i := 41) (oi := ?ot82z41) (v := ?vt82z41) ?ht82z41 ?st82z41 ?ft82z41 ?zt82z41 ?qt82z41 ?yt82z41 ?at82z41 ?rt82z41
                  case ht82z41 => (simp only [List.getElem?_toArray, List.getElem?_cons_succ, List.getElem?_cons_zero]; rfl)
                  case st82z41 => kernel_rfl
                  case ft82z41 => kernel_rfl
                  case zt82z41 => kernel_rfl
                  case qt82z41 => exact fun _ _ _ h => h
                  case yt82z41 => (refine Or.inl ⟨rfl, ?_⟩; intro w hSw; (try dsimp only at hSw); go_simp; try with_reducible rfl)
                  case at82z41 => assumption
                  case rt82z41 =>
                  simp only [Act.put, List.setIfInBounds_toArray, List.set_cons_zero, List.set_cons_succ]
                  refine wpAnyH_ready (rs := [36]) (by kernel_rfl) (by simp) ?_
                  refine' AllReadyH.cons (o := ?ob83z36) ?hb83z36 ?kb83z36 AllReadyH.nil
                  case hb83z36 => (simp only [List.getElem?_toArray, List.getElem?_cons_succ, List.getElem?_cons_zero]; rfl)
                  case kb83z36 =>
                    intro K0 hK
                    go_simp
                    go_at_call 13
                    refine (KX.out _).mono ?_
                    rintro eK wq84 ⟨rfl, hX⟩
                    have hH2 : Below w1.heap.size w1 wq84 ∧ gb < wq84.heap.size ∧ wq84.cell? ⟨gb, 0, none⟩ = some (.int .u8 (IntKind.u8.wrap (K : Int))) := ⟨bl hHeld.1 hX, by have := hX.size; have := hHeld.2.1; omega, by rw [(bcell hX).1 _ _ hHeld.2.1]; exact hHeld.2.2⟩
                    clear hX hHeld
                    refine hK.out _ _ ?_ (fun hHeld => ?_)
                    · exact hH2
                    clear hK K0
                    (try simp only [Act.put, List.setIfInBounds_toArray, List.set_cons_zero, List.set_cons_succ])
                    (try clear hH2)
                    refine wpAnyH_ready (rs := [38]) (by kernel_rfl) (by simp) ?_
                    refine' AllReadyH.cons (o := ?ob85z38) ?hb85z38 ?kb85z38 AllReadyH.nil
                    case hb85z38 => (simp only [List.getElem?_toArray, List.getElem?_cons_succ, List.getElem?_cons_zero]; rfl)
                    case kb85z38 =>
                      intro K0 hK
                      go_simp
                      go_at_call 15
                      refine (TX.out _).mono ?_
                      rintro eK wq86 ⟨rfl, hX⟩
                      have hH2 : Below w1.heap.size w1 wq86 ∧ gb < wq86.heap.size ∧ wq86.cell? ⟨gb, 0, none⟩ = some (.int .u8 (IntKind.u8.wrap (K : Int))) := ⟨bl hHeld.1 hX, by have := hX.size; have := hHeld.2.1; omega, by rw [(bcell hX).1 _ _ hHeld.2.1]; exact hHeld.2.2⟩
                      clear hX hHeld
                      refine hK.out _ _ ?_ (fun hHeld => ?_)
                      · exact hH2
                      clear hK K0
                      (try simp only [Act.put, List.setIfInBounds_toArray, List.set_cons_zero, List.set_cons_succ])
                      (try clear hH2)
                      refine' wpAnyH_take (i := 39) (oi := ?ot87z39) (v := ?vt87z39) ?ht87z39 ?st87z39 ?ft87z39 ?zt87z39 ?qt87z39 ?yt87z39 ?at87z39 ?rt87z39
                      case ht87z39 => (simp only [List.getElem?_toArray, List.getElem?_cons_succ, List.getElem?_cons_zero]; rfl)
                      case st87z39 => kernel_rfl
                      case ft87z39 => kernel_rfl
                      case zt87z39 => kernel_rfl
                      case qt87z39 => exact fun _ _ _ h => h
                      case yt87z39 => (refine Or.inl ⟨rfl, ?_⟩; intro w hSw; clear hSw; have hsl := HSL.out w; go_simp; try with_reducible rfl)
                      case at87z39 => assumption
                      case rt87z39 =>
                      simp only [Act.put, List.setIfInBounds_toArray, List.set_cons_zero, List.set_cons_succ]
                      refine' wpAnyH_take (i := 40) (oi := ?ot88z40) (v := ?vt88z40) ?ht88z40 ?st88z40 ?ft88z40 ?zt88z40 ?qt88z40 ?yt88z40 ?at88z40 ?rt88z40
                      case ht88z40 => (simp only [List.getElem?_toArray, List.getElem?_cons_succ, List.getElem?_cons_zero]; rfl)
                      case st88z40 => kernel_rfl
                      case ft88z40 => kernel_rfl
                      case zt88z40 => kernel_rfl
                      case qt88z40 => exact fun _ _ _ h => h
                      case yt88z40 => (refine Or.inl ⟨rfl, ?_⟩; intro w hSw; (try dsimp only at hSw); go_simp; try with_reducible rfl)
                      case at88z40 => assumption
                      case rt88z40 =>
                      simp only [Act.put, List.setIfInBounds_toArray, List.set_cons_zero, List.set_cons_succ]
                      refine' wpAnyH_take (i := 42) (oi := ?ot89z42) (v := ?vt89z42) ?ht89z42 ?st89z42 ?ft89z42 ?zt89z42 ?qt89z42 ?yt89z42 ?at89z42 ?rt89z42
                      case ht89z42 => (simp only [List.getElem?_toArray, List.getElem?_cons_succ, List.getElem?_cons_zero]; rfl)
                      case st89z42 => kernel_rfl
                      case ft89z42 => kernel_rfl
                      case zt89z42 => kernel_rfl
                      case qt89z42 => exact fun _ _ _ h => h
                      case yt89z42 => (refine Or.inl ⟨rfl, ?_⟩; intro w hSw; (try dsimp only at hSw); go_simp; try with_reducible rfl)
                      case at89z42 => assumption
                      case rt89z42 =>
                      simp only [Act.put, List.setIfInBounds_toArray, List.set_cons_zero, List.set_cons_succ]
                      refine' wpAnyH_take (i := 43) (oi := ?ot90z43) (v := ?vt90z43) ?ht90z43 ?st90z43 ?ft90z43 ?zt90z43 ?qt90z43 ?yt90z43 ?at90z43 ?rt90z43
                      case ht90z43 => (simp only [List.getElem?_toArray, List.getElem?_cons_succ, List.getElem?_cons_zero]; rfl)
                      case st90z43 => kernel_rfl
                      case ft90z43 => kernel_rfl
                      case zt90z43 => kernel_rfl
                      case qt90z43 => exact fun _ _ _ h => h
                      case yt90z43 => (refine Or.inl ⟨rfl, ?_⟩; intro w hSw; (try dsimp only at hSw); go_simp; try with_reducible rfl)
                      case at90z43 => assumption
                      case rt90z43 =>
                      simp only [Act.put, List.setIfInBounds_toArray, List.set_cons_zero, List.set_cons_succ]
                      refine' wpAnyH_take (i := 44) (oi := ?ot91z44) (v := ?vt91z44) ?ht91z44 ?st91z44 ?ft91z44 ?zt91z44 ?qt91z44 ?yt91z44 ?at91z44 ?rt91z44
                      case ht91z44 => (simp only [List.getElem?_toArray, List.getElem?_cons_succ, List.getElem?_cons_zero]; rfl)
                      case st91z44 => kernel_rfl
                      case ft91z44 => kernel_rfl
                      case zt91z44 => kernel_rfl
                      case qt91z44 => exact fun _ _ _ h => h
                      case yt91z44 => (refine Or.inl ⟨rfl, ?_⟩; intro w hSw; (try dsimp only at hSw); go_simp; try with_reducible rfl)
                      case at91z44 => assumption
                      case rt91z44 =>
                      simp only [Act.put, List.setIfInBounds_toArray, List.set_cons_zero, List.set_cons_succ]
                      refine' wpAnyH_take (i := 45) (oi := ?ot92z45) (v := ?vt92z45) ?ht92z45 ?st92z45 ?ft92z45 ?zt92z45 ?qt92z45 ?yt92z45 ?at92z45 ?rt92z45
                      case ht92z45 => (simp only [List.getElem?_toArray, List.getElem?_cons_succ, List.getElem?_cons_zero]; rfl)
                      case st92z45 => kernel_rfl
                      case ft92z45 => kernel_rfl
                      case zt92z45 => kernel_rfl
                      case qt92z45 => exact fun _ _ _ h => h
                      case yt92z45 => (refine Or.inl ⟨rfl, ?_⟩; intro w hSw; (try dsimp only at hSw); go_simp; try with_reducible rfl)
                      case at92z45 => assumption
                      case rt92z45 =>
                      simp only [Act.put, List.setIfInBounds_toArray, List.set_cons_zero, List.set_cons_succ]
                      refine' wpAnyH_take (i := 46) (oi := ?ot93z46) (v := ?vt93z46) ?ht93z46 ?st93z46 ?ft93z46 ?zt93z46 ?qt93z46 ?yt93z46 ?at93z46 ?rt93z46
                      case ht93z46 => (simp only [List.getElem?_toArray, List.getElem?_cons_succ, List.getElem?_cons_zero]; rfl)
                      case st93z46 => kernel_rfl
                      case ft93z46 => kernel_rfl
                      case zt93z46 => kernel_rfl
                      case qt93z46 => exact fun _ _ _ h => h
                      case yt93z46 => (refine Or.inl ⟨rfl, ?_⟩; intro w hSw; (try dsimp only at hSw); go_simp; try with_reducible rfl)
                      case at93z46 => assumption
                      case rt93z46 =>
                      simp only [Act.put, List.setIfInBounds_toArray, List.set_cons_zero, List.set_cons_succ]
                      refine' wpAnyH_take (i := 47) (oi := ?ot94z47) (v := ?vt94z47) ?ht94z47 ?st94z47 ?ft94z47 ?zt94z47 ?qt94z47 ?yt94z47 ?at94z47 ?rt94z47
                      case ht94z47 => (simp only [List.getElem?_toArray, List.getElem?_cons_succ, List.getElem?_cons_zero]; rfl)
                      case st94z47 => kernel_rfl
                      case ft94z47 => kernel_rfl
                      case zt94z47 => kernel_rfl
                      case qt94z47 => exact fun _ _ _ h => h
                      case yt94z47 => (refine Or.inl ⟨rfl, ?_⟩; intro w hSw; (try dsimp only at hSw); go_simp; try with_reducible rfl)
                      case at94z47 => assumption
                      case rt94z47 =>
                      simp only [Act.put, List.setIfInBounds_toArray, List.set_cons_zero, List.set_cons_succ]
                      refine' wpAnyH_take (i := 49) (oi := ?ot95z49) (v := ?vt95z49) ?ht95z49 ?st95z49 ?ft95z49 ?zt95z49 ?qt95z49 ?yt95z49 ?at95z49 ?rt95z49
                      case ht95z49 => (simp only [List.getElem?_toArray, List.getElem?_cons_succ, List.getElem?_cons_zero]; rfl)
                      case st95z49 => kernel_rfl
                      case ft95z49 => kernel_rfl
                      case zt95z49 => kernel_rfl
                      case qt95z49 => exact fun _ _ _ h => h
                      case yt95z49 => (refine Or.inl ⟨rfl, ?_⟩; intro w hSw; (try dsimp only at hSw); go_simp; try with_reducible rfl)
                      case at95z49 => assumption
                      case rt95z49 =>
                      simp only [Act.put, List.setIfInBounds_toArray, List.set_cons_zero, List.set_cons_succ]
                      refine' wpAnyH_take (i := 50) (oi := ?ot96z50) (v := ?vt96z50) ?ht96z50 ?st96z50 ?ft96z50 ?zt96z50 ?qt96z50 ?yt96z50 ?at96z50 ?rt96z50
                      case ht96z50 => (simp only [List.getElem?_toArray, List.getElem?_cons_succ, List.getElem?_cons_zero]; rfl)
                      case st96z50 => kernel_rfl
                      case ft96z50 => kernel_rfl
                      case zt96z50 => kernel_rfl
                      case qt96z50 => exact fun _ _ _ h => h
                      case yt96z50 => (refine Or.inl ⟨rfl, ?_⟩; intro w hSw; (try dsimp only at hSw); go_simp; try with_reducible rfl)
                      case at96z50 => assumption
                      case rt96z50 =>
                      simp only [Act.put, List.setIfInBounds_toArray, List.set_cons_zero, List.set_cons_succ]
                      refine wpAnyH_ready (rs := [48]) (by kernel_rfl) (by simp) ?_
                      refine' AllReadyH.cons (o := ?ob97z48) ?hb97z48 ?kb97z48 AllReadyH.nil
                      case hb97z48 => (simp only [List.getElem?_toArray, List.getElem?_cons_succ, List.getElem?_cons_zero]; rfl)
                      case kb97z48 =>
                        intro K0 hK
                        go_simp
                        go_at_call 14
                        refine (GT.out _).mono ?_
                        rintro eK wq98 ⟨rfl, hX⟩
                        have hH2 : Below w1.heap.size w1 wq98 ∧ gb < wq98.heap.size ∧ wq98.cell? ⟨gb, 0, none⟩ = some (.int .u8 (IntKind.u8.wrap (K : Int))) := ⟨bl hHeld.1 hX, by have := hX.size; have := hHeld.2.1; omega, by rw [(bcell hX).1 _ _ hHeld.2.1]; exact hHeld.2.2⟩
                        clear hX hHeld
                        refine hK.out _ _ ?_ (fun hHeld => ?_)
                        · exact hH2
                        clear hK K0
                        (try simp only [Act.put, List.setIfInBounds_toArray, List.set_cons_zero, List.set_cons_succ])
                        (try clear hH2)
                        refine wpAnyH_ready (rs := [51]) (by kernel_rfl) (by simp) ?_
                        refine' AllReadyH.cons (o := ?ob99z51) ?hb99z51 ?kb99z51 AllReadyH.nil
                        case hb99z51 => (simp only [List.getElem?_toArray, List.getElem?_cons_succ, List.getElem?_cons_zero]; rfl)
                        case kb99z51 =>
                          intro K0 hK
                          go_simp
                          go_at_call 14
                          refine (GX.out _).mono ?_
                          rintro eK wq100 ⟨rfl, hX⟩
                          have hH2 : Below w1.heap.size w1 wq100 ∧ gb < wq100.heap.size ∧ wq100.cell? ⟨gb, 0, none⟩ = some (.int .u8 (IntKind.u8.wrap (K : Int))) := ⟨bl hHeld.1 hX, by have := hX.size; have := hHeld.2.1; omega, by rw [(bcell hX).1 _ _ hHeld.2.1]; exact hHeld.2.2⟩
                          clear hX hHeld
                          refine hK.out _ _ ?_ (fun hHeld => ?_)
                          · exact hH2
                          clear hK K0
                          (try simp only [Act.put, List.setIfInBounds_toArray, List.set_cons_zero, List.set_cons_succ])
                          (try clear hH2)
                          refine' wpAnyH_take (i := 52) (oi := ?ot101z52) (v := ?vt101z52) ?ht101z52 ?st101z52 ?ft101z52 ?zt101z52 ?qt101z52 ?yt101z52 ?at101z52 ?rt101z52
                          case ht101z52 => (simp only [List.getElem?_toArray, List.getElem?_cons_succ, List.getElem?_cons_zero]; rfl)
                          case st101z52 => kernel_rfl
                          case ft101z52 => kernel_rfl
                          case zt101z52 => kernel_rfl
                          case qt101z52 => exact fun _ _ _ h => h
                          case yt101z52 => (refine Or.inl ⟨rfl, ?_⟩; intro w hSw; (try dsimp only at hSw); go_simp; try with_reducible rfl)
                          case at101z52 => assumption
                          case rt101z52 =>
                          simp only [Act.put, List.setIfInBounds_toArray, List.set_cons_zero, List.set_cons_succ]
                          refine' wpAnyH_take (i := 53) (oi := ?ot102z53) (v := ?vt102z53) ?ht102z53 ?st102z53 ?ft102z53 ?zt102z53 ?qt102z53 ?yt102z53 ?at102z53 ?rt102z53
                          case ht102z53 => (simp only [List.getElem?_toArray, List.getElem?_cons_succ, List.getElem?_cons_zero]; rfl)
                          case st102z53 => kernel_rfl
                          case ft102z53 => kernel_rfl
                          case zt102z53 => kernel_rfl
                          case qt102z53 => exact fun _ _ _ h => h
                          case yt102z53 => (refine Or.inl ⟨rfl, ?_⟩; intro w hSw; (try dsimp only at hSw); go_simp; try with_reducible rfl)
                          case at102z53 => assumption
                          case rt102z53 =>
                          simp only [Act.put, List.setIfInBounds_toArray, List.set_cons_zero, List.set_cons_succ]
                          refine' wpAnyH_take (i := 54) (oi := ?ot103z54) (v := ?vt103z54) ?ht103z54 ?st103z54 ?ft103z54 ?zt103z54 ?qt103z54 ?yt103z54 ?at103z54 ?rt103z54
                          case ht103z54 => (simp only [List.getElem?_toArray, List.getElem?_cons_succ, List.getElem?_cons_zero]; rfl)
                          case st103z54 => kernel_rfl
                          case ft103z54 => kernel_rfl
                          case zt103z54 => kernel_rfl
                          case qt103z54 => exact fun _ _ _ h => h
                          case yt103z54 => (refine Or.inl ⟨rfl, ?_⟩; intro w hSw; (try dsimp only at hSw); go_simp; try with_reducible rfl)
                          case at103z54 => assumption
                          case rt103z54 =>
                          simp only [Act.put, List.setIfInBounds_toArray, List.set_cons_zero, List.set_cons_succ]
                          refine wpAnyH_done (by kernel_rfl) ?_ _
                          go_wp2_with fail
                          go_returns
                          exact ⟨rfl, bl B1.out hHeld.1⟩

set_option maxRecDepth 100000 in
set_option maxHeartbeats 16000000 in
theorem names_f (t o : Int) (a b : ByteArray) (K M : Nat) (hK : wrap64 ((IntKind.u64.wrap t).tmod 256) = (K : Int)) (hM : wrap64 ((IntKind.u64.wrap o).tmod 256) = (M : Int)) (ha : ¬ 60 < (a.size : Int)) (hb : ¬ 60 < (b.size : Int)) (kx ky gx gy gt tx ty : ByteArray) (sk : UInt8) (w : World) (ht : Tabs w)
    (KX : Hid (∀ W, Calls Tryd.prog 13 #[.int .i64 (K : Int), .string a] W fun e w' => e = .returned (.string kx) ∧ Below W.heap.size W w'))
    (KY : Hid (∀ W, Calls Tryd.prog 13 #[.int .i64 (M : Int), .string b] W fun e w' => e = .returned (.string ky) ∧ Below W.heap.size W w'))
    (GX : Hid (∀ W, Calls Tryd.prog 14 #[.int .i64 (K : Int), .string a] W fun e w' => e = .returned (.string gx) ∧ Below W.heap.size W w'))
    (GY : Hid (∀ W, Calls Tryd.prog 14 #[.int .i64 (M : Int), .string b] W fun e w' => e = .returned (.string gy) ∧ Below W.heap.size W w'))
    (GT : Hid (∀ W, Calls Tryd.prog 14 #[.int .i64 t, .string a] W fun e w' => e = .returned (.string gt) ∧ Below W.heap.size W w'))
    (TX : Hid (∀ W, Calls Tryd.prog 15 #[.int .i64 (K : Int)] W fun e w' => e = .returned (.string tx) ∧ Below W.heap.size W w'))
    (TY : Hid (∀ W, Calls Tryd.prog 15 #[.int .i64 (M : Int)] W fun e w' => e = .returned (.string ty) ∧ Below W.heap.size W w'))
    (CV : Hid (∀ W g, W.cell? ⟨g, 0, none⟩ = some (.int .u8 (IntKind.u8.wrap (K : Int))) → (convert 37 9 (.slice (some ⟨g, 0, none⟩) 1 1)).run Tryd.prog W = .ok (.string (ofL [sk])) W))
    (HSL : Hid (∀ W, (Instr.slice 9 (.string tx) (some (.int .i64 1)) none none).run Tryd.prog W = .ok (.string (ofL [sk])) W))
    (exy : ((K : Int) == (M : Int)) = false) 
    (e1 : (kx.toList == ky.toList) = false) (e2 : (gx.toList == gy.toList) = false) (e3 : (tx.toList == ty.toList) = false)
    (e4 : (kx.toList == gy.toList) = false) (e5 : (kx.toList == ty.toList) = false) (e6 : (gx.toList == ty.toList) = false)
    (e7 : (tx.toList == (⟨#[116]⟩ ++ ofL [sk] : ByteArray).toList) = true) (e8 : (kx.toList == (⟨#[107]⟩ ++ ofL [sk] ++ a : ByteArray).toList) = true) (e9 : (gt.toList == gx.toList) = true) (hsk : (ofL [sk]).size = 1)
    (hsz : ¬ 9223372036854775807 < 2 + a.size) :
    Calls Tryd.prog 5 #[.int .i64 t, .int .i64 o, .string a, .string b] w fun e w' => e = .returned (.bool true) ∧ Below w.heap.size w w' := by
  have HA := Lib.hid (awake_any w ht)
  clear ht
  go_enter Tryd.func5, Tryd.ntmps5
  go_wp2_with fail
  refine HA.out.mono ?_
  rintro e wa ⟨rfl, hX⟩
  have Ba := Lib.hid hX
  clear hX HA
  go_wp2_with fail
  refine (KX.out _).mono ?_
  rintro e wb ⟨rfl, hX⟩
  have Bb := Lib.hid (bl Ba.out hX)
  clear hX Ba
  go_wp2_with fail
  refine (KY.out _).mono ?_
  rintro e wc ⟨rfl, hX⟩
  have Bc := Lib.hid (bl Bb.out hX)
  clear hX Bb
  go_wp2_with fail
  refine (GX.out _).mono ?_
  rintro e wd ⟨rfl, hX⟩
  have Bd := Lib.hid (bl Bc.out hX)
  clear hX Bc
  go_wp2_with fail
  refine (GY.out _).mono ?_
  rintro e we ⟨rfl, hX⟩
  have Be := Lib.hid (bl Bd.out hX)
  clear hX Bd
  go_wp2_with fail
  refine (TX.out _).mono ?_
  rintro e wf ⟨rfl, hX⟩
  have Bf := Lib.hid (bl Be.out hX)
  clear hX Be
  go_wp2_with fail
  refine (TY.out _).mono ?_
  rintro e w1 ⟨rfl, hX⟩
  have B1 := Lib.hid (bl Bf.out hX)
  clear hX Bf
  go_wp2_with fail
  refine wp_region_held_drew (S := fun W' : World => Below w1.heap.size w1 W') (by kernel_rfl) (by first | exact Below.refl _ _ | exact ⟨rfl, rfl, rfl, Nat.le_refl _, fun _ _ => rfl⟩) (fun hHeld => ?_)
  generalize w1.drew = wd at *
  refine' wpAnyH_take (i := 0) (oi := ?ot1z0) (v := ?vt1z0) ?ht1z0 ?st1z0 ?ft1z0 ?zt1z0 ?qt1z0 ?yt1z0 ?at1z0 ?rt1z0
  case ht1z0 => (simp only [List.getElem?_toArray, List.getElem?_cons_succ, List.getElem?_cons_zero]; rfl)
  case st1z0 => kernel_rfl
  case ft1z0 => kernel_rfl
  case zt1z0 => kernel_rfl
  case qt1z0 => exact fun _ _ _ h => h
  case yt1z0 => (refine Or.inl ⟨rfl, ?_⟩; intro w hSw; (try dsimp only at hSw); go_simp; try with_reducible rfl)
  case at1z0 => assumption
  case rt1z0 =>
  simp only [Act.put, List.setIfInBounds_toArray, List.set_cons_zero, List.set_cons_succ]
  refine' wpAnyH_take (i := 1) (oi := ?ot2z1) (v := ?vt2z1) ?ht2z1 ?st2z1 ?ft2z1 ?zt2z1 ?qt2z1 ?yt2z1 ?at2z1 ?rt2z1
  case ht2z1 => (simp only [List.getElem?_toArray, List.getElem?_cons_succ, List.getElem?_cons_zero]; rfl)
  case st2z1 => kernel_rfl
  case ft2z1 => kernel_rfl
  case zt2z1 => kernel_rfl
  case qt2z1 => exact fun _ _ _ h => h
  case yt2z1 => (refine Or.inl ⟨rfl, ?_⟩; intro w hSw; (try dsimp only at hSw); go_simp; try with_reducible rfl)
  case at2z1 => assumption
  case rt2z1 =>
  simp only [Act.put, List.setIfInBounds_toArray, List.set_cons_zero, List.set_cons_succ]
  refine' wpAnyH_take (i := 3) (oi := ?ot3z3) (v := ?vt3z3) ?ht3z3 ?st3z3 ?ft3z3 ?zt3z3 ?qt3z3 ?yt3z3 ?at3z3 ?rt3z3
  case ht3z3 => (simp only [List.getElem?_toArray, List.getElem?_cons_succ, List.getElem?_cons_zero]; rfl)
  case st3z3 => kernel_rfl
  case ft3z3 => kernel_rfl
  case zt3z3 => kernel_rfl
  case qt3z3 => exact fun _ _ _ h => h
  case yt3z3 => (refine Or.inl ⟨rfl, ?_⟩; intro w hSw; (try dsimp only at hSw); go_simp; try with_reducible rfl)
  case at3z3 => assumption
  case rt3z3 =>
  simp only [Act.put, List.setIfInBounds_toArray, List.set_cons_zero, List.set_cons_succ]
  refine' wpAnyH_take (i := 4) (oi := ?ot4z4) (v := ?vt4z4) ?ht4z4 ?st4z4 ?ft4z4 ?zt4z4 ?qt4z4 ?yt4z4 ?at4z4 ?rt4z4
  case ht4z4 => (simp only [List.getElem?_toArray, List.getElem?_cons_succ, List.getElem?_cons_zero]; rfl)
  case st4z4 => kernel_rfl
  case ft4z4 => kernel_rfl
  case zt4z4 => kernel_rfl
  case qt4z4 => exact fun _ _ _ h => h
  case yt4z4 => (refine Or.inl ⟨rfl, ?_⟩; intro w hSw; (try dsimp only at hSw); go_simp; try with_reducible rfl)
  case at4z4 => assumption
  case rt4z4 =>
  simp only [Act.put, List.setIfInBounds_toArray, List.set_cons_zero, List.set_cons_succ]
  refine wpAnyH_ready (rs := [2]) (by kernel_rfl) (by simp) ?_
  refine' AllReadyH.cons (o := ?ob5z2) ?hb5z2 ?kb5z2 AllReadyH.nil
  case hb5z2 => (simp only [List.getElem?_toArray, List.getElem?_cons_succ, List.getElem?_cons_zero]; rfl)
  case kb5z2 =>
    intro K0 hK
    go_simp
    go_at_call 13
    refine (KX.out _).mono ?_
    rintro eK wq6 ⟨rfl, hX⟩
    have hH2 := bl hHeld hX
    clear hX hHeld
    refine hK.out _ _ ?_ (fun hHeld => ?_)
    · exact hH2
    clear hK K0
    (try simp only [Act.put, List.setIfInBounds_toArray, List.set_cons_zero, List.set_cons_succ])
    (try clear hH2)
    refine wpAnyH_ready (rs := [5]) (by kernel_rfl) (by simp) ?_
    refine' AllReadyH.cons (o := ?ob7z5) ?hb7z5 ?kb7z5 AllReadyH.nil
    case hb7z5 => (simp only [List.getElem?_toArray, List.getElem?_cons_succ, List.getElem?_cons_zero]; rfl)
    case kb7z5 =>
      intro K0 hK
      go_simp
      go_at_call 14
      refine (GY.out _).mono ?_
      rintro eK wq8 ⟨rfl, hX⟩
      have hH2 := bl hHeld hX
      clear hX hHeld
      refine hK.out _ _ ?_ (fun hHeld => ?_)
      · exact hH2
      clear hK K0
      (try simp only [Act.put, List.setIfInBounds_toArray, List.set_cons_zero, List.set_cons_succ])
      (try clear hH2)
      refine' wpAnyH_take (i := 6) (oi := ?ot9z6) (v := ?vt9z6) ?ht9z6 ?st9z6 ?ft9z6 ?zt9z6 ?qt9z6 ?yt9z6 ?at9z6 ?rt9z6
      case ht9z6 => (simp only [List.getElem?_toArray, List.getElem?_cons_succ, List.getElem?_cons_zero]; rfl)
      case st9z6 => kernel_rfl
      case ft9z6 => kernel_rfl
      case zt9z6 => kernel_rfl
      case qt9z6 => exact fun _ _ _ h => h
      case yt9z6 => (refine Or.inl ⟨rfl, ?_⟩; intro w hSw; (try dsimp only at hSw); go_simp; try with_reducible rfl)
      case at9z6 => assumption
      case rt9z6 =>
      simp only [Act.put, List.setIfInBounds_toArray, List.set_cons_zero, List.set_cons_succ]
      refine' wpAnyH_take (i := 7) (oi := ?ot10z7) (v := ?vt10z7) ?ht10z7 ?st10z7 ?ft10z7 ?zt10z7 ?qt10z7 ?yt10z7 ?at10z7 ?rt10z7
      case ht10z7 => (simp only [List.getElem?_toArray, List.getElem?_cons_succ, List.getElem?_cons_zero]; rfl)
      case st10z7 => kernel_rfl
      case ft10z7 => kernel_rfl
      case zt10z7 => kernel_rfl
      case qt10z7 => exact fun _ _ _ h => h
      case yt10z7 => (refine Or.inl ⟨rfl, ?_⟩; intro w hSw; (try dsimp only at hSw); go_simp; try with_reducible rfl)
      case at10z7 => assumption
      case rt10z7 =>
      simp only [Act.put, List.setIfInBounds_toArray, List.set_cons_zero, List.set_cons_succ]
      refine' wpAnyH_take (i := 8) (oi := ?ot11z8) (v := ?vt11z8) ?ht11z8 ?st11z8 ?ft11z8 ?zt11z8 ?qt11z8 ?yt11z8 ?at11z8 ?rt11z8
      case ht11z8 => (simp only [List.getElem?_toArray, List.getElem?_cons_succ, List.getElem?_cons_zero]; rfl)
      case st11z8 => kernel_rfl
      case ft11z8 => kernel_rfl
      case zt11z8 => kernel_rfl
      case qt11z8 => exact fun _ _ _ h => h
      case yt11z8 => (refine Or.inl ⟨rfl, ?_⟩; intro w hSw; (try dsimp only at hSw); go_simp; try with_reducible rfl)
      case at11z8 => assumption
      case rt11z8 =>
      simp only [Act.put, List.setIfInBounds_toArray, List.set_cons_zero, List.set_cons_succ]
      refine' wpAnyH_take (i := 9) (oi := ?ot12z9) (v := ?vt12z9) ?ht12z9 ?st12z9 ?ft12z9 ?zt12z9 ?qt12z9 ?yt12z9 ?at12z9 ?rt12z9
      case ht12z9 => (simp only [List.getElem?_toArray, List.getElem?_cons_succ, List.getElem?_cons_zero]; rfl)
      case st12z9 => kernel_rfl
      case ft12z9 => kernel_rfl
      case zt12z9 => kernel_rfl
      case qt12z9 => exact fun _ _ _ h => h
      case yt12z9 => (refine Or.inl ⟨rfl, ?_⟩; intro w hSw; (try dsimp only at hSw); go_simp; try with_reducible rfl)
      case at12z9 => assumption
      case rt12z9 =>
      simp only [Act.put, List.setIfInBounds_toArray, List.set_cons_zero, List.set_cons_succ]
      refine' wpAnyH_take (i := 11) (oi := ?ot13z11) (v := ?vt13z11) ?ht13z11 ?st13z11 ?ft13z11 ?zt13z11 ?qt13z11 ?yt13z11 ?at13z11 ?rt13z11
      case ht13z11 => (simp only [List.getElem?_toArray, List.getElem?_cons_succ, List.getElem?_cons_zero]; rfl)
      case st13z11 => kernel_rfl
      case ft13z11 => kernel_rfl
      case zt13z11 => kernel_rfl
      case qt13z11 => exact fun _ _ _ h => h
      case yt13z11 => (refine Or.inl ⟨rfl, ?_⟩; intro w hSw; (try dsimp only at hSw); go_simp; try with_reducible rfl)
      case at13z11 => assumption
      case rt13z11 =>
      simp only [Act.put, List.setIfInBounds_toArray, List.set_cons_zero, List.set_cons_succ]
      refine wpAnyH_ready (rs := [10]) (by kernel_rfl) (by simp) ?_
      refine' AllReadyH.cons (o := ?ob14z10) ?hb14z10 ?kb14z10 AllReadyH.nil
      case hb14z10 => (simp only [List.getElem?_toArray, List.getElem?_cons_succ, List.getElem?_cons_zero]; rfl)
      case kb14z10 =>
        intro K0 hK
        go_simp
        go_at_call 13
        refine (KX.out _).mono ?_
        rintro eK wq15 ⟨rfl, hX⟩
        have hH2 := bl hHeld hX
        clear hX hHeld
        refine hK.out _ _ ?_ (fun hHeld => ?_)
        · exact hH2
        clear hK K0
        (try simp only [Act.put, List.setIfInBounds_toArray, List.set_cons_zero, List.set_cons_succ])
        (try clear hH2)
        refine wpAnyH_ready (rs := [12]) (by kernel_rfl) (by simp) ?_
        refine' AllReadyH.cons (o := ?ob16z12) ?hb16z12 ?kb16z12 AllReadyH.nil
        case hb16z12 => (simp only [List.getElem?_toArray, List.getElem?_cons_succ, List.getElem?_cons_zero]; rfl)
        case kb16z12 =>
          intro K0 hK
          go_simp
          go_at_call 15
          refine (TY.out _).mono ?_
          rintro eK wq17 ⟨rfl, hX⟩
          have hH2 := bl hHeld hX
          clear hX hHeld
          refine hK.out _ _ ?_ (fun hHeld => ?_)
          · exact hH2
          clear hK K0
          (try simp only [Act.put, List.setIfInBounds_toArray, List.set_cons_zero, List.set_cons_succ])
          (try clear hH2)
          refine' wpAnyH_take (i := 13) (oi := ?ot18z13) (v := ?vt18z13) ?ht18z13 ?st18z13 ?ft18z13 ?zt18z13 ?qt18z13 ?yt18z13 ?at18z13 ?rt18z13
          case ht18z13 => (simp only [List.getElem?_toArray, List.getElem?_cons_succ, List.getElem?_cons_zero]; rfl)
          case st18z13 => kernel_rfl
          case ft18z13 => kernel_rfl
          case zt18z13 => kernel_rfl
          case qt18z13 => exact fun _ _ _ h => h
          case yt18z13 => (refine Or.inl ⟨rfl, ?_⟩; intro w hSw; (try dsimp only at hSw); go_simp; try with_reducible rfl)
          case at18z13 => assumption
          case rt18z13 =>
          simp only [Act.put, List.setIfInBounds_toArray, List.set_cons_zero, List.set_cons_succ]
          refine' wpAnyH_take (i := 14) (oi := ?ot19z14) (v := ?vt19z14) ?ht19z14 ?st19z14 ?ft19z14 ?zt19z14 ?qt19z14 ?yt19z14 ?at19z14 ?rt19z14
          case ht19z14 => (simp only [List.getElem?_toArray, List.getElem?_cons_succ, List.getElem?_cons_zero]; rfl)
          case st19z14 => kernel_rfl
          case ft19z14 => kernel_rfl
          case zt19z14 => kernel_rfl
          case qt19z14 => exact fun _ _ _ h => h
          case yt19z14 => (refine Or.inl ⟨rfl, ?_⟩; intro w hSw; (try dsimp only at hSw); go_simp; try with_reducible rfl)
          case at19z14 => assumption
          case rt19z14 =>
          simp only [Act.put, List.setIfInBounds_toArray, List.set_cons_zero, List.set_cons_succ]
          refine' wpAnyH_take (i := 15) (oi := ?ot20z15) (v := ?vt20z15) ?ht20z15 ?st20z15 ?ft20z15 ?zt20z15 ?qt20z15 ?yt20z15 ?at20z15 ?rt20z15
          case ht20z15 => (simp only [List.getElem?_toArray, List.getElem?_cons_succ, List.getElem?_cons_zero]; rfl)
          case st20z15 => kernel_rfl
          case ft20z15 => kernel_rfl
          case zt20z15 => kernel_rfl
          case qt20z15 => exact fun _ _ _ h => h
          case yt20z15 => (refine Or.inl ⟨rfl, ?_⟩; intro w hSw; (try dsimp only at hSw); go_simp; try with_reducible rfl)
          case at20z15 => assumption
          case rt20z15 =>
          simp only [Act.put, List.setIfInBounds_toArray, List.set_cons_zero, List.set_cons_succ]
          refine' wpAnyH_take (i := 16) (oi := ?ot21z16) (v := ?vt21z16) ?ht21z16 ?st21z16 ?ft21z16 ?zt21z16 ?qt21z16 ?yt21z16 ?at21z16 ?rt21z16
          case ht21z16 => (simp only [List.getElem?_toArray, List.getElem?_cons_succ, List.getElem?_cons_zero]; rfl)
          case st21z16 => kernel_rfl
          case ft21z16 => kernel_rfl
          case zt21z16 => kernel_rfl
          case qt21z16 => exact fun _ _ _ h => h
          case yt21z16 => (refine Or.inl ⟨rfl, ?_⟩; intro w hSw; (try dsimp only at hSw); go_simp; try with_reducible rfl)
          case at21z16 => assumption
          case rt21z16 =>
          simp only [Act.put, List.setIfInBounds_toArray, List.set_cons_zero, List.set_cons_succ]
          refine' wpAnyH_take (i := 17) (oi := ?ot22z17) (v := ?vt22z17) ?ht22z17 ?st22z17 ?ft22z17 ?zt22z17 ?qt22z17 ?yt22z17 ?at22z17 ?rt22z17
          case ht22z17 => (simp only [List.getElem?_toArray, List.getElem?_cons_succ, List.getElem?_cons_zero]; rfl)
          case st22z17 => kernel_rfl
          case ft22z17 => kernel_rfl
          case zt22z17 => kernel_rfl
          case qt22z17 => exact fun _ _ _ h => h
          case yt22z17 => (refine Or.inl ⟨rfl, ?_⟩; intro w hSw; (try dsimp only at hSw); go_simp; try with_reducible rfl)
          case at22z17 => assumption
          case rt22z17 =>
          simp only [Act.put, List.setIfInBounds_toArray, List.set_cons_zero, List.set_cons_succ]
          refine' wpAnyH_take (i := 19) (oi := ?ot23z19) (v := ?vt23z19) ?ht23z19 ?st23z19 ?ft23z19 ?zt23z19 ?qt23z19 ?yt23z19 ?at23z19 ?rt23z19
          case ht23z19 => (simp only [List.getElem?_toArray, List.getElem?_cons_succ, List.getElem?_cons_zero]; rfl)
          case st23z19 => kernel_rfl
          case ft23z19 => kernel_rfl
          case zt23z19 => kernel_rfl
          case qt23z19 => exact fun _ _ _ h => h
          case yt23z19 => (refine Or.inl ⟨rfl, ?_⟩; intro w hSw; (try dsimp only at hSw); go_simp; try with_reducible rfl)
          case at23z19 => assumption
          case rt23z19 =>
          simp only [Act.put, List.setIfInBounds_toArray, List.set_cons_zero, List.set_cons_succ]
          refine wpAnyH_ready (rs := [18]) (by kernel_rfl) (by simp) ?_
          refine' AllReadyH.cons (o := ?ob24z18) ?hb24z18 ?kb24z18 AllReadyH.nil
          case hb24z18 => (simp only [List.getElem?_toArray, List.getElem?_cons_succ, List.getElem?_cons_zero]; rfl)
          case kb24z18 =>
            intro K0 hK
            go_simp
            go_at_call 14
            refine (GX.out _).mono ?_
            rintro eK wq25 ⟨rfl, hX⟩
            have hH2 := bl hHeld hX
            clear hX hHeld
            refine hK.out _ _ ?_ (fun hHeld => ?_)
            · exact hH2
            clear hK K0
            (try simp only [Act.put, List.setIfInBounds_toArray, List.set_cons_zero, List.set_cons_succ])
            (try clear hH2)
            refine wpAnyH_ready (rs := [20]) (by kernel_rfl) (by simp) ?_
            refine' AllReadyH.cons (o := ?ob26z20) ?hb26z20 ?kb26z20 AllReadyH.nil
            case hb26z20 => (simp only [List.getElem?_toArray, List.getElem?_cons_succ, List.getElem?_cons_zero]; rfl)
            case kb26z20 =>
              intro K0 hK
              go_simp
              go_at_call 15
              refine (TY.out _).mono ?_
              rintro eK wq27 ⟨rfl, hX⟩
              have hH2 := bl hHeld hX
              clear hX hHeld
              refine hK.out _ _ ?_ (fun hHeld => ?_)
              · exact hH2
              clear hK K0
              (try simp only [Act.put, List.setIfInBounds_toArray, List.set_cons_zero, List.set_cons_succ])
              (try clear hH2)
              refine' wpAnyH_take (i := 21) (oi := ?ot28z21) (v := ?vt28z21) ?ht28z21 ?st28z21 ?ft28z21 ?zt28z21 ?qt28z21 ?yt28z21 ?at28z21 ?rt28z21
              case ht28z21 => (simp only [List.getElem?_toArray, List.getElem?_cons_succ, List.getElem?_cons_zero]; rfl)
              case st28z21 => kernel_rfl
              case ft28z21 => kernel_rfl
              case zt28z21 => kernel_rfl
              case qt28z21 => exact fun _ _ _ h => h
              case yt28z21 => (refine Or.inl ⟨rfl, ?_⟩; intro w hSw; (try dsimp only at hSw); go_simp; try with_reducible rfl)
              case at28z21 => assumption
              case rt28z21 =>
              simp only [Act.put, List.setIfInBounds_toArray, List.set_cons_zero, List.set_cons_succ]
              refine' wpAnyH_take (i := 22) (oi := ?ot29z22) (v := ?vt29z22) ?ht29z22 ?st29z22 ?ft29z22 ?zt29z22 ?qt29z22 ?yt29z22 ?at29z22 ?rt29z22
              case ht29z22 => (simp only [List.getElem?_toArray, List.getElem?_cons_succ, List.getElem?_cons_zero]; rfl)
              case st29z22 => kernel_rfl
              case ft29z22 => kernel_rfl
              case zt29z22 => kernel_rfl
              case qt29z22 => exact fun _ _ _ h => h
              case yt29z22 => (refine Or.inl ⟨rfl, ?_⟩; intro w hSw; (try dsimp only at hSw); go_simp; try with_reducible rfl)
              case at29z22 => assumption
              case rt29z22 =>
              simp only [Act.put, List.setIfInBounds_toArray, List.set_cons_zero, List.set_cons_succ]
              refine' wpAnyH_take (i := 23) (oi := ?ot30z23) (v := ?vt30z23) ?ht30z23 ?st30z23 ?ft30z23 ?zt30z23 ?qt30z23 ?yt30z23 ?at30z23 ?rt30z23
              case ht30z23 => (simp only [List.getElem?_toArray, List.getElem?_cons_succ, List.getElem?_cons_zero]; rfl)
              case st30z23 => kernel_rfl
              case ft30z23 => kernel_rfl
              case zt30z23 => kernel_rfl
              case qt30z23 => exact fun _ _ _ h => h
              case yt30z23 => (refine Or.inl ⟨rfl, ?_⟩; intro w hSw; (try dsimp only at hSw); go_simp; try with_reducible rfl)
              case at30z23 => assumption
              case rt30z23 =>
              simp only [Act.put, List.setIfInBounds_toArray, List.set_cons_zero, List.set_cons_succ]
              refine' wpAnyH_take (i := 24) (oi := ?ot31z24) (v := ?vt31z24) ?ht31z24 ?st31z24 ?ft31z24 ?zt31z24 ?qt31z24 ?yt31z24 ?at31z24 ?rt31z24
              case ht31z24 => (simp only [List.getElem?_toArray, List.getElem?_cons_succ, List.getElem?_cons_zero]; rfl)
              case st31z24 => kernel_rfl
              case ft31z24 => kernel_rfl
              case zt31z24 => kernel_rfl
              case qt31z24 => exact fun _ _ _ h => h
              case yt31z24 => (refine Or.inl ⟨rfl, ?_⟩; intro w hSw; (try dsimp only at hSw); go_simp; try with_reducible rfl)
              case at31z24 => assumption
              case rt31z24 =>
              simp only [Act.put, List.setIfInBounds_toArray, List.set_cons_zero, List.set_cons_succ]
              refine' wpAnyH_take (i := 26) (oi := ?ot32z26) (v := ?vt32z26) ?ht32z26 ?st32z26 ?ft32z26 ?zt32z26 ?qt32z26 ?yt32z26 ?at32z26 ?rt32z26
              case ht32z26 => (simp only [List.getElem?_toArray, List.getElem?_cons_succ, List.getElem?_cons_zero]; rfl)
              case st32z26 => kernel_rfl
              case ft32z26 => kernel_rfl
              case zt32z26 => kernel_rfl
              case qt32z26 => exact fun _ _ _ h => h
              case yt32z26 => (refine Or.inl ⟨rfl, ?_⟩; intro w hSw; (try dsimp only at hSw); go_simp; try with_reducible rfl)
              case at32z26 => assumption
              case rt32z26 =>
              simp only [Act.put, List.setIfInBounds_toArray, List.set_cons_zero, List.set_cons_succ]
              refine' wpAnyH_take (i := 27) (oi := ?ot33z27) (v := ?vt33z27) ?ht33z27 ?st33z27 ?ft33z27 ?zt33z27 ?qt33z27 ?yt33z27 ?at33z27 ?rt33z27
              case ht33z27 => (simp only [List.getElem?_toArray, List.getElem?_cons_succ, List.getElem?_cons_zero]; rfl)
              case st33z27 => kernel_rfl
              case ft33z27 => kernel_rfl
              case zt33z27 => kernel_rfl
              case qt33z27 => exact fun _ _ _ h => h
              case yt33z27 => (refine Or.inl ⟨rfl, ?_⟩; intro w hSw; (try dsimp only at hSw); go_simp; try with_reducible rfl)
              case at33z27 => assumption
              case rt33z27 =>
              simp only [Act.put, List.setIfInBounds_toArray, List.set_cons_zero, List.set_cons_succ]
              refine wpAnyH_ready (rs := [25, 28]) (by kernel_rfl) (by simp) ?_
              refine' AllReadyH.cons (o := ?ob34z25) ?hb34z25 ?kb34z25 ?mb34z25
              case hb34z25 => (simp only [List.getElem?_toArray, List.getElem?_cons_succ, List.getElem?_cons_zero]; rfl)
              case kb34z25 =>
                intro K0 hK
                go_simp
                go_at_call 15
                refine (TX.out _).mono ?_
                rintro eK wq35 ⟨rfl, hX⟩
                have hH2 := bl hHeld hX
                clear hX hHeld
                refine hK.out _ _ ?_ (fun hHeld => ?_)
                · exact hH2
                clear hK K0
                (try simp only [Act.put, List.setIfInBounds_toArray, List.set_cons_zero, List.set_cons_succ])
                (try clear hH2)
                refine wpAnyH_ready (rs := [28]) (by kernel_rfl) (by simp) ?_
                refine' AllReadyH.cons (o := ?ob36z28) ?hb36z28 ?kb36z28 AllReadyH.nil
                case hb36z28 => (simp only [List.getElem?_toArray, List.getElem?_cons_succ, List.getElem?_cons_zero]; rfl)
                case kb36z28 =>
                  intro K0 hK
                  go_simp
                  obtain ⟨gb, hgz⟩ : ∃ g, g = wq35.heap.size := ⟨_, rfl⟩
                  have hH2 : Below w1.heap.size w1 (wq35.alloc (.cells #[.int .u8 (IntKind.u8.wrap (K : Int))] 5)) ∧ gb < (wq35.alloc (.cells #[.int .u8 (IntKind.u8.wrap (K : Int))] 5)).heap.size ∧ (wq35.alloc (.cells #[.int .u8 (IntKind.u8.wrap (K : Int))] 5)).cell? ⟨gb, 0, none⟩ = some (.int .u8 (IntKind.u8.wrap (K : Int))) := ⟨blA hHeld _, by rw [hgz, World.size_alloc]; omega, by rw [hgz]; exact (Blk.new _ _ _).cell 0⟩
                  rw [← hgz]
                  clear hgz hHeld
                  generalize World.alloc wq35 _ = wq37 at *
                  refine hK.out _ _ ?_ (fun hHeld => ?_)
                  · exact hH2.1
                  clear hK K0
                  (try simp only [Act.put, List.setIfInBounds_toArray, List.set_cons_zero, List.set_cons_succ])
                  refine wpAnyH_weak (S := fun W => Below w1.heap.size w1 W ∧ gb < W.heap.size ∧ W.cell? ⟨gb, 0, none⟩ = some (.int .u8 (IntKind.u8.wrap (K : Int)))) (fun _ h => h.1) _ _ _ _ ?_
                  clear hHeld
                  have hHeld := hH2
                  clear hH2
                  refine' wpAnyH_take (i := 29) (oi := ?ot39z29) (v := ?vt39z29) ?ht39z29 ?st39z29 ?ft39z29 ?zt39z29 ?qt39z29 ?yt39z29 ?at39z29 ?rt39z29
                  case ht39z29 => (simp only [List.getElem?_toArray, List.getElem?_cons_succ, List.getElem?_cons_zero]; rfl)
                  case st39z29 => kernel_rfl
                  case ft39z29 => kernel_rfl
                  case zt39z29 => kernel_rfl
                  case qt39z29 => exact fun _ _ _ h => h
                  case yt39z29 => (refine Or.inl ⟨rfl, ?_⟩; intro w hSw; have hcv := CV.out _ _ hSw.2.2; clear hSw; go_simp; try with_reducible rfl)
                  case at39z29 => assumption
                  case rt39z29 =>
                  simp only [Act.put, List.setIfInBounds_toArray, List.set_cons_zero, List.set_cons_succ]
                  refine' wpAnyH_take (i := 30) (oi := ?ot40z30) (v := ?vt40z30) ?ht40z30 ?st40z30 ?ft40z30 ?zt40z30 ?qt40z30 ?yt40z30 ?at40z30 ?rt40z30
                  case ht40z30 => (simp only [List.getElem?_toArray, List.getElem?_cons_succ, List.getElem?_cons_zero]; rfl)
                  case st40z30 => kernel_rfl
                  case ft40z30 => kernel_rfl
                  case zt40z30 => kernel_rfl
                  case qt40z30 => exact fun _ _ _ h => h
                  case yt40z30 => (refine Or.inl ⟨rfl, ?_⟩; intro w hSw; (try dsimp only at hSw); go_simp; try with_reducible rfl)
                  case at40z30 => assumption
                  case rt40z30 =>
                  simp only [Act.put, List.setIfInBounds_toArray, List.set_cons_zero, List.set_cons_succ]
                  refine' wpAnyH_take (i := 31) (oi := ?ot41z31) (v := ?vt41z31) ?ht41z31 ?st41z31 ?ft41z31 ?zt41z31 ?qt41z31 ?yt41z31 ?at41z31 ?rt41z31
                  case ht41z31 => (simp only [List.getElem?_toArray, List.getElem?_cons_succ, List.getElem?_cons_zero]; rfl)
                  case st41z31 => kernel_rfl
                  case ft41z31 => kernel_rfl
                  case zt41z31 => kernel_rfl
                  case qt41z31 => exact fun _ _ _ h => h
                  case yt41z31 => (refine Or.inl ⟨rfl, ?_⟩; intro w hSw; (try dsimp only at hSw); go_simp; try with_reducible rfl)
                  case at41z31 => assumption
                  case rt41z31 =>
                  simp only [Act.put, List.setIfInBounds_toArray, List.set_cons_zero, List.set_cons_succ]
                  refine' wpAnyH_take (i := 32) (oi := ?ot42z32) (v := ?vt42z32) ?ht42z32 ?st42z32 ?ft42z32 ?zt42z32 ?qt42z32 ?yt42z32 ?at42z32 ?rt42z32
                  case ht42z32 => (simp only [List.getElem?_toArray, List.getElem?_cons_succ, List.getElem?_cons_zero]; rfl)
                  case st42z32 => kernel_rfl
                  case ft42z32 => kernel_rfl
                  case zt42z32 => kernel_rfl
                  case qt42z32 => exact fun _ _ _ h => h
                  case yt42z32 => (refine Or.inl ⟨rfl, ?_⟩; intro w hSw; (try dsimp only at hSw); go_simp; try with_reducible rfl)
                  case at42z32 => assumption
                  case rt42z32 =>
                  simp only [Act.put, List.setIfInBounds_toArray, List.set_cons_zero, List.set_cons_succ]
                  refine' wpAnyH_take (i := 33) (oi := ?ot43z33) (v := ?vt43z33) ?ht43z33 ?st43z33 ?ft43z33 ?zt43z33 ?qt43z33 ?yt43z33 ?at43z33 ?rt43z33
                  case ht43z33 => (simp only [List.getElem?_toArray, List.getElem?_cons_succ, List.getElem?_cons_zero]; rfl)
                  case st43z33 => kernel_rfl
                  case ft43z33 => kernel_rfl
                  case zt43z33 => kernel_rfl
                  case qt43z33 => exact fun _ _ _ h => h
                  case yt43z33 => (refine Or.inl ⟨rfl, ?_⟩; intro w hSw; (try dsimp only at hSw); go_simp; try with_reducible rfl)
                  case at43z33 => assumption
                  case rt43z33 =>
                  simp only [Act.put, List.setIfInBounds_toArray, List.set_cons_zero, List.set_cons_succ]
                  refine' wpAnyH_take (i := 34) (oi := ?ot44z34) (v := ?vt44z34) ?ht44z34 ?st44z34 ?ft44z34 ?zt44z34 ?qt44z34 ?yt44z34 ?at44z34 ?rt44z34
                  case ht44z34 => (simp only [List.getElem?_toArray, List.getElem?_cons_succ, List.getElem?_cons_zero]; rfl)
                  case st44z34 => kernel_rfl
                  case ft44z34 => kernel_rfl
                  case zt44z34 => kernel_rfl
                  case qt44z34 => exact fun _ _ _ h => h
                  case yt44z34 => (refine Or.inl ⟨rfl, ?_⟩; intro w hSw; (try dsimp only at hSw); go_simp; try with_reducible rfl)
                  case at44z34 => assumption
                  case rt44z34 =>
                  simp only [Act.put, List.setIfInBounds_toArray, List.set_cons_zero, List.set_cons_succ]
                  refine' wpAnyH_take (i := 35) (oi := ?ot45z35) (v := ?vt45z35) ?ht45z35 ?st45z35 ?ft45z35 ?zt45z35 ?qt45z35 ?yt45z35 ?at45z35 ?rt45z35
                  case ht45z35 => (simp only [List.getElem?_toArray, List.getElem?_cons_succ, List.getElem?_cons_zero]; rfl)
                  case st45z35 => kernel_rfl
                  case ft45z35 => kernel_rfl
                  case zt45z35 => kernel_rfl
                  case qt45z35 => exact fun _ _ _ h => h
                  case yt45z35 => (refine Or.inl ⟨rfl, ?_⟩; intro w hSw; (try dsimp only at hSw); go_simp; try with_reducible rfl)
                  case at45z35 => assumption
                  case rt45z35 =>
                  simp only [Act.put, List.setIfInBounds_toArray, List.set_cons_zero, List.set_cons_succ]
                  refine' wpAnyH_take (i := 37) (oi := ?ot46z37) (v := ?vt46z37) ?ht46z37 ?st46z37 ?ft46z37 ?zt46z37 ?qt46z37 ?yt46z37 ?at46z37 ?rt46z37
                  case ht46z37 => (simp only [List.getElem?_toArray, List.getElem?_cons_succ, List.getElem?_cons_zero]; rfl)
                  case st46z37 => kernel_rfl
                  case ft46z37 => kernel_rfl
                  case zt46z37 => kernel_rfl
                  case qt46z37 => exact fun _ _ _ h => h
                  case yt46z37 => (refine Or.inl ⟨rfl, ?_⟩; intro w hSw; (try dsimp only at hSw); go_simp; try with_reducible rfl)
                  case at46z37 => assumption
                  case rt46z37 =>
                  simp only [Act.put, List.setIfInBounds_toArray, List.set_cons_zero, List.set_cons_succ]
                  refine' wpAnyH_take (i := 41) (oi := ?ot47z41) (v := ?vt47z41) ?ht47z41 ?st47z41 ?ft47z41 ?zt47z41 ?qt47z41 ?yt47z41 ?at47z41 ?rt47z41
                  case ht47z41 => (simp only [List.getElem?_toArray, List.getElem?_cons_succ, List.getElem?_cons_zero]; rfl)
                  case st47z41 => kernel_rfl
                  case ft47z41 => kernel_rfl
                  case zt47z41 => kernel_rfl
                  case qt47z41 => exact fun _ _ _ h => h
                  case yt47z41 => (refine Or.inl ⟨rfl, ?_⟩; intro w hSw; (try dsimp only at hSw); go_simp; try with_reducible rfl)
                  case at47z41 => assumption
                  case rt47z41 =>
                  simp only [Act.put, List.setIfInBounds_toArray, List.set_cons_zero, List.set_cons_succ]
                  refine wpAnyH_ready (rs := [36]) (by kernel_rfl) (by simp) ?_
                  refine' AllReadyH.cons (o := ?ob48z36) ?hb48z36 ?kb48z36 AllReadyH.nil
                  case hb48z36 => (simp only [List.getElem?_toArray, List.getElem?_cons_succ, List.getElem?_cons_zero]; rfl)
                  case kb48z36 =>
                    intro K0 hK
                    go_simp
                    go_at_call 13
                    refine (KX.out _).mono ?_
                    rintro eK wq49 ⟨rfl, hX⟩
                    have hH2 : Below w1.heap.size w1 wq49 ∧ gb < wq49.heap.size ∧ wq49.cell? ⟨gb, 0, none⟩ = some (.int .u8 (IntKind.u8.wrap (K : Int))) := ⟨bl hHeld.1 hX, by have := hX.size; have := hHeld.2.1; omega, by rw [(bcell hX).1 _ _ hHeld.2.1]; exact hHeld.2.2⟩
                    clear hX hHeld
                    refine hK.out _ _ ?_ (fun hHeld => ?_)
                    · exact hH2
                    clear hK K0
                    (try simp only [Act.put, List.setIfInBounds_toArray, List.set_cons_zero, List.set_cons_succ])
                    (try clear hH2)
                    refine wpAnyH_ready (rs := [38]) (by kernel_rfl) (by simp) ?_
                    refine' AllReadyH.cons (o := ?ob50z38) ?hb50z38 ?kb50z38 AllReadyH.nil
                    case hb50z38 => (simp only [List.getElem?_toArray, List.getElem?_cons_succ, List.getElem?_cons_zero]; rfl)
                    case kb50z38 =>
                      intro K0 hK
                      go_simp
                      go_at_call 15
                      refine (TX.out _).mono ?_
                      rintro eK wq51 ⟨rfl, hX⟩
                      have hH2 : Below w1.heap.size w1 wq51 ∧ gb < wq51.heap.size ∧ wq51.cell? ⟨gb, 0, none⟩ = some (.int .u8 (IntKind.u8.wrap (K : Int))) := ⟨bl hHeld.1 hX, by have := hX.size; have := hHeld.2.1; omega, by rw [(bcell hX).1 _ _ hHeld.2.1]; exact hHeld.2.2⟩
                      clear hX hHeld
                      refine hK.out _ _ ?_ (fun hHeld => ?_)
                      · exact hH2
                      clear hK K0
                      (try simp only [Act.put, List.setIfInBounds_toArray, List.set_cons_zero, List.set_cons_succ])
                      (try clear hH2)
                      refine' wpAnyH_take (i := 39) (oi := ?ot52z39) (v := ?vt52z39) ?ht52z39 ?st52z39 ?ft52z39 ?zt52z39 ?qt52z39 ?yt52z39 ?at52z39 ?rt52z39
                      case ht52z39 => (simp only [List.getElem?_toArray, List.getElem?_cons_succ, List.getElem?_cons_zero]; rfl)
                      case st52z39 => kernel_rfl
                      case ft52z39 => kernel_rfl
                      case zt52z39 => kernel_rfl
                      case qt52z39 => exact fun _ _ _ h => h
                      case yt52z39 => (refine Or.inl ⟨rfl, ?_⟩; intro w hSw; clear hSw; have hsl := HSL.out w; go_simp; try with_reducible rfl)
                      case at52z39 => assumption
                      case rt52z39 =>
                      simp only [Act.put, List.setIfInBounds_toArray, List.set_cons_zero, List.set_cons_succ]
                      refine' wpAnyH_take (i := 40) (oi := ?ot53z40) (v := ?vt53z40) ?ht53z40 ?st53z40 ?ft53z40 ?zt53z40 ?qt53z40 ?yt53z40 ?at53z40 ?rt53z40
                      case ht53z40 => (simp only [List.getElem?_toArray, List.getElem?_cons_succ, List.getElem?_cons_zero]; rfl)
                      case st53z40 => kernel_rfl
                      case ft53z40 => kernel_rfl
                      case zt53z40 => kernel_rfl
                      case qt53z40 => exact fun _ _ _ h => h
                      case yt53z40 => (refine Or.inl ⟨rfl, ?_⟩; intro w hSw; (try dsimp only at hSw); go_simp; try with_reducible rfl)
                      case at53z40 => assumption
                      case rt53z40 =>
                      simp only [Act.put, List.setIfInBounds_toArray, List.set_cons_zero, List.set_cons_succ]
                      refine' wpAnyH_take (i := 42) (oi := ?ot54z42) (v := ?vt54z42) ?ht54z42 ?st54z42 ?ft54z42 ?zt54z42 ?qt54z42 ?yt54z42 ?at54z42 ?rt54z42
                      case ht54z42 => (simp only [List.getElem?_toArray, List.getElem?_cons_succ, List.getElem?_cons_zero]; rfl)
                      case st54z42 => kernel_rfl
                      case ft54z42 => kernel_rfl
                      case zt54z42 => kernel_rfl
                      case qt54z42 => exact fun _ _ _ h => h
                      case yt54z42 => (refine Or.inl ⟨rfl, ?_⟩; intro w hSw; (try dsimp only at hSw); go_simp; try with_reducible rfl)
                      case at54z42 => assumption
                      case rt54z42 =>
                      simp only [Act.put, List.setIfInBounds_toArray, List.set_cons_zero, List.set_cons_succ]
                      refine' wpAnyH_take (i := 43) (oi := ?ot55z43) (v := ?vt55z43) ?ht55z43 ?st55z43 ?ft55z43 ?zt55z43 ?qt55z43 ?yt55z43 ?at55z43 ?rt55z43
                      case ht55z43 => (simp only [List.getElem?_toArray, List.getElem?_cons_succ, List.getElem?_cons_zero]; rfl)
                      case st55z43 => kernel_rfl
                      case ft55z43 => kernel_rfl
                      case zt55z43 => kernel_rfl
                      case qt55z43 => exact fun _ _ _ h => h
                      case yt55z43 => (refine Or.inl ⟨rfl, ?_⟩; intro w hSw; (try dsimp only at hSw); go_simp; try with_reducible rfl)
                      case at55z43 => assumption
                      case rt55z43 =>
                      simp only [Act.put, List.setIfInBounds_toArray, List.set_cons_zero, List.set_cons_succ]
                      refine' wpAnyH_take (i := 44) (oi := ?ot56z44) (v := ?vt56z44) ?ht56z44 ?st56z44 ?ft56z44 ?zt56z44 ?qt56z44 ?yt56z44 ?at56z44 ?rt56z44
                      case ht56z44 => (simp only [List.getElem?_toArray, List.getElem?_cons_succ, List.getElem?_cons_zero]; rfl)
                      case st56z44 => kernel_rfl
                      case ft56z44 => kernel_rfl
                      case zt56z44 => kernel_rfl
                      case qt56z44 => exact fun _ _ _ h => h
                      case yt56z44 => (refine Or.inl ⟨rfl, ?_⟩; intro w hSw; (try dsimp only at hSw); go_simp; try with_reducible rfl)
                      case at56z44 => assumption
                      case rt56z44 =>
                      simp only [Act.put, List.setIfInBounds_toArray, List.set_cons_zero, List.set_cons_succ]
                      refine' wpAnyH_take (i := 45) (oi := ?ot57z45) (v := ?vt57z45) ?ht57z45 ?st57z45 ?ft57z45 ?zt57z45 ?qt57z45 ?yt57z45 ?at57z45 ?rt57z45
                      case ht57z45 => (simp only [List.getElem?_toArray, List.getElem?_cons_succ, List.getElem?_cons_zero]; rfl)
                      case st57z45 => kernel_rfl
                      case ft57z45 => kernel_rfl
                      case zt57z45 => kernel_rfl
                      case qt57z45 => exact fun _ _ _ h => h
                      case yt57z45 => (refine Or.inl ⟨rfl, ?_⟩; intro w hSw; (try dsimp only at hSw); go_simp; try with_reducible rfl)
                      case at57z45 => assumption
                      case rt57z45 =>
                      simp only [Act.put, List.setIfInBounds_toArray, List.set_cons_zero, List.set_cons_succ]
                      refine' wpAnyH_take (i := 46) (oi := ?ot58z46) (v := ?vt58z46) ?ht58z46 ?st58z46 ?ft58z46 ?zt58z46 ?qt58z46 ?yt58z46 ?at58z46 ?rt58z46
                      case ht58z46 => (simp only [List.getElem?_toArray, List.getElem?_cons_succ, List.getElem?_cons_zero]; rfl)
                      case st58z46 => kernel_rfl
                      case ft58z46 => kernel_rfl
                      case zt58z46 => kernel_rfl
                      case qt58z46 => exact fun _ _ _ h => h
                      case yt58z46 => (refine Or.inl ⟨rfl, ?_⟩; intro w hSw; (try dsimp only at hSw); go_simp; try with_reducible rfl)
                      case at58z46 => assumption
                      case rt58z46 =>
                      simp only [Act.put, List.setIfInBounds_toArray, List.set_cons_zero, List.set_cons_succ]
                      refine' wpAnyH_take (i := 47) (oi := ?ot59z47) (v := ?vt59z47) ?ht59z47 ?st59z47 ?ft59z47 ?zt59z47 ?qt59z47 ?yt59z47 ?at59z47 ?rt59z47
                      case ht59z47 => (simp only [List.getElem?_toArray, List.getElem?_cons_succ, List.getElem?_cons_zero]; rfl)
                      case st59z47 => kernel_rfl
                      case ft59z47 => kernel_rfl
                      case zt59z47 => kernel_rfl
                      case qt59z47 => exact fun _ _ _ h => h
                      case yt59z47 => (refine Or.inl ⟨rfl, ?_⟩; intro w hSw; (try dsimp only at hSw); go_simp; try with_reducible rfl)
                      case at59z47 => assumption
                      case rt59z47 =>
                      simp only [Act.put, List.setIfInBounds_toArray, List.set_cons_zero, List.set_cons_succ]
                      refine' wpAnyH_take (i := 49) (oi := ?ot60z49) (v := ?vt60z49) ?ht60z49 ?st60z49 ?ft60z49 ?zt60z49 ?qt60z49 ?yt60z49 ?at60z49 ?rt60z49
                      case ht60z49 => (simp only [List.getElem?_toArray, List.getElem?_cons_succ, List.getElem?_cons_zero]; rfl)
                      case st60z49 => kernel_rfl
                      case ft60z49 => kernel_rfl
                      case zt60z49 => kernel_rfl
                      case qt60z49 => exact fun _ _ _ h => h
                      case yt60z49 => (refine Or.inl ⟨rfl, ?_⟩; intro w hSw; (try dsimp only at hSw); go_simp; try with_reducible rfl)
                      case at60z49 => assumption
                      case rt60z49 =>
                      simp only [Act.put, List.setIfInBounds_toArray, List.set_cons_zero, List.set_cons_succ]
                      refine' wpAnyH_take (i := 50) (oi := ?ot61z50) (v := ?vt61z50) ?ht61z50 ?st61z50 ?ft61z50 ?zt61z50 ?qt61z50 ?yt61z50 ?at61z50 ?rt61z50
                      case ht61z50 => (simp only [List.getElem?_toArray, List.getElem?_cons_succ, List.getElem?_cons_zero]; rfl)
                      case st61z50 => kernel_rfl
                      case ft61z50 => kernel_rfl
                      case zt61z50 => kernel_rfl
                      case qt61z50 => exact fun _ _ _ h => h
                      case yt61z50 => (refine Or.inl ⟨rfl, ?_⟩; intro w hSw; (try dsimp only at hSw); go_simp; try with_reducible rfl)
                      case at61z50 => assumption
                      case rt61z50 =>
                      simp only [Act.put, List.setIfInBounds_toArray, List.set_cons_zero, List.set_cons_succ]
                      refine wpAnyH_ready (rs := [48]) (by kernel_rfl) (by simp) ?_
                      refine' AllReadyH.cons (o := ?ob62z48) ?hb62z48 ?kb62z48 AllReadyH.nil
                      case hb62z48 => (simp only [List.getElem?_toArray, List.getElem?_cons_succ, List.getElem?_cons_zero]; rfl)
                      case kb62z48 =>
                        intro K0 hK
                        go_simp
                        go_at_call 14
                        refine (GT.out _).mono ?_
                        rintro eK wq63 ⟨rfl, hX⟩
                        have hH2 : Below w1.heap.size w1 wq63 ∧ gb < wq63.heap.size ∧ wq63.cell? ⟨gb, 0, none⟩ = some (.int .u8 (IntKind.u8.wrap (K : Int))) := ⟨bl hHeld.1 hX, by have := hX.size; have := hHeld.2.1; omega, by rw [(bcell hX).1 _ _ hHeld.2.1]; exact hHeld.2.2⟩
                        clear hX hHeld
                        refine hK.out _ _ ?_ (fun hHeld => ?_)
                        · exact hH2
                        clear hK K0
                        (try simp only [Act.put, List.setIfInBounds_toArray, List.set_cons_zero, List.set_cons_succ])
                        (try clear hH2)
                        refine wpAnyH_ready (rs := [51]) (by kernel_rfl) (by simp) ?_
                        refine' AllReadyH.cons (o := ?ob64z51) ?hb64z51 ?kb64z51 AllReadyH.nil
                        case hb64z51 => (simp only [List.getElem?_toArray, List.getElem?_cons_succ, List.getElem?_cons_zero]; rfl)
                        case kb64z51 =>
                          intro K0 hK
                          go_simp
                          go_at_call 14
                          refine (GX.out _).mono ?_
                          rintro eK wq65 ⟨rfl, hX⟩
                          have hH2 : Below w1.heap.size w1 wq65 ∧ gb < wq65.heap.size ∧ wq65.cell? ⟨gb, 0, none⟩ = some (.int .u8 (IntKind.u8.wrap (K : Int))) := ⟨bl hHeld.1 hX, by have := hX.size; have := hHeld.2.1; omega, by rw [(bcell hX).1 _ _ hHeld.2.1]; exact hHeld.2.2⟩
                          clear hX hHeld
                          refine hK.out _ _ ?_ (fun hHeld => ?_)
                          · exact hH2
                          clear hK K0
                          (try simp only [Act.put, List.setIfInBounds_toArray, List.set_cons_zero, List.set_cons_succ])
                          (try clear hH2)
                          refine' wpAnyH_take (i := 52) (oi := ?ot66z52) (v := ?vt66z52) ?ht66z52 ?st66z52 ?ft66z52 ?zt66z52 ?qt66z52 ?yt66z52 ?at66z52 ?rt66z52
                          case ht66z52 => (simp only [List.getElem?_toArray, List.getElem?_cons_succ, List.getElem?_cons_zero]; rfl)
                          case st66z52 => kernel_rfl
                          case ft66z52 => kernel_rfl
                          case zt66z52 => kernel_rfl
                          case qt66z52 => exact fun _ _ _ h => h
                          case yt66z52 => (refine Or.inl ⟨rfl, ?_⟩; intro w hSw; (try dsimp only at hSw); go_simp; try with_reducible rfl)
                          case at66z52 => assumption
                          case rt66z52 =>
                          simp only [Act.put, List.setIfInBounds_toArray, List.set_cons_zero, List.set_cons_succ]
                          refine' wpAnyH_take (i := 53) (oi := ?ot67z53) (v := ?vt67z53) ?ht67z53 ?st67z53 ?ft67z53 ?zt67z53 ?qt67z53 ?yt67z53 ?at67z53 ?rt67z53
                          case ht67z53 => (simp only [List.getElem?_toArray, List.getElem?_cons_succ, List.getElem?_cons_zero]; rfl)
                          case st67z53 => kernel_rfl
                          case ft67z53 => kernel_rfl
                          case zt67z53 => kernel_rfl
                          case qt67z53 => exact fun _ _ _ h => h
                          case yt67z53 => (refine Or.inl ⟨rfl, ?_⟩; intro w hSw; (try dsimp only at hSw); go_simp; try with_reducible rfl)
                          case at67z53 => assumption
                          case rt67z53 =>
                          simp only [Act.put, List.setIfInBounds_toArray, List.set_cons_zero, List.set_cons_succ]
                          refine' wpAnyH_take (i := 54) (oi := ?ot68z54) (v := ?vt68z54) ?ht68z54 ?st68z54 ?ft68z54 ?zt68z54 ?qt68z54 ?yt68z54 ?at68z54 ?rt68z54
                          case ht68z54 => (simp only [List.getElem?_toArray, List.getElem?_cons_succ, List.getElem?_cons_zero]; rfl)
                          case st68z54 => kernel_rfl
                          case ft68z54 => kernel_rfl
                          case zt68z54 => kernel_rfl
                          case qt68z54 => exact fun _ _ _ h => h
                          case yt68z54 => (refine Or.inl ⟨rfl, ?_⟩; intro w hSw; (try dsimp only at hSw); go_simp; try with_reducible rfl)
                          case at68z54 => assumption
                          case rt68z54 =>
                          simp only [Act.put, List.setIfInBounds_toArray, List.set_cons_zero, List.set_cons_succ]
                          refine wpAnyH_done (by kernel_rfl) ?_ _
                          go_wp2_with fail
                          go_returns
                          exact ⟨rfl, bl B1.out hHeld.1⟩
              case mb34z25 =>
              refine' AllReadyH.cons (o := ?ob69z28) ?hb69z28 ?kb69z28 AllReadyH.nil
              case hb69z28 => (simp only [List.getElem?_toArray, List.getElem?_cons_succ, List.getElem?_cons_zero]; rfl)
              case kb69z28 =>
                intro K0 hK
                go_simp
                obtain ⟨gb, hgz⟩ : ∃ g, g = wq27.heap.size := ⟨_, rfl⟩
                have hH2 : Below w1.heap.size w1 (wq27.alloc (.cells #[.int .u8 (IntKind.u8.wrap (K : Int))] 5)) ∧ gb < (wq27.alloc (.cells #[.int .u8 (IntKind.u8.wrap (K : Int))] 5)).heap.size ∧ (wq27.alloc (.cells #[.int .u8 (IntKind.u8.wrap (K : Int))] 5)).cell? ⟨gb, 0, none⟩ = some (.int .u8 (IntKind.u8.wrap (K : Int))) := ⟨blA hHeld _, by rw [hgz, World.size_alloc]; omega, by rw [hgz]; exact (Blk.new _ _ _).cell 0⟩
                rw [← hgz]
                clear hgz hHeld
                generalize World.alloc wq27 _ = wq70 at *
                refine hK.out _ _ ?_ (fun hHeld => ?_)
                · exact hH2.1
                clear hK K0
                (try simp only [Act.put, List.setIfInBounds_toArray, List.set_cons_zero, List.set_cons_succ])
                refine wpAnyH_weak (S := fun W => Below w1.heap.size w1 W ∧ gb < W.heap.size ∧ W.cell? ⟨gb, 0, none⟩ = some (.int .u8 (IntKind.u8.wrap (K : Int)))) (fun _ h => h.1) _ _ _ _ ?_
                clear hHeld
                have hHeld := hH2
                clear hH2
                refine' wpAnyH_take (i := 29) (oi := ?ot72z29) (v := ?vt72z29) ?ht72z29 ?st72z29 ?ft72z29 ?zt72z29 ?qt72z29 ?yt72z29 ?at72z29 ?rt72z29
                case ht72z29 => (simp only [List.getElem?_toArray, List.getElem?_cons_succ, List.getElem?_cons_zero]; rfl)
                case st72z29 => kernel_rfl
                case ft72z29 => kernel_rfl
                case zt72z29 => kernel_rfl
                case qt72z29 => exact fun _ _ _ h => h
                case yt72z29 => (refine Or.inl ⟨rfl, ?_⟩; intro w hSw; have hcv := CV.out _ _ hSw.2.2; clear hSw; go_simp; try with_reducible rfl)
                case at72z29 => assumption
                case rt72z29 =>
                simp only [Act.put, List.setIfInBounds_toArray, List.set_cons_zero, List.set_cons_succ]
                refine' wpAnyH_take (i := 30) (oi := ?ot73z30) (v := ?vt73z30) ?ht73z30 ?st73z30 ?ft73z30 ?zt73z30 ?qt73z30 ?yt73z30 ?at73z30 ?rt73z30
                case ht73z30 => (simp only [List.getElem?_toArray, List.getElem?_cons_succ, List.getElem?_cons_zero]; rfl)
                case st73z30 => kernel_rfl
                case ft73z30 => kernel_rfl
                case zt73z30 => kernel_rfl
                case qt73z30 => exact fun _ _ _ h => h
                case yt73z30 => (refine Or.inl ⟨rfl, ?_⟩; intro w hSw; (try dsimp only at hSw); go_simp; try with_reducible rfl)
                case at73z30 => assumption
                case rt73z30 =>
                simp only [Act.put, List.setIfInBounds_toArray, List.set_cons_zero, List.set_cons_succ]
                refine wpAnyH_ready (rs := [25]) (by kernel_rfl) (by simp) ?_
                refine' AllReadyH.cons (o := ?ob74z25) ?hb74z25 ?kb74z25 AllReadyH.nil
                case hb74z25 => (simp only [List.getElem?_toArray, List.getElem?_cons_succ, List.getElem?_cons_zero]; rfl)
                case kb74z25 =>
                  intro K0 hK
                  go_simp
                  go_at_call 15
                  refine (TX.out _).mono ?_
                  rintro eK wq75 ⟨rfl, hX⟩
                  have hH2 : Below w1.heap.size w1 wq75 ∧ gb < wq75.heap.size ∧ wq75.cell? ⟨gb, 0, none⟩ = some (.int .u8 (IntKind.u8.wrap (K : Int))) := ⟨bl hHeld.1 hX, by have := hX.size; have := hHeld.2.1; omega, by rw [(bcell hX).1 _ _ hHeld.2.1]; exact hHeld.2.2⟩
                  clear hX hHeld
                  refine hK.out _ _ ?_ (fun hHeld => ?_)
                  · exact hH2
                  clear hK K0
                  (try simp only [Act.put, List.setIfInBounds_toArray, List.set_cons_zero, List.set_cons_succ])
                  (try clear hH2)
                  refine' wpAnyH_take (i := 31) (oi := ?ot76z31) (v := ?vt76z31) ?ht76z31 ?st76z31 ?ft76z31 ?zt76z31 ?qt76z31 ?yt76z31 ?at76z31 ?rt76z31
                  case ht76z31 => (simp only [List.getElem?_toArray, List.getElem?_cons_succ, List.getElem?_cons_zero]; rfl)
                  case st76z31 => kernel_rfl
                  case ft76z31 => kernel_rfl
                  case zt76z31 => kernel_rfl
                  case qt76z31 => exact fun _ _ _ h => h
                  case yt76z31 => (refine Or.inl ⟨rfl, ?_⟩; intro w hSw; (try dsimp only at hSw); go_simp; try with_reducible rfl)
                  case at76z31 => assumption
                  case rt76z31 =>
                  simp only [Act.put, List.setIfInBounds_toArray, List.set_cons_zero, List.set_cons_succ]
                  refine' wpAnyH_take (i := 32) (oi := ?ot77z32) (v := ?vt77z32) ?ht77z32 ?st77z32 ?ft77z32 ?zt77z32 ?qt77z32 ?yt77z32 ?at77z32 ?rt77z32
                  case ht77z32 => (simp only [List.getElem?_toArray, List.getElem?_cons_succ, List.getElem?_cons_zero]; rfl)
                  case st77z32 => kernel_rfl
                  case ft77z32 => kernel_rfl
                  case zt77z32 => kernel_rfl
                  case qt77z32 => exact fun _ _ _ h => h
                  case yt77z32 => (refine Or.inl ⟨rfl, ?_⟩; intro w hSw; (try dsimp only at hSw); go_simp; try with_reducible rfl)
                  case at77z32 => assumption
                  case rt77z32 =>
                  simp only [Act.put, List.setIfInBounds_toArray, List.set_cons_zero, List.set_cons_succ]
                  refine' wpAnyH_take (i := 33) (oi := ?ot78z33) (v := ?vt78z33) ?ht78z33 ?st78z33 ?ft78z33 ?zt78z33 ?qt78z33 ?yt78z33 ?at78z33 ?rt78z33
                  case ht78z33 => (simp only [List.getElem?_toArray, List.getElem?_cons_succ, List.getElem?_cons_zero]; rfl)
                  case st78z33 => kernel_rfl
                  case ft78z33 => kernel_rfl
                  case zt78z33 => kernel_rfl
                  case qt78z33 => exact fun _ _ _ h => h
                  case yt78z33 => (refine Or.inl ⟨rfl, ?_⟩; intro w hSw; (try dsimp only at hSw); go_simp; try with_reducible rfl)
                  case at78z33 => assumption
                  case rt78z33 =>
                  simp only [Act.put, List.setIfInBounds_toArray, List.set_cons_zero, List.set_cons_succ]
                  refine' wpAnyH_take (i := 34) (oi := ?ot79z34) (v := ?vt79z34) ?ht79z34 ?st79z34 ?ft79z34 ?zt79z34 ?qt79z34 ?yt79z34 ?at79z34 ?rt79z34
                  case ht79z34 => (simp only [List.getElem?_toArray, List.getElem?_cons_succ, List.getElem?_cons_zero]; rfl)
                  case st79z34 => kernel_rfl
                  case ft79z34 => kernel_rfl
                  case zt79z34 => kernel_rfl
                  case qt79z34 => exact fun _ _ _ h => h
                  case yt79z34 => (refine Or.inl ⟨rfl, ?_⟩; intro w hSw; (try dsimp only at hSw); go_simp; try with_reducible rfl)
                  case at79z34 => assumption
                  case rt79z34 =>
                  simp only [Act.put, List.setIfInBounds_toArray, List.set_cons_zero, List.set_cons_succ]
                  refine' wpAnyH_take (i := 35) (oi := ?ot80z35) (v := ?vt80z35) ?ht80z35 ?st80z35 ?ft80z35 ?zt80z35 ?qt80z35 ?yt80z35 ?at80z35 ?rt80z35
                  case ht80z35 => (simp only [List.getElem?_toArray, List.getElem?_cons_succ, List.getElem?_cons_zero]; rfl)
                  case st80z35 => kernel_rfl
                  case ft80z35 => kernel_rfl
                  case zt80z35 => kernel_rfl
                  case qt80z35 => exact fun _ _ _ h => h
                  case yt80z35 => (refine Or.inl ⟨rfl, ?_⟩; intro w hSw; (try dsimp only at hSw); go_simp; try with_reducible rfl)
                  case at80z35 => assumption
                  case rt80z35 =>
                  simp only [Act.put, List.setIfInBounds_toArray, List.set_cons_zero, List.set_cons_succ]
                  refine' wpAnyH_take (i := 37) (oi := ?ot81z37) (v := ?vt81z37) ?ht81z37 ?st81z37 ?ft81z37 ?zt81z37 ?qt81z37 ?yt81z37 ?at81z37 ?rt81z37
                  case ht81z37 => (simp only [List.getElem?_toArray, List.getElem?_cons_succ, List.getElem?_cons_zero]; rfl)
                  case st81z37 => kernel_rfl
                  case ft81z37 => kernel_rfl
                  case zt81z37 => kernel_rfl
                  case qt81z37 => exact fun _ _ _ h => h
                  case yt81z37 => (refine Or.inl ⟨rfl, ?_⟩; intro w hSw; (try dsimp only at hSw); go_simp; try with_reducible rfl)
                  case at81z37 => assumption
                  case rt81z37 =>
                  simp only [Act.put, List.setIfInBounds_toArray, List.set_cons_zero, List.set_cons_succ]
                  refine' wpAnyH_take (i := 41) (oi := ?ot82z41) (v := ?vt82z41) ?ht82z41 ?st82z41 ?ft82z41 ?zt82z41 ?qt82z41 ?yt82z41 ?at82z41 ?rt82z41
                  case ht82z41 => (simp only [List.getElem?_toArray, List.getElem?_cons_succ, List.getElem?_cons_zero]; rfl)
                  case st82z41 => kernel_rfl
                  case ft82z41 => kernel_rfl
                  case zt82z41 => kernel_rfl
                  case qt82z41 => exact fun _ _ _ h => h
                  case yt82z41 => (refine Or.inl ⟨rfl, ?_⟩; intro w hSw; (try dsimp only at hSw); go_simp; try with_reducible rfl)
                  case at82z41 => assumption
                  case rt82z41 =>
                  simp only [Act.put, List.setIfInBounds_toArray, List.set_cons_zero, List.set_cons_succ]
                  refine wpAnyH_ready (rs := [36]) (by kernel_rfl) (by simp) ?_
                  refine' AllReadyH.cons (o := ?ob83z36) ?hb83z36 ?kb83z36 AllReadyH.nil
                  case hb83z36 => (simp only [List.getElem?_toArray, List.getElem?_cons_succ, List.getElem?_cons_zero]; rfl)
                  case kb83z36 =>
                    intro K0 hK
                    go_simp
                    go_at_call 13
                    refine (KX.out _).mono ?_
                    rintro eK wq84 ⟨rfl, hX⟩
                    have hH2 : Below w1.heap.size w1 wq84 ∧ gb < wq84.heap.size ∧ wq84.cell? ⟨gb, 0, none⟩ = some (.int .u8 (IntKind.u8.wrap (K : Int))) := ⟨bl hHeld.1 hX, by have := hX.size; have := hHeld.2.1; omega, by rw [(bcell hX).1 _ _ hHeld.2.1]; exact hHeld.2.2⟩
                    clear hX hHeld
                    refine hK.out _ _ ?_ (fun hHeld => ?_)
                    · exact hH2
                    clear hK K0
                    (try simp only [Act.put, List.setIfInBounds_toArray, List.set_cons_zero, List.set_cons_succ])
                    (try clear hH2)
                    refine wpAnyH_ready (rs := [38]) (by kernel_rfl) (by simp) ?_
                    refine' AllReadyH.cons (o := ?ob85z38) ?hb85z38 ?kb85z38 AllReadyH.nil
                    case hb85z38 => (simp only [List.getElem?_toArray, List.getElem?_cons_succ, List.getElem?_cons_zero]; rfl)
                    case kb85z38 =>
                      intro K0 hK
                      go_simp
                      go_at_call 15
                      refine (TX.out _).mono ?_
                      rintro eK wq86 ⟨rfl, hX⟩
                      have hH2 : Below w1.heap.size w1 wq86 ∧ gb < wq86.heap.size ∧ wq86.cell? ⟨gb, 0, none⟩ = some (.int .u8 (IntKind.u8.wrap (K : Int))) := ⟨bl hHeld.1 hX, by have := hX.size; have := hHeld.2.1; omega, by rw [(bcell hX).1 _ _ hHeld.2.1]; exact hHeld.2.2⟩
                      clear hX hHeld
                      refine hK.out _ _ ?_ (fun hHeld => ?_)
                      · exact hH2
                      clear hK K0
                      (try simp only [Act.put, List.setIfInBounds_toArray, List.set_cons_zero, List.set_cons_succ])
                      (try clear hH2)
                      refine' wpAnyH_take (i := 39) (oi := ?ot87z39) (v := ?vt87z39) ?ht87z39 ?st87z39 ?ft87z39 ?zt87z39 ?qt87z39 ?yt87z39 ?at87z39 ?rt87z39
                      case ht87z39 => (simp only [List.getElem?_toArray, List.getElem?_cons_succ, List.getElem?_cons_zero]; rfl)
                      case st87z39 => kernel_rfl
                      case ft87z39 => kernel_rfl
                      case zt87z39 => kernel_rfl
                      case qt87z39 => exact fun _ _ _ h => h
                      case yt87z39 => (refine Or.inl ⟨rfl, ?_⟩; intro w hSw; clear hSw; have hsl := HSL.out w; go_simp; try with_reducible rfl)
                      case at87z39 => assumption
                      case rt87z39 =>
                      simp only [Act.put, List.setIfInBounds_toArray, List.set_cons_zero, List.set_cons_succ]
                      refine' wpAnyH_take (i := 40) (oi := ?ot88z40) (v := ?vt88z40) ?ht88z40 ?st88z40 ?ft88z40 ?zt88z40 ?qt88z40 ?yt88z40 ?at88z40 ?rt88z40
                      case ht88z40 => (simp only [List.getElem?_toArray, List.getElem?_cons_succ, List.getElem?_cons_zero]; rfl)
                      case st88z40 => kernel_rfl
                      case ft88z40 => kernel_rfl
                      case zt88z40 => kernel_rfl
                      case qt88z40 => exact fun _ _ _ h => h
                      case yt88z40 => (refine Or.inl ⟨rfl, ?_⟩; intro w hSw; (try dsimp only at hSw); go_simp; try with_reducible rfl)
                      case at88z40 => assumption
                      case rt88z40 =>
                      simp only [Act.put, List.setIfInBounds_toArray, List.set_cons_zero, List.set_cons_succ]
                      refine' wpAnyH_take (i := 42) (oi := ?ot89z42) (v := ?vt89z42) ?ht89z42 ?st89z42 ?ft89z42 ?zt89z42 ?qt89z42 ?yt89z42 ?at89z42 ?rt89z42
                      case ht89z42 => (simp only [List.getElem?_toArray, List.getElem?_cons_succ, List.getElem?_cons_zero]; rfl)
                      case st89z42 => kernel_rfl
                      case ft89z42 => kernel_rfl
                      case zt89z42 => kernel_rfl
                      case qt89z42 => exact fun _ _ _ h => h
                      case yt89z42 => (refine Or.inl ⟨rfl, ?_⟩; intro w hSw; (try dsimp only at hSw); go_simp; try with_reducible rfl)
                      case at89z42 => assumption
                      case rt89z42 =>
                      simp only [Act.put, List.setIfInBounds_toArray, List.set_cons_zero, List.set_cons_succ]
                      refine' wpAnyH_take (i := 43) (oi := ?ot90z43) (v := ?vt90z43) ?ht90z43 ?st90z43 ?ft90z43 ?zt90z43 ?qt90z43 ?yt90z43 ?at90z43 ?rt90z43
                      case ht90z43 => (simp only [List.getElem?_toArray, List.getElem?_cons_succ, List.getElem?_cons_zero]; rfl)
                      case st90z43 => kernel_rfl
                      case ft90z43 => kernel_rfl
                      case zt90z43 => kernel_rfl
                      case qt90z43 => exact fun _ _ _ h => h
                      case yt90z43 => (refine Or.inl ⟨rfl, ?_⟩; intro w hSw; (try dsimp only at hSw); go_simp; try with_reducible rfl)
                      case at90z43 => assumption
                      case rt90z43 =>
                      simp only [Act.put, List.setIfInBounds_toArray, List.set_cons_zero, List.set_cons_succ]
                      refine' wpAnyH_take (i := 44) (oi := ?ot91z44) (v := ?vt91z44) ?ht91z44 ?st91z44 ?ft91z44 ?zt91z44 ?qt91z44 ?yt91z44 ?at91z44 ?rt91z44
                      case ht91z44 => (simp only [List.getElem?_toArray, List.getElem?_cons_succ, List.getElem?_cons_zero]; rfl)
                      case st91z44 => kernel_rfl
                      case ft91z44 => kernel_rfl
                      case zt91z44 => kernel_rfl
                      case qt91z44 => exact fun _ _ _ h => h
                      case yt91z44 => (refine Or.inl ⟨rfl, ?_⟩; intro w hSw; (try dsimp only at hSw); go_simp; try with_reducible rfl)
                      case at91z44 => assumption
                      case rt91z44 =>
                      simp only [Act.put, List.setIfInBounds_toArray, List.set_cons_zero, List.set_cons_succ]
                      refine' wpAnyH_take (i := 45) (oi := ?ot92z45) (v := ?vt92z45) ?ht92z45 ?st92z45 ?ft92z45 ?zt92z45 ?qt92z45 ?yt92z45 ?at92z45 ?rt92z45
                      case ht92z45 => (simp only [List.getElem?_toArray, List.getElem?_cons_succ, List.getElem?_cons_zero]; rfl)
                      case st92z45 => kernel_rfl
                      case ft92z45 => kernel_rfl
                      case zt92z45 => kernel_rfl
                      case qt92z45 => exact fun _ _ _ h => h
                      case yt92z45 => (refine Or.inl ⟨rfl, ?_⟩; intro w hSw; (try dsimp only at hSw); go_simp; try with_reducible rfl)
                      case at92z45 => assumption
                      case rt92z45 =>
                      simp only [Act.put, List.setIfInBounds_toArray, List.set_cons_zero, List.set_cons_succ]
                      refine' wpAnyH_take (i := 46) (oi := ?ot93z46) (v := ?vt93z46) ?ht93z46 ?st93z46 ?ft93z46 ?zt93z46 ?qt93z46 ?yt93z46 ?at93z46 ?rt93z46
                      case ht93z46 => (simp only [List.getElem?_toArray, List.getElem?_cons_succ, List.getElem?_cons_zero]; rfl)
                      case st93z46 => kernel_rfl
                      case ft93z46 => kernel_rfl
                      case zt93z46 => kernel_rfl
                      case qt93z46 => exact fun _ _ _ h => h
                      case yt93z46 => (refine Or.inl ⟨rfl, ?_⟩; intro w hSw; (try dsimp only at hSw); go_simp; try with_reducible rfl)
                      case at93z46 => assumption
                      case rt93z46 =>
                      simp only [Act.put, List.setIfInBounds_toArray, List.set_cons_zero, List.set_cons_succ]
                      refine' wpAnyH_take (i := 47) (oi := ?ot94z47) (v := ?vt94z47) ?ht94z47 ?st94z47 ?ft94z47 ?zt94z47 ?qt94z47 ?yt94z47 ?at94z47 ?rt94z47
                      case ht94z47 => (simp only [List.getElem?_toArray, List.getElem?_cons_succ, List.getElem?_cons_zero]; rfl)
                      case st94z47 => kernel_rfl
                      case ft94z47 => kernel_rfl
                      case zt94z47 => kernel_rfl
                      case qt94z47 => exact fun _ _ _ h => h
                      case yt94z47 => (refine Or.inl ⟨rfl, ?_⟩; intro w hSw; (try dsimp only at hSw); go_simp; try with_reducible rfl)
                      case at94z47 => assumption
                      case rt94z47 =>
                      simp only [Act.put, List.setIfInBounds_toArray, List.set_cons_zero, List.set_cons_succ]
                      refine' wpAnyH_take (i := 49) (oi := ?ot95z49) (v := ?vt95z49) ?ht95z49 ?st95z49 ?ft95z49 ?zt95z49 ?qt95z49 ?yt95z49 ?at95z49 ?rt95z49
                      case ht95z49 => (simp only [List.getElem?_toArray, List.getElem?_cons_succ, List.getElem?_cons_zero]; rfl)
                      case st95z49 => kernel_rfl
                      case ft95z49 => kernel_rfl
                      case zt95z49 => kernel_rfl
                      case qt95z49 => exact fun _ _ _ h => h
                      case yt95z49 => (refine Or.inl ⟨rfl, ?_⟩; intro w hSw; (try dsimp only at hSw); go_simp; try with_reducible rfl)
                      case at95z49 => assumption
                      case rt95z49 =>
                      simp only [Act.put, List.setIfInBounds_toArray, List.set_cons_zero, List.set_cons_succ]
                      refine' wpAnyH_take (i := 50) (oi := ?ot96z50) (v := ?vt96z50) ?ht96z50 ?st96z50 ?ft96z50 ?zt96z50 ?qt96z50 ?yt96z50 ?at96z50 ?rt96z50
                      case ht96z50 => (simp only [List.getElem?_toArray, List.getElem?_cons_succ, List.getElem?_cons_zero]; rfl)
                      case st96z50 => kernel_rfl
                      case ft96z50 => kernel_rfl
                      case zt96z50 => kernel_rfl
                      case qt96z50 => exact fun _ _ _ h => h
                      case yt96z50 => (refine Or.inl ⟨rfl, ?_⟩; intro w hSw; (try dsimp only at hSw); go_simp; try with_reducible rfl)
                      case at96z50 => assumption
                      case rt96z50 =>
                      simp only [Act.put, List.setIfInBounds_toArray, List.set_cons_zero, List.set_cons_succ]
                      refine wpAnyH_ready (rs := [48]) (by kernel_rfl) (by simp) ?_
                      refine' AllReadyH.cons (o := ?ob97z48) ?hb97z48 ?kb97z48 AllReadyH.nil
                      case hb97z48 => (simp only [List.getElem?_toArray, List.getElem?_cons_succ, List.getElem?_cons_zero]; rfl)
                      case kb97z48 =>
                        intro K0 hK
                        go_simp
                        go_at_call 14
                        refine (GT.out _).mono ?_
                        rintro eK wq98 ⟨rfl, hX⟩
                        have hH2 : Below w1.heap.size w1 wq98 ∧ gb < wq98.heap.size ∧ wq98.cell? ⟨gb, 0, none⟩ = some (.int .u8 (IntKind.u8.wrap (K : Int))) := ⟨bl hHeld.1 hX, by have := hX.size; have := hHeld.2.1; omega, by rw [(bcell hX).1 _ _ hHeld.2.1]; exact hHeld.2.2⟩
                        clear hX hHeld
                        refine hK.out _ _ ?_ (fun hHeld => ?_)
                        · exact hH2
                        clear hK K0
                        (try simp only [Act.put, List.setIfInBounds_toArray, List.set_cons_zero, List.set_cons_succ])
                        (try clear hH2)
                        refine wpAnyH_ready (rs := [51]) (by kernel_rfl) (by simp) ?_
                        refine' AllReadyH.cons (o := ?ob99z51) ?hb99z51 ?kb99z51 AllReadyH.nil
                        case hb99z51 => (simp only [List.getElem?_toArray, List.getElem?_cons_succ, List.getElem?_cons_zero]; rfl)
                        case kb99z51 =>
                          intro K0 hK
                          go_simp
                          go_at_call 14
                          refine (GX.out _).mono ?_
                          rintro eK wq100 ⟨rfl, hX⟩
                          have hH2 : Below w1.heap.size w1 wq100 ∧ gb < wq100.heap.size ∧ wq100.cell? ⟨gb, 0, none⟩ = some (.int .u8 (IntKind.u8.wrap (K : Int))) := ⟨bl hHeld.1 hX, by have := hX.size; have := hHeld.2.1; omega, by rw [(bcell hX).1 _ _ hHeld.2.1]; exact hHeld.2.2⟩
                          clear hX hHeld
                          refine hK.out _ _ ?_ (fun hHeld => ?_)
                          · exact hH2
                          clear hK K0
                          (try simp only [Act.put, List.setIfInBounds_toArray, List.set_cons_zero, List.set_cons_succ])
                          (try clear hH2)
                          refine' wpAnyH_take (i := 52) (oi := ?ot101z52) (v := ?vt101z52) ?ht101z52 ?st101z52 ?ft101z52 ?zt101z52 ?qt101z52 ?yt101z52 ?at101z52 ?rt101z52
                          case ht101z52 => (simp only [List.getElem?_toArray, List.getElem?_cons_succ, List.getElem?_cons_zero]; rfl)
                          case st101z52 => kernel_rfl
                          case ft101z52 => kernel_rfl
                          case zt101z52 => kernel_rfl
                          case qt101z52 => exact fun _ _ _ h => h
                          case yt101z52 => (refine Or.inl ⟨rfl, ?_⟩; intro w hSw; (try dsimp only at hSw); go_simp; try with_reducible rfl)
                          case at101z52 => assumption
                          case rt101z52 =>
                          simp only [Act.put, List.setIfInBounds_toArray, List.set_cons_zero, List.set_cons_succ]
                          refine' wpAnyH_take (i := 53) (oi := ?ot102z53) (v := ?vt102z53) ?ht102z53 ?st102z53 ?ft102z53 ?zt102z53 ?qt102z53 ?yt102z53 ?at102z53 ?rt102z53
                          case ht102z53 => (simp only [List.getElem?_toArray, List.getElem?_cons_succ, List.getElem?_cons_zero]; rfl)
                          case st102z53 => kernel_rfl
                          case ft102z53 => kernel_rfl
                          case zt102z53 => kernel_rfl
                          case qt102z53 => exact fun _ _ _ h => h
                          case yt102z53 => (refine Or.inl ⟨rfl, ?_⟩; intro w hSw; (try dsimp only at hSw); go_simp; try with_reducible rfl)
                          case at102z53 => assumption
                          case rt102z53 =>
                          simp only [Act.put, List.setIfInBounds_toArray, List.set_cons_zero, List.set_cons_succ]
                          refine' wpAnyH_take (i := 54) (oi := ?ot103z54) (v := ?vt103z54) ?ht103z54 ?st103z54 ?ft103z54 ?zt103z54 ?qt103z54 ?yt103z54 ?at103z54 ?rt103z54
                          case ht103z54 => (simp only [List.getElem?_toArray, List.getElem?_cons_succ, List.getElem?_cons_zero]; rfl)
                          case st103z54 => kernel_rfl
                          case ft103z54 => kernel_rfl
                          case zt103z54 => kernel_rfl
                          case qt103z54 => exact fun _ _ _ h => h
                          case yt103z54 => (refine Or.inl ⟨rfl, ?_⟩; intro w hSw; (try dsimp only at hSw); go_simp; try with_reducible rfl)
                          case at103z54 => assumption
                          case rt103z54 =>
                          simp only [Act.put, List.setIfInBounds_toArray, List.set_cons_zero, List.set_cons_succ]
                          refine wpAnyH_done (by kernel_rfl) ?_ _
                          go_wp2_with fail
                          go_returns
                          exact ⟨rfl, bl B1.out hHeld.1⟩

theorem toL_ne {s t : ByteArray} (h : s ≠ t) : (s.toList == t.toList) = false := by
  rw [str_eq]
  exact decide_eq_false h
theorem toL_eq {s t : ByteArray} (h : s = t) : (s.toList == t.toList) = true := by subst h; simp
theorem extract_one (x y : UInt8) : (ofL [x, y]).extract 1 2 = ofL [y] := by
  apply ByteArray.ext
  rw [ByteArray.data_extract]
  rfl
theorem lowB_u64 (t : Int) (K : Nat) (h : wrap64 ((IntKind.u64.wrap t).tmod 256) = (K : Int)) (hK : (K : Int) < 256) : lowB t = lowB K := by
  have h1 : (K : Int) = t % 256 := by
    rw [← h, IntKind.wrap_u64]
    unfold wrap64
    have g0 : 0 ≤ t % 18446744073709551616 := by omega
    rw [Int.tmod_eq_emod_of_nonneg g0]
    omega
  unfold lowB
  rw [h1, Int.emod_emod]
theorem names_walk (t o : Int) (a b : ByteArray) (w : World) (ht : Tabs w) :
    Calls Tryd.prog 5 #[.int .i64 t, .int .i64 o, .string a, .string b] w fun e w' => e = .returned (.bool true) ∧ Below w.heap.size w w' := by
  obtain ⟨K, hK, hK2⟩ := mod_u t 256 (by decide) (by decide)
  obtain ⟨M, hM, hM2⟩ := mod_u o 256 (by decide) (by decide)
  by_cases ha : 60 < (a.size : Int)
  · have HA := Lib.hid (awake_any w ht)
    clear ht
    go_enter Tryd.func5, Tryd.ntmps5
    go_wp2_with fail
    refine HA.out.mono ?_
    rintro e w1 ⟨rfl, hX⟩
    have B1 := Lib.hid hX
    clear hX
    go_wp2_with fail
    go_returns
    exact ⟨rfl, B1.out⟩
  by_cases hb : 60 < (b.size : Int)
  · have HA := Lib.hid (awake_any w ht)
    clear ht
    go_enter Tryd.func5, Tryd.ntmps5
    go_wp2_with fail
    refine HA.out.mono ?_
    rintro e w1 ⟨rfl, hX⟩
    have B1 := Lib.hid hX
    clear hX
    go_wp2_with fail
    go_returns
    exact ⟨rfl, B1.out⟩
  have hsa : a.size ≤ 1000 := by omega
  have hsb : b.size ≤ 1000 := by omega
  have hne : ∀ {k1 k2 : UInt8} {x y : Int} {s1 s2 : ByteArray}, k1 ≠ k2 → ((nameB k1 x s1).toList == (nameB k2 y s2).toList) = false := fun h => toL_ne fun e => h (nameB_inj e).1
  have hk0 : (0 : Int) ≤ K := by omega
  have hm0 : (0 : Int) ≤ M := by omega
  have KX := Lib.hid (fun W => Key_any K a W hsa)
  have KY := Lib.hid (fun W => Key_any M b W hsb)
  have GX := Lib.hid (fun W => Gap_any K a W hsa)
  have GY := Lib.hid (fun W => Gap_any M b W hsb)
  have GT := Lib.hid (fun W => Gap_any t a W hsa)
  have TX := Lib.hid (fun W => Table_any K W)
  have TY := Lib.hid (fun W => Table_any M W)
  have CV : Hid (∀ W g, W.cell? ⟨g, 0, none⟩ = some (.int .u8 (IntKind.u8.wrap (K : Int))) → (convert 37 9 (.slice (some ⟨g, 0, none⟩) 1 1)).run Tryd.prog W = .ok (.string (ofL [lowB K])) W) := Lib.hid fun W g hc =>
    conv_row Tryd.underlying37 Tryd.underlying5 Tryd.underlying9 g 0 1 [lowB K] (fun i x hx => by
      rw [Nat.zero_add]
      rcases i with _ | i
      · cases hx; rw [hc, lowB_int]; rfl
      · simp at hx) 1 rfl
  have HSL : Hid (∀ W, (Instr.slice 9 (.string (nameB 116 K ⟨#[]⟩)) (some (.int .i64 1)) none none).run Tryd.prog W = .ok (.string (ofL [lowB K])) W) := Lib.hid fun W => by
    have e : nameB 116 K ⟨#[]⟩ = ofL [116, lowB K] := rfl
    rw [e]
    have hs : (ofL [116, lowB K]).size = 2 := rfl
    have := extract_one 116 (lowB K)
    simp [go_sem, hs, this]
  have e7 : ((nameB 116 K ⟨#[]⟩).toList == (⟨#[116]⟩ ++ ofL [lowB K] : ByteArray).toList) = true := toL_eq (by apply ByteArray.ext; simp [nameB, ofL, ByteArray.data_append])
  have e8 : ((nameB 107 K a).toList == (⟨#[107]⟩ ++ ofL [lowB K] ++ a : ByteArray).toList) = true := toL_eq (by
    apply ByteArray.ext
    unfold nameB ofL
    simp [ByteArray.data_append])
  have e9 : ((nameB 103 t a).toList == (nameB 103 K a).toList) = true := toL_eq (by unfold nameB; rw [lowB_u64 t K hK hK2])
  have hsz : ¬ 9223372036854775807 < 2 + a.size := by omega
  have hlw : K ≠ M → lowB K ≠ lowB M := fun h e => h (by have := lowB_inj hk0 hK2 hm0 hM2 e; omega)
  by_cases h1 : K = M
  · have exy : ((K : Int) == (M : Int)) = true := by simp [h1]
    have e3 : ((nameB 116 K ⟨#[]⟩).toList == (nameB 116 M ⟨#[]⟩).toList) = true := toL_eq (by rw [h1])
    by_cases h2 : a = b
    · exact names_tt t o a b K M hK hM ha hb _ _ _ _ _ _ _ (lowB K) w ht KX KY GX GY GT TX TY CV HSL exy (toL_eq h2) (toL_eq (by rw [h1, h2])) (toL_eq (by rw [h1, h2])) e3 (hne (by decide)) (hne (by decide)) (hne (by decide)) e7 e8 e9 rfl hsz
    · exact names_tf t o a b K M hK hM ha hb _ _ _ _ _ _ _ (lowB K) w ht KX KY GX GY GT TX TY CV HSL exy (toL_ne h2) (toL_ne fun e => h2 (nameB_inj e).2.2) (toL_ne fun e => h2 (nameB_inj e).2.2) e3 (hne (by decide)) (hne (by decide)) (hne (by decide)) e7 e8 e9 rfl hsz
  · have exy : ((K : Int) == (M : Int)) = false := by simp; omega
    exact names_f t o a b K M hK hM ha hb _ _ _ _ _ _ _ (lowB K) w ht KX KY GX GY GT TX TY CV HSL exy (toL_ne fun e => hlw h1 (nameB_inj e).2.1) (toL_ne fun e => hlw h1 (nameB_inj e).2.1) (toL_ne fun e => hlw h1 (nameB_inj e).2.1) (hne (by decide)) (hne (by decide)) (hne (by decide)) e7 e8 e9 rfl hsz
end Go.Proofs.YtikdjgholjealaaDoor.Lk
