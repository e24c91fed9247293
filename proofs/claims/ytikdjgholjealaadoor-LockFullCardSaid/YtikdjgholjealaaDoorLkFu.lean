/- The walk of LockFull. -/
import Derived.Test.YtikdjgholjealaaDoorLkFp
import Derived.Test.YtikdjgholjealaaDoorLkRw
namespace Go.Proofs.YtikdjgholjealaaDoor.Lk
open Go.ChangeShapes Go.WideShapes Go.ChangeAt Go.RowKit Go.PlainAid Aid Md
set_option linter.unusedVariables false
set_option linter.unusedSimpArgs false
def ltr (k : Nat) : UInt8 := UInt8.ofNat (97 + k)
def tw : ByteArray := ⟨#[97, 98, 99, 100, 101, 102, 103, 104, 105, 106, 107, 108, 109, 110, 111, 112, 113, 114, 115, 116]⟩
theorem tw_at (k : Nat) (h : k < 20) : tw.extract k (k + 1) = ofL [UInt8.ofNat (97 + k)] := by
  have : ∀ k : Fin 20, tw.extract k.val (k.val + 1) = ofL [UInt8.ofNat (97 + k.val)] := by decide +kernel
  exact this ⟨k, h⟩
theorem tw_slice (k : Nat) (h : k < 20) (a b : Int) (ha : a = (k : Int)) (hb : b = (k : Int) + 1) (W : World) : (Instr.slice 9 (.string ⟨#[97, 98, 99, 100, 101, 102, 103, 104, 105, 106, 107, 108, 109, 110, 111, 112, 113, 114, 115, 116]⟩) (some (.int .i64 a)) (some (.int .i64 b)) none).run Tryd.prog W = .ok (.string (ofL [ltr k])) W := by
  subst ha hb
  have h1 : tw.extract k (k + 1) = ofL [ltr k] := tw_at k h
  have hs : tw.size = 20 := rfl
  have h2 : (0 : Int) ≤ (k : Int) := by omega
  have h3 : (k : Int) ≤ (k : Int) + 1 := by omega
  have h4 : (k : Int) + 1 ≤ 20 := by omega
  have h5 : ((k : Int) + 1).toNat = k + 1 := by omega
  show (Instr.slice 9 (.string tw) _ _ none).run _ _ = _
  simp [go_sem, hs, h1, h2, h3, h4, h5]
set_option maxRecDepth 100000 in
set_option maxHeartbeats 16000000 in
theorem full_walk (mo id : Int) (w : World) (ht : Tabs w) (hid : I64w id) :
    Calls Tryd.prog 4 #[.int .i64 mo, .int .i64 id] w fun e w' => e = .returned (.bool true) ∧ Below w.heap.size w w' := by
  have HT := Lib.hid ht
  obtain ⟨K, hK, hK2⟩ := mod_u mo 300 (by decide) (by decide)
  have HA := Lib.hid (awake_any w ht)
  have HID := Lib.hid hid
  have HN : Hid (∀ i, (nmF i).length ≤ 1000) := Lib.hid (fun i => by simp [nmF])
  have HSL := Lib.hid (fun k h a b ha hb W => tw_slice k h a b ha hb W)
  have hwr : ∀ x : Int, 0 ≤ x → x ≤ 1000 → IntKind.i64.wrap x = x := fun x h1 h2 => by rw [i64_is]; exact IntWalk.wrap64_in x ⟨by omega, by omega⟩
  have hq1 : ∀ (k : Nat) (W : World), (Instr.slice 9 (.string ⟨#[97, 98, 99, 100, 101, 102, 103, 104, 105, 106, 107, 108, 109, 110, 111, 112, 113, 114, 115, 116]⟩) (some (.int .i64 ((k : Int).tmod 20))) (some (.int .i64 (IntKind.i64.wrap ((k : Int).tmod 20 + 1)))) none).run Tryd.prog W = .ok (.string (ofL [ltr (k % 20)])) W := fun k W => by
    have e : (k : Int).tmod 20 = ((k % 20 : Nat) : Int) := by rw [Int.tmod_eq_emod_of_nonneg (by omega)]; omega
    exact tw_slice (k % 20) (by omega) _ _ e (by rw [e]; exact hwr _ (by omega) (by omega)) W
  have hq2 : ∀ (k : Nat), k < 300 → ∀ (W : World), (Instr.slice 9 (.string ⟨#[97, 98, 99, 100, 101, 102, 103, 104, 105, 106, 107, 108, 109, 110, 111, 112, 113, 114, 115, 116]⟩) (some (.int .i64 (IntKind.i64.wrap ((k : Int) / 20)))) (some (.int .i64 (IntKind.i64.wrap (IntKind.i64.wrap ((k : Int) / 20) + 1)))) none).run Tryd.prog W = .ok (.string (ofL [ltr (k / 20)])) W := fun k hk W => by
    have e : IntKind.i64.wrap ((k : Int) / 20) = ((k / 20 : Nat) : Int) := by rw [hwr _ (by omega) (by omega)]; omega
    exact tw_slice (k / 20) (by omega) _ _ e (by rw [e]; exact hwr _ (by omega) (by omega)) W
  have HQ1 := Lib.hid hq1
  have HQ2 := Lib.hid hq2
  have HM5 : Hid (∀ k : Nat, (k : Int).tmod 5 = ((k % 5 : Nat) : Int)) := Lib.hid (fun k => by rw [Int.tmod_eq_emod_of_nonneg (by omega)]; omega)
  have HE : Hid (∀ k : Nat, ofL [ltr (k % 20)] ++ ofL [ltr (k / 20)] = ofL (nmF k)) := Lib.hid (fun k => by
    apply ByteArray.ext
    rw [ByteArray.data_append]
    rfl)
  have hnw : nw.length ≤ 1000 := by decide
  have HNW := Lib.hid hnw
  have hsz : ∀ x : UInt8, (ofL [x]).size = 1 := fun _ => rfl
  clear ht hid hwr hq1 hq2 HSL hnw
  go_enter Tryd.func4, Tryd.ntmps4
  go_wp2_with fail
  refine HA.out.mono ?_
  rintro e w1 ⟨rfl, hX⟩
  have S1 := Lib.hid (Own.of_below hX)
  clear hX HA
  go_wp2_with fail
  refine (new_any w w1 _ S1.out).mono ?_
  rintro e w2 ⟨bb, h, l, wt, rfl, hX⟩
  have S2 := Lib.hid hX
  clear hX S1
  unfold bPtr at *
  go_wp2_with fail
  go_loopw [7] (fun i wr => ∃ (k : Nat) (H : List Hol), k ≤ 300 ∧ i = .int .i64 k ∧ Hid (FuS k H) ∧ Hid (Inv k H [] []) ∧ Hid (Aid.Own w No wr (aBk bb h l wt H [] [] * Asn.emp))) (fun i _ => 300 - (intOf i).toNat)
  case atStart => exact ⟨0, [], Nat.zero_le _, rfl, Lib.hid .nil, Lib.hid inv_nil, S2⟩
  case round =>
    clear S2
    obtain ⟨k, H, hk, rfl, HI, HV, S⟩ := hrel
    by_cases hlt : k < 300
    · have hq1 := HQ1.out k
      have hq2 := HQ2.out k hlt
      have hl1 : (k : Int) < 300 := by omega
      go_wp2_with fail
      refine wp_region_held_drew (S := fun W' : World => True) (by kernel_rfl) trivial (fun hHeld => ?_)
      have S0 := Lib.hid S.out.drew
      clear S
      generalize wr.drew = wd at *
      refine' wpAnyH_take (i := 0) (oi := ?ot1z0) (v := ?vt1z0) ?ht1z0 ?st1z0 ?ft1z0 ?zt1z0 ?qt1z0 ?yt1z0 ?at1z0 ?rt1z0
      case ht1z0 => (simp only [List.getElem?_toArray, List.getElem?_cons_succ, List.getElem?_cons_zero]; rfl)
      case st1z0 => kernel_rfl
      case ft1z0 => kernel_rfl
      case zt1z0 => kernel_rfl
      case qt1z0 => exact fun _ _ _ h => h
      case yt1z0 => (refine Or.inl ⟨rfl, ?_⟩; intro w hSw; (try dsimp only at hSw); go_simp; try with_reducible rfl)
      case at1z0 => assumption
      case rt1z0 =>
      simp only [Act.put, List.setIfInBounds_toArray, List.set_cons_zero, List.set_cons_succ]
      refine' wpAnyH_take (i := 1) (oi := ?ot2z1) (v := ?vt2z1) ?ht2z1 ?st2z1 ?ft2z1 ?zt2z1 ?qt2z1 ?yt2z1 ?at2z1 ?rt2z1
      case ht2z1 => (simp only [List.getElem?_toArray, List.getElem?_cons_succ, List.getElem?_cons_zero]; rfl)
      case st2z1 => kernel_rfl
      case ft2z1 => kernel_rfl
      case zt2z1 => kernel_rfl
      case qt2z1 => exact fun _ _ _ h => h
      case yt2z1 => (refine Or.inl ⟨rfl, ?_⟩; intro w hSw; (try dsimp only at hSw); go_simp; try with_reducible rfl)
      case at2z1 => assumption
      case rt2z1 =>
      simp only [Act.put, List.setIfInBounds_toArray, List.set_cons_zero, List.set_cons_succ]
      refine' wpAnyH_take (i := 2) (oi := ?ot3z2) (v := ?vt3z2) ?ht3z2 ?st3z2 ?ft3z2 ?zt3z2 ?qt3z2 ?yt3z2 ?at3z2 ?rt3z2
      case ht3z2 => (simp only [List.getElem?_toArray, List.getElem?_cons_succ, List.getElem?_cons_zero]; rfl)
      case st3z2 => kernel_rfl
      case ft3z2 => kernel_rfl
      case zt3z2 => kernel_rfl
      case qt3z2 => exact fun _ _ _ h => h
      case yt3z2 => (refine Or.inl ⟨rfl, ?_⟩; intro w hSw; (try dsimp only at hSw); go_simp; try with_reducible rfl)
      case at3z2 => assumption
      case rt3z2 =>
      simp only [Act.put, List.setIfInBounds_toArray, List.set_cons_zero, List.set_cons_succ]
      refine' wpAnyH_take (i := 3) (oi := ?ot4z3) (v := ?vt4z3) ?ht4z3 ?st4z3 ?ft4z3 ?zt4z3 ?qt4z3 ?yt4z3 ?at4z3 ?rt4z3
      case ht4z3 => (simp only [List.getElem?_toArray, List.getElem?_cons_succ, List.getElem?_cons_zero]; rfl)
      case st4z3 => kernel_rfl
      case ft4z3 => kernel_rfl
      case zt4z3 => kernel_rfl
      case qt4z3 => exact fun _ _ _ h => h
      case yt4z3 => (refine Or.inl ⟨rfl, ?_⟩; intro w hSw; (try dsimp only at hSw); go_simp; try with_reducible rfl)
      case at4z3 => assumption
      case rt4z3 =>
      simp only [Act.put, List.setIfInBounds_toArray, List.set_cons_zero, List.set_cons_succ]
      refine' wpAnyH_take (i := 4) (oi := ?ot5z4) (v := ?vt5z4) ?ht5z4 ?st5z4 ?ft5z4 ?zt5z4 ?qt5z4 ?yt5z4 ?at5z4 ?rt5z4
      case ht5z4 => (simp only [List.getElem?_toArray, List.getElem?_cons_succ, List.getElem?_cons_zero]; rfl)
      case st5z4 => kernel_rfl
      case ft5z4 => kernel_rfl
      case zt5z4 => kernel_rfl
      case qt5z4 => exact fun _ _ _ h => h
      case yt5z4 => (refine Or.inl ⟨rfl, ?_⟩; intro w hSw; (try dsimp only at hSw); go_simp; try with_reducible rfl)
      case at5z4 => assumption
      case rt5z4 =>
      simp only [Act.put, List.setIfInBounds_toArray, List.set_cons_zero, List.set_cons_succ]
      refine' wpAnyH_take (i := 5) (oi := ?ot6z5) (v := ?vt6z5) ?ht6z5 ?st6z5 ?ft6z5 ?zt6z5 ?qt6z5 ?yt6z5 ?at6z5 ?rt6z5
      case ht6z5 => (simp only [List.getElem?_toArray, List.getElem?_cons_succ, List.getElem?_cons_zero]; rfl)
      case st6z5 => kernel_rfl
      case ft6z5 => kernel_rfl
      case zt6z5 => kernel_rfl
      case qt6z5 => exact fun _ _ _ h => h
      case yt6z5 => (refine Or.inl ⟨rfl, ?_⟩; intro w hSw; (try dsimp only at hSw); go_simp; try with_reducible rfl)
      case at6z5 => assumption
      case rt6z5 =>
      simp only [Act.put, List.setIfInBounds_toArray, List.set_cons_zero, List.set_cons_succ]
      refine' wpAnyH_take (i := 6) (oi := ?ot7z6) (v := ?vt7z6) ?ht7z6 ?st7z6 ?ft7z6 ?zt7z6 ?qt7z6 ?yt7z6 ?at7z6 ?rt7z6
      case ht7z6 => (simp only [List.getElem?_toArray, List.getElem?_cons_succ, List.getElem?_cons_zero]; rfl)
      case st7z6 => kernel_rfl
      case ft7z6 => kernel_rfl
      case zt7z6 => kernel_rfl
      case qt7z6 => exact fun _ _ _ h => h
      case yt7z6 => (refine Or.inl ⟨rfl, ?_⟩; intro w hSw; (try dsimp only at hSw); go_simp; try with_reducible rfl)
      case at7z6 => assumption
      case rt7z6 =>
      simp only [Act.put, List.setIfInBounds_toArray, List.set_cons_zero, List.set_cons_succ]
      refine' wpAnyH_take (i := 7) (oi := ?ot8z7) (v := ?vt8z7) ?ht8z7 ?st8z7 ?ft8z7 ?zt8z7 ?qt8z7 ?yt8z7 ?at8z7 ?rt8z7
      case ht8z7 => (simp only [List.getElem?_toArray, List.getElem?_cons_succ, List.getElem?_cons_zero]; rfl)
      case st8z7 => kernel_rfl
      case ft8z7 => kernel_rfl
      case zt8z7 => kernel_rfl
      case qt8z7 => exact fun _ _ _ h => h
      case yt8z7 => (refine Or.inl ⟨rfl, ?_⟩; intro w hSw; (try dsimp only at hSw); go_simp; try with_reducible rfl)
      case at8z7 => assumption
      case rt8z7 =>
      simp only [Act.put, List.setIfInBounds_toArray, List.set_cons_zero, List.set_cons_succ]
      refine' wpAnyH_take (i := 8) (oi := ?ot9z8) (v := ?vt9z8) ?ht9z8 ?st9z8 ?ft9z8 ?zt9z8 ?qt9z8 ?yt9z8 ?at9z8 ?rt9z8
      case ht9z8 => (simp only [List.getElem?_toArray, List.getElem?_cons_succ, List.getElem?_cons_zero]; rfl)
      case st9z8 => kernel_rfl
      case ft9z8 => kernel_rfl
      case zt9z8 => kernel_rfl
      case qt9z8 => exact fun _ _ _ h => h
      case yt9z8 => (refine Or.inl ⟨rfl, ?_⟩; intro w hSw; (try dsimp only at hSw); go_simp; try with_reducible rfl)
      case at9z8 => assumption
      case rt9z8 =>
      simp only [Act.put, List.setIfInBounds_toArray, List.set_cons_zero, List.set_cons_succ]
      refine' wpAnyH_take (i := 9) (oi := ?ot10z9) (v := ?vt10z9) ?ht10z9 ?st10z9 ?ft10z9 ?zt10z9 ?qt10z9 ?yt10z9 ?at10z9 ?rt10z9
      case ht10z9 => (simp only [List.getElem?_toArray, List.getElem?_cons_succ, List.getElem?_cons_zero]; rfl)
      case st10z9 => kernel_rfl
      case ft10z9 => kernel_rfl
      case zt10z9 => kernel_rfl
      case qt10z9 => exact fun _ _ _ h => h
      case yt10z9 => (refine Or.inl ⟨rfl, ?_⟩; intro w hSw; (try dsimp only at hSw); go_simp; try with_reducible rfl)
      case at10z9 => assumption
      case rt10z9 =>
      simp only [Act.put, List.setIfInBounds_toArray, List.set_cons_zero, List.set_cons_succ]
      refine' wpAnyH_take (i := 10) (oi := ?ot11z10) (v := ?vt11z10) ?ht11z10 ?st11z10 ?ft11z10 ?zt11z10 ?qt11z10 ?yt11z10 ?at11z10 ?rt11z10
      case ht11z10 => (simp only [List.getElem?_toArray, List.getElem?_cons_succ, List.getElem?_cons_zero]; rfl)
      case st11z10 => kernel_rfl
      case ft11z10 => kernel_rfl
      case zt11z10 => kernel_rfl
      case qt11z10 => exact fun _ _ _ h => h
      case yt11z10 => (refine Or.inl ⟨rfl, ?_⟩; intro w hSw; (try dsimp only at hSw); go_simp; try with_reducible rfl)
      case at11z10 => assumption
      case rt11z10 =>
      simp only [Act.put, List.setIfInBounds_toArray, List.set_cons_zero, List.set_cons_succ]
      refine' wpAnyH_take (i := 11) (oi := ?ot12z11) (v := ?vt12z11) ?ht12z11 ?st12z11 ?ft12z11 ?zt12z11 ?qt12z11 ?yt12z11 ?at12z11 ?rt12z11
      case ht12z11 => (simp only [List.getElem?_toArray, List.getElem?_cons_succ, List.getElem?_cons_zero]; rfl)
      case st12z11 => kernel_rfl
      case ft12z11 => kernel_rfl
      case zt12z11 => kernel_rfl
      case qt12z11 => exact fun _ _ _ h => h
      case yt12z11 => (refine Or.inl ⟨rfl, ?_⟩; intro w hSw; (try dsimp only at hSw); go_simp; try with_reducible rfl)
      case at12z11 => assumption
      case rt12z11 =>
      simp only [Act.put, List.setIfInBounds_toArray, List.set_cons_zero, List.set_cons_succ]
      refine' wpAnyH_take (i := 12) (oi := ?ot13z12) (v := ?vt13z12) ?ht13z12 ?st13z12 ?ft13z12 ?zt13z12 ?qt13z12 ?yt13z12 ?at13z12 ?rt13z12
      case ht13z12 => (simp only [List.getElem?_toArray, List.getElem?_cons_succ, List.getElem?_cons_zero]; rfl)
      case st13z12 => kernel_rfl
      case ft13z12 => kernel_rfl
      case zt13z12 => kernel_rfl
      case qt13z12 => exact fun _ _ _ h => h
      case yt13z12 => (refine Or.inl ⟨rfl, ?_⟩; intro w hSw; (try dsimp only at hSw); go_simp; try with_reducible rfl)
      case at13z12 => assumption
      case rt13z12 =>
      simp only [Act.put, List.setIfInBounds_toArray, List.set_cons_zero, List.set_cons_succ]
      refine' wpAnyH_take (i := 13) (oi := ?ot14z13) (v := ?vt14z13) ?ht14z13 ?st14z13 ?ft14z13 ?zt14z13 ?qt14z13 ?yt14z13 ?at14z13 ?rt14z13
      case ht14z13 => (simp only [List.getElem?_toArray, List.getElem?_cons_succ, List.getElem?_cons_zero]; rfl)
      case st14z13 => kernel_rfl
      case ft14z13 => kernel_rfl
      case zt14z13 => kernel_rfl
      case qt14z13 => exact fun _ _ _ h => h
      case yt14z13 => (refine Or.inl ⟨rfl, ?_⟩; intro w hSw; (try dsimp only at hSw); go_simp; try with_reducible rfl)
      case at14z13 => assumption
      case rt14z13 =>
      simp only [Act.put, List.setIfInBounds_toArray, List.set_cons_zero, List.set_cons_succ]
      refine' wpAnyH_take (i := 14) (oi := ?ot15z14) (v := ?vt15z14) ?ht15z14 ?st15z14 ?ft15z14 ?zt15z14 ?qt15z14 ?yt15z14 ?at15z14 ?rt15z14
      case ht15z14 => (simp only [List.getElem?_toArray, List.getElem?_cons_succ, List.getElem?_cons_zero]; rfl)
      case st15z14 => kernel_rfl
      case ft15z14 => kernel_rfl
      case zt15z14 => kernel_rfl
      case qt15z14 => exact fun _ _ _ h => h
      case yt15z14 => (refine Or.inl ⟨rfl, ?_⟩; intro w hSw; (try dsimp only at hSw); go_simp; try with_reducible rfl)
      case at15z14 => assumption
      case rt15z14 =>
      simp only [Act.put, List.setIfInBounds_toArray, List.set_cons_zero, List.set_cons_succ]
      refine' wpAnyH_take (i := 15) (oi := ?ot16z15) (v := ?vt16z15) ?ht16z15 ?st16z15 ?ft16z15 ?zt16z15 ?qt16z15 ?yt16z15 ?at16z15 ?rt16z15
      case ht16z15 => (simp only [List.getElem?_toArray, List.getElem?_cons_succ, List.getElem?_cons_zero]; rfl)
      case st16z15 => kernel_rfl
      case ft16z15 => kernel_rfl
      case zt16z15 => kernel_rfl
      case qt16z15 => exact fun _ _ _ h => h
      case yt16z15 => (refine Or.inl ⟨rfl, ?_⟩; intro w hSw; (try dsimp only at hSw); go_simp; try with_reducible rfl)
      case at16z15 => assumption
      case rt16z15 =>
      simp only [Act.put, List.setIfInBounds_toArray, List.set_cons_zero, List.set_cons_succ]
      refine' wpAnyH_take (i := 16) (oi := ?ot17z16) (v := ?vt17z16) ?ht17z16 ?st17z16 ?ft17z16 ?zt17z16 ?qt17z16 ?yt17z16 ?at17z16 ?rt17z16
      case ht17z16 => (simp only [List.getElem?_toArray, List.getElem?_cons_succ, List.getElem?_cons_zero]; rfl)
      case st17z16 => kernel_rfl
      case ft17z16 => kernel_rfl
      case zt17z16 => kernel_rfl
      case qt17z16 => exact fun _ _ _ h => h
      case yt17z16 => (refine Or.inl ⟨rfl, ?_⟩; intro w hSw; (try dsimp only at hSw); go_simp; try with_reducible rfl)
      case at17z16 => assumption
      case rt17z16 =>
      simp only [Act.put, List.setIfInBounds_toArray, List.set_cons_zero, List.set_cons_succ]
      refine' wpAnyH_take (i := 17) (oi := ?ot18z17) (v := ?vt18z17) ?ht18z17 ?st18z17 ?ft18z17 ?zt18z17 ?qt18z17 ?yt18z17 ?at18z17 ?rt18z17
      case ht18z17 => (simp only [List.getElem?_toArray, List.getElem?_cons_succ, List.getElem?_cons_zero]; rfl)
      case st18z17 => kernel_rfl
      case ft18z17 => kernel_rfl
      case zt18z17 => kernel_rfl
      case qt18z17 => exact fun _ _ _ h => h
      case yt18z17 => (refine Or.inl ⟨rfl, ?_⟩; intro w hSw; (try dsimp only at hSw); go_simp; try with_reducible rfl)
      case at18z17 => assumption
      case rt18z17 =>
      simp only [Act.put, List.setIfInBounds_toArray, List.set_cons_zero, List.set_cons_succ]
      refine wpAnyH_ready (rs := [18]) (by kernel_rfl) (by simp) ?_
      refine' AllReadyH.cons (o := ?ob19z18) ?hb19z18 ?kb19z18 AllReadyH.nil
      case hb19z18 => (simp only [List.getElem?_toArray, List.getElem?_cons_succ, List.getElem?_cons_zero]; rfl)
      case kb19z18 =>
        intro K0 hK
        go_simp
        rw [HE.out k, HM5.out k]
        have hA := Ask_any (id := ((k % 5 : Nat) : Int)) (name := nmF k) 1 w wd _ S0.out HT.out (i64w_nat (by omega)) (HN.out k) HV.out (by omega) (by show 0 + cntH H ≤ _; rw [HI.out.cnt]; omega)
        unfold bPtr at hA
        refine hA.mono ?_
        rintro e w3 ⟨cc, H3, L3, W3, rfl, t, hX⟩
        have hv3 := t.inv HV.out (i64w_nat (by omega)) (HN.out k)
        obtain ⟨rfl, rfl, rfl, hf⟩ := fu_ask HI.out hlt t
        have S3 := Lib.hid hX
        have HV3 := Lib.hid hv3
        have HI3 := Lib.hid hf
        clear hA hX S0 t hv3 hf HI HV
        refine hK.out _ _ ?_ (fun hHeld => ?_)
        · trivial
        clear hK K0
        (try simp only [Act.put, List.setIfInBounds_toArray, List.set_cons_zero, List.set_cons_succ])
        (try clear hH2)
        refine' wpAnyH_take (i := 19) (oi := ?ot21z19) (v := ?vt21z19) ?ht21z19 ?st21z19 ?ft21z19 ?zt21z19 ?qt21z19 ?yt21z19 ?at21z19 ?rt21z19
        case ht21z19 => (simp only [List.getElem?_toArray, List.getElem?_cons_succ, List.getElem?_cons_zero]; rfl)
        case st21z19 => kernel_rfl
        case ft21z19 => kernel_rfl
        case zt21z19 => kernel_rfl
        case qt21z19 => exact fun _ _ _ h => h
        case yt21z19 => (refine Or.inl ⟨rfl, ?_⟩; intro w hSw; (try dsimp only at hSw); go_simp; try with_reducible rfl)
        case at21z19 => assumption
        case rt21z19 =>
        simp only [Act.put, List.setIfInBounds_toArray, List.set_cons_zero, List.set_cons_succ]
        refine wpAnyH_done (by kernel_rfl) ?_ _
        go_wp2_with fail
        go_roundw
        case rel => exact ⟨k + 1, H3, by omega, by go_num, HI3, HV3, S3⟩
        case measure => simp [intOf]; omega
    · obtain rfl : k = 300 := by omega
      have hq1 := HQ1.out K
      have hq2 := HQ2.out K (by omega)
      go_wp2_with fail
      refine wp_region_held_drew (S := fun W' : World => True) (by kernel_rfl) trivial (fun hHeld => ?_)
      have S0 := Lib.hid S.out.drew
      clear S
      generalize wr.drew = wd at *
      refine' wpAnyH_take (i := 0) (oi := ?ot22z0) (v := ?vt22z0) ?ht22z0 ?st22z0 ?ft22z0 ?zt22z0 ?qt22z0 ?yt22z0 ?at22z0 ?rt22z0
      case ht22z0 => (simp only [List.getElem?_toArray, List.getElem?_cons_succ, List.getElem?_cons_zero]; rfl)
      case st22z0 => kernel_rfl
      case ft22z0 => kernel_rfl
      case zt22z0 => kernel_rfl
      case qt22z0 => exact fun _ _ _ h => h
      case yt22z0 => (refine Or.inl ⟨rfl, ?_⟩; intro w hSw; (try dsimp only at hSw); go_simp; try with_reducible rfl)
      case at22z0 => assumption
      case rt22z0 =>
      simp only [Act.put, List.setIfInBounds_toArray, List.set_cons_zero, List.set_cons_succ]
      refine' wpAnyH_take (i := 1) (oi := ?ot23z1) (v := ?vt23z1) ?ht23z1 ?st23z1 ?ft23z1 ?zt23z1 ?qt23z1 ?yt23z1 ?at23z1 ?rt23z1
      case ht23z1 => (simp only [List.getElem?_toArray, List.getElem?_cons_succ, List.getElem?_cons_zero]; rfl)
      case st23z1 => kernel_rfl
      case ft23z1 => kernel_rfl
      case zt23z1 => kernel_rfl
      case qt23z1 => exact fun _ _ _ h => h
      case yt23z1 => (refine Or.inl ⟨rfl, ?_⟩; intro w hSw; (try dsimp only at hSw); go_simp; try with_reducible rfl)
      case at23z1 => assumption
      case rt23z1 =>
      simp only [Act.put, List.setIfInBounds_toArray, List.set_cons_zero, List.set_cons_succ]
      refine' wpAnyH_take (i := 2) (oi := ?ot24z2) (v := ?vt24z2) ?ht24z2 ?st24z2 ?ft24z2 ?zt24z2 ?qt24z2 ?yt24z2 ?at24z2 ?rt24z2
      case ht24z2 => (simp only [List.getElem?_toArray, List.getElem?_cons_succ, List.getElem?_cons_zero]; rfl)
      case st24z2 => kernel_rfl
      case ft24z2 => kernel_rfl
      case zt24z2 => kernel_rfl
      case qt24z2 => exact fun _ _ _ h => h
      case yt24z2 => (refine Or.inl ⟨rfl, ?_⟩; intro w hSw; (try dsimp only at hSw); go_simp; try with_reducible rfl)
      case at24z2 => assumption
      case rt24z2 =>
      simp only [Act.put, List.setIfInBounds_toArray, List.set_cons_zero, List.set_cons_succ]
      refine' wpAnyH_take (i := 3) (oi := ?ot25z3) (v := ?vt25z3) ?ht25z3 ?st25z3 ?ft25z3 ?zt25z3 ?qt25z3 ?yt25z3 ?at25z3 ?rt25z3
      case ht25z3 => (simp only [List.getElem?_toArray, List.getElem?_cons_succ, List.getElem?_cons_zero]; rfl)
      case st25z3 => kernel_rfl
      case ft25z3 => kernel_rfl
      case zt25z3 => kernel_rfl
      case qt25z3 => exact fun _ _ _ h => h
      case yt25z3 => (refine Or.inl ⟨rfl, ?_⟩; intro w hSw; (try dsimp only at hSw); go_simp; try with_reducible rfl)
      case at25z3 => assumption
      case rt25z3 =>
      simp only [Act.put, List.setIfInBounds_toArray, List.set_cons_zero, List.set_cons_succ]
      refine' wpAnyH_take (i := 4) (oi := ?ot26z4) (v := ?vt26z4) ?ht26z4 ?st26z4 ?ft26z4 ?zt26z4 ?qt26z4 ?yt26z4 ?at26z4 ?rt26z4
      case ht26z4 => (simp only [List.getElem?_toArray, List.getElem?_cons_succ, List.getElem?_cons_zero]; rfl)
      case st26z4 => kernel_rfl
      case ft26z4 => kernel_rfl
      case zt26z4 => kernel_rfl
      case qt26z4 => exact fun _ _ _ h => h
      case yt26z4 => (refine Or.inl ⟨rfl, ?_⟩; intro w hSw; (try dsimp only at hSw); go_simp; try with_reducible rfl)
      case at26z4 => assumption
      case rt26z4 =>
      simp only [Act.put, List.setIfInBounds_toArray, List.set_cons_zero, List.set_cons_succ]
      refine' wpAnyH_take (i := 5) (oi := ?ot27z5) (v := ?vt27z5) ?ht27z5 ?st27z5 ?ft27z5 ?zt27z5 ?qt27z5 ?yt27z5 ?at27z5 ?rt27z5
      case ht27z5 => (simp only [List.getElem?_toArray, List.getElem?_cons_succ, List.getElem?_cons_zero]; rfl)
      case st27z5 => kernel_rfl
      case ft27z5 => kernel_rfl
      case zt27z5 => kernel_rfl
      case qt27z5 => exact fun _ _ _ h => h
      case yt27z5 => (refine Or.inl ⟨rfl, ?_⟩; intro w hSw; (try dsimp only at hSw); go_simp; try with_reducible rfl)
      case at27z5 => assumption
      case rt27z5 =>
      simp only [Act.put, List.setIfInBounds_toArray, List.set_cons_zero, List.set_cons_succ]
      refine' wpAnyH_take (i := 6) (oi := ?ot28z6) (v := ?vt28z6) ?ht28z6 ?st28z6 ?ft28z6 ?zt28z6 ?qt28z6 ?yt28z6 ?at28z6 ?rt28z6
      case ht28z6 => (simp only [List.getElem?_toArray, List.getElem?_cons_succ, List.getElem?_cons_zero]; rfl)
      case st28z6 => kernel_rfl
      case ft28z6 => kernel_rfl
      case zt28z6 => kernel_rfl
      case qt28z6 => exact fun _ _ _ h => h
      case yt28z6 => (refine Or.inl ⟨rfl, ?_⟩; intro w hSw; (try dsimp only at hSw); go_simp; try with_reducible rfl)
      case at28z6 => assumption
      case rt28z6 =>
      simp only [Act.put, List.setIfInBounds_toArray, List.set_cons_zero, List.set_cons_succ]
      refine' wpAnyH_take (i := 7) (oi := ?ot29z7) (v := ?vt29z7) ?ht29z7 ?st29z7 ?ft29z7 ?zt29z7 ?qt29z7 ?yt29z7 ?at29z7 ?rt29z7
      case ht29z7 => (simp only [List.getElem?_toArray, List.getElem?_cons_succ, List.getElem?_cons_zero]; rfl)
      case st29z7 => kernel_rfl
      case ft29z7 => kernel_rfl
      case zt29z7 => kernel_rfl
      case qt29z7 => exact fun _ _ _ h => h
      case yt29z7 => (refine Or.inl ⟨rfl, ?_⟩; intro w hSw; (try dsimp only at hSw); go_simp; try with_reducible rfl)
      case at29z7 => assumption
      case rt29z7 =>
      simp only [Act.put, List.setIfInBounds_toArray, List.set_cons_zero, List.set_cons_succ]
      refine' wpAnyH_take (i := 8) (oi := ?ot30z8) (v := ?vt30z8) ?ht30z8 ?st30z8 ?ft30z8 ?zt30z8 ?qt30z8 ?yt30z8 ?at30z8 ?rt30z8
      case ht30z8 => (simp only [List.getElem?_toArray, List.getElem?_cons_succ, List.getElem?_cons_zero]; rfl)
      case st30z8 => kernel_rfl
      case ft30z8 => kernel_rfl
      case zt30z8 => kernel_rfl
      case qt30z8 => exact fun _ _ _ h => h
      case yt30z8 => (refine Or.inl ⟨rfl, ?_⟩; intro w hSw; (try dsimp only at hSw); go_simp; try with_reducible rfl)
      case at30z8 => assumption
      case rt30z8 =>
      simp only [Act.put, List.setIfInBounds_toArray, List.set_cons_zero, List.set_cons_succ]
      refine' wpAnyH_take (i := 9) (oi := ?ot31z9) (v := ?vt31z9) ?ht31z9 ?st31z9 ?ft31z9 ?zt31z9 ?qt31z9 ?yt31z9 ?at31z9 ?rt31z9
      case ht31z9 => (simp only [List.getElem?_toArray, List.getElem?_cons_succ, List.getElem?_cons_zero]; rfl)
      case st31z9 => kernel_rfl
      case ft31z9 => kernel_rfl
      case zt31z9 => kernel_rfl
      case qt31z9 => exact fun _ _ _ h => h
      case yt31z9 => (refine Or.inl ⟨rfl, ?_⟩; intro w hSw; (try dsimp only at hSw); go_simp; try with_reducible rfl)
      case at31z9 => assumption
      case rt31z9 =>
      simp only [Act.put, List.setIfInBounds_toArray, List.set_cons_zero, List.set_cons_succ]
      refine' wpAnyH_take (i := 10) (oi := ?ot32z10) (v := ?vt32z10) ?ht32z10 ?st32z10 ?ft32z10 ?zt32z10 ?qt32z10 ?yt32z10 ?at32z10 ?rt32z10
      case ht32z10 => (simp only [List.getElem?_toArray, List.getElem?_cons_succ, List.getElem?_cons_zero]; rfl)
      case st32z10 => kernel_rfl
      case ft32z10 => kernel_rfl
      case zt32z10 => kernel_rfl
      case qt32z10 => exact fun _ _ _ h => h
      case yt32z10 => (refine Or.inl ⟨rfl, ?_⟩; intro w hSw; (try dsimp only at hSw); go_simp; try with_reducible rfl)
      case at32z10 => assumption
      case rt32z10 =>
      simp only [Act.put, List.setIfInBounds_toArray, List.set_cons_zero, List.set_cons_succ]
      refine' wpAnyH_take (i := 11) (oi := ?ot33z11) (v := ?vt33z11) ?ht33z11 ?st33z11 ?ft33z11 ?zt33z11 ?qt33z11 ?yt33z11 ?at33z11 ?rt33z11
      case ht33z11 => (simp only [List.getElem?_toArray, List.getElem?_cons_succ, List.getElem?_cons_zero]; rfl)
      case st33z11 => kernel_rfl
      case ft33z11 => kernel_rfl
      case zt33z11 => kernel_rfl
      case qt33z11 => exact fun _ _ _ h => h
      case yt33z11 => (refine Or.inl ⟨rfl, ?_⟩; intro w hSw; (try dsimp only at hSw); go_simp; try with_reducible rfl)
      case at33z11 => assumption
      case rt33z11 =>
      simp only [Act.put, List.setIfInBounds_toArray, List.set_cons_zero, List.set_cons_succ]
      refine' wpAnyH_take (i := 12) (oi := ?ot34z12) (v := ?vt34z12) ?ht34z12 ?st34z12 ?ft34z12 ?zt34z12 ?qt34z12 ?yt34z12 ?at34z12 ?rt34z12
      case ht34z12 => (simp only [List.getElem?_toArray, List.getElem?_cons_succ, List.getElem?_cons_zero]; rfl)
      case st34z12 => kernel_rfl
      case ft34z12 => kernel_rfl
      case zt34z12 => kernel_rfl
      case qt34z12 => exact fun _ _ _ h => h
      case yt34z12 => (refine Or.inl ⟨rfl, ?_⟩; intro w hSw; (try dsimp only at hSw); go_simp; try with_reducible rfl)
      case at34z12 => assumption
      case rt34z12 =>
      simp only [Act.put, List.setIfInBounds_toArray, List.set_cons_zero, List.set_cons_succ]
      refine' wpAnyH_take (i := 13) (oi := ?ot35z13) (v := ?vt35z13) ?ht35z13 ?st35z13 ?ft35z13 ?zt35z13 ?qt35z13 ?yt35z13 ?at35z13 ?rt35z13
      case ht35z13 => (simp only [List.getElem?_toArray, List.getElem?_cons_succ, List.getElem?_cons_zero]; rfl)
      case st35z13 => kernel_rfl
      case ft35z13 => kernel_rfl
      case zt35z13 => kernel_rfl
      case qt35z13 => exact fun _ _ _ h => h
      case yt35z13 => (refine Or.inl ⟨rfl, ?_⟩; intro w hSw; (try dsimp only at hSw); go_simp; try with_reducible rfl)
      case at35z13 => assumption
      case rt35z13 =>
      simp only [Act.put, List.setIfInBounds_toArray, List.set_cons_zero, List.set_cons_succ]
      refine' wpAnyH_take (i := 14) (oi := ?ot36z14) (v := ?vt36z14) ?ht36z14 ?st36z14 ?ft36z14 ?zt36z14 ?qt36z14 ?yt36z14 ?at36z14 ?rt36z14
      case ht36z14 => (simp only [List.getElem?_toArray, List.getElem?_cons_succ, List.getElem?_cons_zero]; rfl)
      case st36z14 => kernel_rfl
      case ft36z14 => kernel_rfl
      case zt36z14 => kernel_rfl
      case qt36z14 => exact fun _ _ _ h => h
      case yt36z14 => (refine Or.inl ⟨rfl, ?_⟩; intro w hSw; (try dsimp only at hSw); go_simp; try with_reducible rfl)
      case at36z14 => assumption
      case rt36z14 =>
      simp only [Act.put, List.setIfInBounds_toArray, List.set_cons_zero, List.set_cons_succ]
      refine' wpAnyH_take (i := 15) (oi := ?ot37z15) (v := ?vt37z15) ?ht37z15 ?st37z15 ?ft37z15 ?zt37z15 ?qt37z15 ?yt37z15 ?at37z15 ?rt37z15
      case ht37z15 => (simp only [List.getElem?_toArray, List.getElem?_cons_succ, List.getElem?_cons_zero]; rfl)
      case st37z15 => kernel_rfl
      case ft37z15 => kernel_rfl
      case zt37z15 => kernel_rfl
      case qt37z15 => exact fun _ _ _ h => h
      case yt37z15 => (refine Or.inl ⟨rfl, ?_⟩; intro w hSw; (try dsimp only at hSw); go_simp; try with_reducible rfl)
      case at37z15 => assumption
      case rt37z15 =>
      simp only [Act.put, List.setIfInBounds_toArray, List.set_cons_zero, List.set_cons_succ]
      refine' wpAnyH_take (i := 16) (oi := ?ot38z16) (v := ?vt38z16) ?ht38z16 ?st38z16 ?ft38z16 ?zt38z16 ?qt38z16 ?yt38z16 ?at38z16 ?rt38z16
      case ht38z16 => (simp only [List.getElem?_toArray, List.getElem?_cons_succ, List.getElem?_cons_zero]; rfl)
      case st38z16 => kernel_rfl
      case ft38z16 => kernel_rfl
      case zt38z16 => kernel_rfl
      case qt38z16 => exact fun _ _ _ h => h
      case yt38z16 => (refine Or.inl ⟨rfl, ?_⟩; intro w hSw; (try dsimp only at hSw); go_simp; try with_reducible rfl)
      case at38z16 => assumption
      case rt38z16 =>
      simp only [Act.put, List.setIfInBounds_toArray, List.set_cons_zero, List.set_cons_succ]
      refine' wpAnyH_take (i := 17) (oi := ?ot39z17) (v := ?vt39z17) ?ht39z17 ?st39z17 ?ft39z17 ?zt39z17 ?qt39z17 ?yt39z17 ?at39z17 ?rt39z17
      case ht39z17 => (simp only [List.getElem?_toArray, List.getElem?_cons_succ, List.getElem?_cons_zero]; rfl)
      case st39z17 => kernel_rfl
      case ft39z17 => kernel_rfl
      case zt39z17 => kernel_rfl
      case qt39z17 => exact fun _ _ _ h => h
      case yt39z17 => (refine Or.inl ⟨rfl, ?_⟩; intro w hSw; (try dsimp only at hSw); go_simp; try with_reducible rfl)
      case at39z17 => assumption
      case rt39z17 =>
      simp only [Act.put, List.setIfInBounds_toArray, List.set_cons_zero, List.set_cons_succ]
      refine wpAnyH_ready (rs := [18]) (by kernel_rfl) (by simp) ?_
      refine' AllReadyH.cons (o := ?ob40z18) ?hb40z18 ?kb40z18 AllReadyH.nil
      case hb40z18 => (simp only [List.getElem?_toArray, List.getElem?_cons_succ, List.getElem?_cons_zero]; rfl)
      case kb40z18 =>
        intro K0 hK
        go_simp
        rw [HE.out K, HM5.out K]
        have hA := Ask_any (id := ((K % 5 : Nat) : Int)) (name := nmF K) 2 w wd _ S0.out HT.out (i64w_nat (by omega)) (HN.out K) HV.out (by omega) (by show 0 + cntH H ≤ _; rw [HI.out.cnt]; omega)
        unfold bPtr at hA
        refine hA.mono ?_
        rintro e w3 ⟨cc, H3, L3, W3, rfl, t, hX⟩
        have hv3 := t.inv HV.out (i64w_nat (by omega)) (HN.out K)
        obtain ⟨rfl, rfl, rfl, hf1, hf2⟩ := fu_ask2 HI.out HV.out.ap (by omega) t
        have S3 := Lib.hid hX
        have HV3 := Lib.hid hv3
        have HF1 := Lib.hid hf1
        have HF2 := Lib.hid hf2
        clear hA hX S0 t hv3 hf1 hf2 HI HV
        refine hK.out _ _ ?_ (fun hHeld => ?_)
        · trivial
        clear hK K0
        (try simp only [Act.put, List.setIfInBounds_toArray, List.set_cons_zero, List.set_cons_succ])
        (try clear hH2)
        refine' wpAnyH_take (i := 19) (oi := ?ot42z19) (v := ?vt42z19) ?ht42z19 ?st42z19 ?ft42z19 ?zt42z19 ?qt42z19 ?yt42z19 ?at42z19 ?rt42z19
        case ht42z19 => (simp only [List.getElem?_toArray, List.getElem?_cons_succ, List.getElem?_cons_zero]; rfl)
        case st42z19 => kernel_rfl
        case ft42z19 => kernel_rfl
        case zt42z19 => kernel_rfl
        case qt42z19 => exact fun _ _ _ h => h
        case yt42z19 => (refine Or.inl ⟨rfl, ?_⟩; intro w hSw; (try dsimp only at hSw); go_simp; try with_reducible rfl)
        case at42z19 => assumption
        case rt42z19 =>
        simp only [Act.put, List.setIfInBounds_toArray, List.set_cons_zero, List.set_cons_succ]
        refine' wpAnyH_take (i := 20) (oi := ?ot43z20) (v := ?vt43z20) ?ht43z20 ?st43z20 ?ft43z20 ?zt43z20 ?qt43z20 ?yt43z20 ?at43z20 ?rt43z20
        case ht43z20 => (simp only [List.getElem?_toArray, List.getElem?_cons_succ, List.getElem?_cons_zero]; rfl)
        case st43z20 => kernel_rfl
        case ft43z20 => kernel_rfl
        case zt43z20 => kernel_rfl
        case qt43z20 => exact fun _ _ _ h => h
        case yt43z20 => (refine Or.inl ⟨rfl, ?_⟩; intro w hSw; (try dsimp only at hSw); go_simp; try with_reducible rfl)
        case at43z20 => assumption
        case rt43z20 =>
        simp only [Act.put, List.setIfInBounds_toArray, List.set_cons_zero, List.set_cons_succ]
        refine' wpAnyH_take (i := 21) (oi := ?ot44z21) (v := ?vt44z21) ?ht44z21 ?st44z21 ?ft44z21 ?zt44z21 ?qt44z21 ?yt44z21 ?at44z21 ?rt44z21
        case ht44z21 => (simp only [List.getElem?_toArray, List.getElem?_cons_succ, List.getElem?_cons_zero]; rfl)
        case st44z21 => kernel_rfl
        case ft44z21 => kernel_rfl
        case zt44z21 => kernel_rfl
        case qt44z21 => exact fun _ _ _ h => h
        case yt44z21 => (refine Or.inl ⟨rfl, ?_⟩; intro w hSw; (try dsimp only at hSw); go_simp; try with_reducible rfl)
        case at44z21 => assumption
        case rt44z21 =>
        simp only [Act.put, List.setIfInBounds_toArray, List.set_cons_zero, List.set_cons_succ]
        refine' wpAnyH_take (i := 22) (oi := ?ot45z22) (v := ?vt45z22) ?ht45z22 ?st45z22 ?ft45z22 ?zt45z22 ?qt45z22 ?yt45z22 ?at45z22 ?rt45z22
        case ht45z22 => (simp only [List.getElem?_toArray, List.getElem?_cons_succ, List.getElem?_cons_zero]; rfl)
        case st45z22 => kernel_rfl
        case ft45z22 => kernel_rfl
        case zt45z22 => kernel_rfl
        case qt45z22 => exact fun _ _ _ h => h
        case yt45z22 => (refine Or.inl ⟨rfl, ?_⟩; intro w hSw; (try dsimp only at hSw); go_simp; try with_reducible rfl)
        case at45z22 => assumption
        case rt45z22 =>
        simp only [Act.put, List.setIfInBounds_toArray, List.set_cons_zero, List.set_cons_succ]
        refine wpAnyH_ready (rs := [23]) (by kernel_rfl) (by simp) ?_
        refine' AllReadyH.cons (o := ?ob46z23) ?hb46z23 ?kb46z23 AllReadyH.nil
        case hb46z23 => (simp only [List.getElem?_toArray, List.getElem?_cons_succ, List.getElem?_cons_zero]; rfl)
        case kb46z23 =>
          intro K0 hK
          go_simp
          have hA := Ask_any (id := id) (name := nw) 3 w w3 _ S3.out HT.out HID.out HNW.out HV3.out (by omega) (by show 0 + cntH H3 ≤ _; rw [HF1.out]; omega)
          unfold bPtr at hA
          refine hA.mono ?_
          rintro e w4 ⟨cc, H4, L4, W4, rfl, t, hX⟩
          obtain ⟨rfl, rfl, rfl, rfl⟩ := fu_ask3 HF1.out HF2.out t
          have S4 := Lib.hid hX
          clear hA hX S3 t
          refine hK.out _ _ ?_ (fun hHeld => ?_)
          · trivial
          clear hK K0
          (try simp only [Act.put, List.setIfInBounds_toArray, List.set_cons_zero, List.set_cons_succ])
          (try clear hH2)
          refine' wpAnyH_take (i := 24) (oi := ?ot48z24) (v := ?vt48z24) ?ht48z24 ?st48z24 ?ft48z24 ?zt48z24 ?qt48z24 ?yt48z24 ?at48z24 ?rt48z24
          case ht48z24 => (simp only [List.getElem?_toArray, List.getElem?_cons_succ, List.getElem?_cons_zero]; rfl)
          case st48z24 => kernel_rfl
          case ft48z24 => kernel_rfl
          case zt48z24 => kernel_rfl
          case qt48z24 => exact fun _ _ _ h => h
          case yt48z24 => (refine Or.inl ⟨rfl, ?_⟩; intro w hSw; (try dsimp only at hSw); go_simp; try with_reducible rfl)
          case at48z24 => assumption
          case rt48z24 =>
          simp only [Act.put, List.setIfInBounds_toArray, List.set_cons_zero, List.set_cons_succ]
          refine' wpAnyH_take (i := 25) (oi := ?ot49z25) (v := ?vt49z25) ?ht49z25 ?st49z25 ?ft49z25 ?zt49z25 ?qt49z25 ?yt49z25 ?at49z25 ?rt49z25
          case ht49z25 => (simp only [List.getElem?_toArray, List.getElem?_cons_succ, List.getElem?_cons_zero]; rfl)
          case st49z25 => kernel_rfl
          case ft49z25 => kernel_rfl
          case zt49z25 => kernel_rfl
          case qt49z25 => exact fun _ _ _ h => h
          case yt49z25 => (refine Or.inl ⟨rfl, ?_⟩; intro w hSw; (try dsimp only at hSw); go_simp; try with_reducible rfl)
          case at49z25 => assumption
          case rt49z25 =>
          simp only [Act.put, List.setIfInBounds_toArray, List.set_cons_zero, List.set_cons_succ]
          refine' wpAnyH_take (i := 26) (oi := ?ot50z26) (v := ?vt50z26) ?ht50z26 ?st50z26 ?ft50z26 ?zt50z26 ?qt50z26 ?yt50z26 ?at50z26 ?rt50z26
          case ht50z26 => (simp only [List.getElem?_toArray, List.getElem?_cons_succ, List.getElem?_cons_zero]; rfl)
          case st50z26 => kernel_rfl
          case ft50z26 => kernel_rfl
          case zt50z26 => kernel_rfl
          case qt50z26 => exact fun _ _ _ h => h
          case yt50z26 => (refine Or.inl ⟨rfl, ?_⟩; intro w hSw; (try dsimp only at hSw); go_simp; try with_reducible rfl)
          case at50z26 => assumption
          case rt50z26 =>
          simp only [Act.put, List.setIfInBounds_toArray, List.set_cons_zero, List.set_cons_succ]
          refine' wpAnyH_take (i := 27) (oi := ?ot51z27) (v := ?vt51z27) ?ht51z27 ?st51z27 ?ft51z27 ?zt51z27 ?qt51z27 ?yt51z27 ?at51z27 ?rt51z27
          case ht51z27 => (simp only [List.getElem?_toArray, List.getElem?_cons_succ, List.getElem?_cons_zero]; rfl)
          case st51z27 => kernel_rfl
          case ft51z27 => kernel_rfl
          case zt51z27 => kernel_rfl
          case qt51z27 => exact fun _ _ _ h => h
          case yt51z27 => (refine Or.inl ⟨rfl, ?_⟩; intro w hSw; (try dsimp only at hSw); go_simp; try with_reducible rfl)
          case at51z27 => assumption
          case rt51z27 =>
          simp only [Act.put, List.setIfInBounds_toArray, List.set_cons_zero, List.set_cons_succ]
          refine wpAnyH_ready (rs := [28]) (by kernel_rfl) (by simp) ?_
          refine' AllReadyH.cons (o := ?ob52z28) ?hb52z28 ?kb52z28 AllReadyH.nil
          case hb52z28 => (simp only [List.getElem?_toArray, List.getElem?_cons_succ, List.getElem?_cons_zero]; rfl)
          case kb52z28 =>
            intro K0 hK
            go_simp
            have hC := Count_any w4 (bk_of S4.out) (by show 0 + cntH H4 ≤ _; rw [HF1.out]; omega)
            have hce : ((cnt H4 [] : Nat) : Int) = 300 := by show ((0 + cntH H4 : Nat) : Int) = 300; rw [HF1.out]; rfl
            rw [hce] at hC
            unfold bPtr at hC
            clear hce
            refine hC.mono ?_
            rintro e w5 ⟨rfl, hb⟩
            have S5 := Lib.hid (S4.out.below hb)
            clear hb S4 hC
            refine hK.out _ _ ?_ (fun hHeld => ?_)
            · trivial
            clear hK K0
            (try simp only [Act.put, List.setIfInBounds_toArray, List.set_cons_zero, List.set_cons_succ])
            (try clear hH2)
            refine' wpAnyH_take (i := 29) (oi := ?ot54z29) (v := ?vt54z29) ?ht54z29 ?st54z29 ?ft54z29 ?zt54z29 ?qt54z29 ?yt54z29 ?at54z29 ?rt54z29
            case ht54z29 => (simp only [List.getElem?_toArray, List.getElem?_cons_succ, List.getElem?_cons_zero]; rfl)
            case st54z29 => kernel_rfl
            case ft54z29 => kernel_rfl
            case zt54z29 => kernel_rfl
            case qt54z29 => exact fun _ _ _ h => h
            case yt54z29 => (refine Or.inl ⟨rfl, ?_⟩; intro w hSw; (try dsimp only at hSw); go_simp; try with_reducible rfl)
            case at54z29 => assumption
            case rt54z29 =>
            simp only [Act.put, List.setIfInBounds_toArray, List.set_cons_zero, List.set_cons_succ]
            refine' wpAnyH_take (i := 30) (oi := ?ot55z30) (v := ?vt55z30) ?ht55z30 ?st55z30 ?ft55z30 ?zt55z30 ?qt55z30 ?yt55z30 ?at55z30 ?rt55z30
            case ht55z30 => (simp only [List.getElem?_toArray, List.getElem?_cons_succ, List.getElem?_cons_zero]; rfl)
            case st55z30 => kernel_rfl
            case ft55z30 => kernel_rfl
            case zt55z30 => kernel_rfl
            case qt55z30 => exact fun _ _ _ h => h
            case yt55z30 => (refine Or.inl ⟨rfl, ?_⟩; intro w hSw; (try dsimp only at hSw); go_simp; try with_reducible rfl)
            case at55z30 => assumption
            case rt55z30 =>
            simp only [Act.put, List.setIfInBounds_toArray, List.set_cons_zero, List.set_cons_succ]
            refine' wpAnyH_take (i := 31) (oi := ?ot56z31) (v := ?vt56z31) ?ht56z31 ?st56z31 ?ft56z31 ?zt56z31 ?qt56z31 ?yt56z31 ?at56z31 ?rt56z31
            case ht56z31 => (simp only [List.getElem?_toArray, List.getElem?_cons_succ, List.getElem?_cons_zero]; rfl)
            case st56z31 => kernel_rfl
            case ft56z31 => kernel_rfl
            case zt56z31 => kernel_rfl
            case qt56z31 => exact fun _ _ _ h => h
            case yt56z31 => (refine Or.inl ⟨rfl, ?_⟩; intro w hSw; (try dsimp only at hSw); go_simp; try with_reducible rfl)
            case at56z31 => assumption
            case rt56z31 =>
            simp only [Act.put, List.setIfInBounds_toArray, List.set_cons_zero, List.set_cons_succ]
            refine' wpAnyH_take (i := 32) (oi := ?ot57z32) (v := ?vt57z32) ?ht57z32 ?st57z32 ?ft57z32 ?zt57z32 ?qt57z32 ?yt57z32 ?at57z32 ?rt57z32
            case ht57z32 => (simp only [List.getElem?_toArray, List.getElem?_cons_succ, List.getElem?_cons_zero]; rfl)
            case st57z32 => kernel_rfl
            case ft57z32 => kernel_rfl
            case zt57z32 => kernel_rfl
            case qt57z32 => exact fun _ _ _ h => h
            case yt57z32 => (refine Or.inl ⟨rfl, ?_⟩; intro w hSw; (try dsimp only at hSw); go_simp; try with_reducible rfl)
            case at57z32 => assumption
            case rt57z32 =>
            simp only [Act.put, List.setIfInBounds_toArray, List.set_cons_zero, List.set_cons_succ]
            refine' wpAnyH_take (i := 33) (oi := ?ot58z33) (v := ?vt58z33) ?ht58z33 ?st58z33 ?ft58z33 ?zt58z33 ?qt58z33 ?yt58z33 ?at58z33 ?rt58z33
            case ht58z33 => (simp only [List.getElem?_toArray, List.getElem?_cons_succ, List.getElem?_cons_zero]; rfl)
            case st58z33 => kernel_rfl
            case ft58z33 => kernel_rfl
            case zt58z33 => kernel_rfl
            case qt58z33 => exact fun _ _ _ h => h
            case yt58z33 => (refine Or.inl ⟨rfl, ?_⟩; intro w hSw; (try dsimp only at hSw); go_simp; try with_reducible rfl)
            case at58z33 => assumption
            case rt58z33 =>
            simp only [Act.put, List.setIfInBounds_toArray, List.set_cons_zero, List.set_cons_succ]
            refine wpAnyH_ready (rs := [34]) (by kernel_rfl) (by simp) ?_
            refine' AllReadyH.cons (o := ?ob59z34) ?hb59z34 ?kb59z34 AllReadyH.nil
            case hb59z34 => (simp only [List.getElem?_toArray, List.getElem?_cons_succ, List.getElem?_cons_zero]; rfl)
            case kb59z34 =>
              intro K0 hK
              go_simp
              have hA := Ask_any (id := id) (name := nw) 0 w w5 _ S5.out HT.out HID.out HNW.out HV3.out (by omega) (by show 0 + cntH H4 ≤ _; rw [HF1.out]; omega)
              unfold bPtr at hA
              refine hA.mono ?_
              rintro e w6 ⟨cc, H6, L6, W6, rfl, t, hX⟩
              obtain rfl := fu_ask4 HF2.out t
              have S6 := Lib.hid hX
              clear hA hX S5 t
              refine hK.out _ _ ?_ (fun hHeld => ?_)
              · trivial
              clear hK K0
              (try simp only [Act.put, List.setIfInBounds_toArray, List.set_cons_zero, List.set_cons_succ])
              (try clear hH2)
              refine' wpAnyH_take (i := 35) (oi := ?ot61z35) (v := ?vt61z35) ?ht61z35 ?st61z35 ?ft61z35 ?zt61z35 ?qt61z35 ?yt61z35 ?at61z35 ?rt61z35
              case ht61z35 => (simp only [List.getElem?_toArray, List.getElem?_cons_succ, List.getElem?_cons_zero]; rfl)
              case st61z35 => kernel_rfl
              case ft61z35 => kernel_rfl
              case zt61z35 => kernel_rfl
              case qt61z35 => exact fun _ _ _ h => h
              case yt61z35 => (refine Or.inl ⟨rfl, ?_⟩; intro w hSw; (try dsimp only at hSw); go_simp; try with_reducible rfl)
              case at61z35 => assumption
              case rt61z35 =>
              simp only [Act.put, List.setIfInBounds_toArray, List.set_cons_zero, List.set_cons_succ]
              refine' wpAnyH_take (i := 36) (oi := ?ot62z36) (v := ?vt62z36) ?ht62z36 ?st62z36 ?ft62z36 ?zt62z36 ?qt62z36 ?yt62z36 ?at62z36 ?rt62z36
              case ht62z36 => (simp only [List.getElem?_toArray, List.getElem?_cons_succ, List.getElem?_cons_zero]; rfl)
              case st62z36 => kernel_rfl
              case ft62z36 => kernel_rfl
              case zt62z36 => kernel_rfl
              case qt62z36 => exact fun _ _ _ h => h
              case yt62z36 => (refine Or.inl ⟨rfl, ?_⟩; intro w hSw; (try dsimp only at hSw); go_simp; try with_reducible rfl)
              case at62z36 => assumption
              case rt62z36 =>
              simp only [Act.put, List.setIfInBounds_toArray, List.set_cons_zero, List.set_cons_succ]
              refine' wpAnyH_take (i := 37) (oi := ?ot63z37) (v := ?vt63z37) ?ht63z37 ?st63z37 ?ft63z37 ?zt63z37 ?qt63z37 ?yt63z37 ?at63z37 ?rt63z37
              case ht63z37 => (simp only [List.getElem?_toArray, List.getElem?_cons_succ, List.getElem?_cons_zero]; rfl)
              case st63z37 => kernel_rfl
              case ft63z37 => kernel_rfl
              case zt63z37 => kernel_rfl
              case qt63z37 => exact fun _ _ _ h => h
              case yt63z37 => (refine Or.inl ⟨rfl, ?_⟩; intro w hSw; (try dsimp only at hSw); go_simp; try with_reducible rfl)
              case at63z37 => assumption
              case rt63z37 =>
              simp only [Act.put, List.setIfInBounds_toArray, List.set_cons_zero, List.set_cons_succ]
              refine wpAnyH_done (by kernel_rfl) ?_ _
              go_wp2_with fail
              go_returns
              exact ⟨rfl, S6.out.bel⟩
end Go.Proofs.YtikdjgholjealaaDoor.Lk
