/- The law's world: a deed that puts. -/
import Derived.Test.YteiiogaopgfpfaaBmM
namespace Go.Proofs.Yteiiogaopgfpfaa.Bk
open Go.ChangeShapes Go.WideShapes Go.ChangeAt Go.RowKit Go.PlainAid Aid Nt Nd Tr
open Ky (keyZ key_any)
set_option linter.unusedVariables false
set_option linter.unusedSimpArgs false
set_option linter.unusedSectionVars false
/-- The world is one that is a tree with what is left to do. -/
def WP (g gs n0 : Nat) (B : Asn) : Prop := ∃ (S : Sf) (V : Nat → Value) (vl : Value) (l : List Ent) (vp : Value) (ps : List Du) (n top : Nat) (ch : Nat → List Nat), WS S l ps n top ch ∧ n ≤ n0 + 8 ∧ B = aWd g gs S V vl l vp (ps.map du) n
theorem mkc {w0 W : World} {D : Asn} {gm z : Nat} (h : Own w0 No W (Asn.blk gm 5 (madeCells #[.int .u8 0] z) * D)) : (convert 63 9 (.slice (some ⟨gm, 0, none⟩) z z)).run Try.prog W = .ok (.string (ofL (List.replicate z 0))) W := by
  have hb := h.has (Has.l (has_blk gm _ _))
  refine conv_row Try.underlying63 Try.underlying5 Try.underlying9 gm 0 z (List.replicate z 0) (fun i x hx => ?_) z (by simp)
  obtain ⟨hi, rfl⟩ := List.getElem?_eq_some_iff.1 hx
  simp at hi
  rw [Nat.zero_add, hb.cell i, List.getElem_replicate]
  simp [madeCells, hi, Nat.mod_one]
theorem val_act (N : Int) : ∃ z : Nat, z < 60 ∧ IntKind.i64.wrap ((IntKind.u64.wrap N).tmod 60) = (z : Int) := by
  obtain ⟨z, h1, h2⟩ := mod_u N 60 (by decide) (by decide)
  exact ⟨z, by omega, by rw [i64_is]; exact h1⟩
set_option maxRecDepth 100000 in
set_option maxHeartbeats 16000000 in
theorem do_put1 (g gs : Nat) (S : Sf) (V : Nat → Value) (vl : Value) (l : List Ent) (vp : Value) (ps : List Du) (n top : Nat) (ch : Nat → List Nat) (K N : Int) (hW : WS S l ps n top ch) (hn : n + 8 < 256)
    (w0 w : World) (C : Asn) (hS : Own w0 No w (aWd g gs S V vl l vp (ps.map du) n * C)) :
    Calls Try.prog 9 #[.pointer (some ⟨g, 0, none⟩), .agg #[.int .i64 1, .int .i64 K, .int .i64 N]] w fun r w' => r = .returned (.bool true) ∧ ∃ B, WP g gs n B ∧ Own w0 No w' (B * C) := by
  obtain ⟨q, hq, hqe⟩ := key_act K
  obtain ⟨z, hz, hze⟩ := val_act N
  have HP : Hid (∀ gh W D, Own w0 No W (aWd g gs S V vl l vp (ps.map du) n * D) → Calls Try.prog 23 #[.pointer (some ⟨g, 0, none⟩), .agg #[.string (ofL (keyZ q)), .string (ofL (List.replicate z 0)), .bool gh]] W fun r w' => r = .returned (.bool true) ∧ ∃ B, WP g gs n B ∧ Own w0 No w' (B * D)) := Lib.hid (fun gh W D h => by
    refine (put_law g gs S V vl l vp ps n top ch ⟨keyZ q, List.replicate z 0, gh⟩ hW hn rfl (by rw [List.length_replicate]; omega) w0 W D h).mono ?_
    rintro r w' ⟨rfl, S', V', vl', vp', ps', n', top', ch', h1, h2, h3⟩
    exact ⟨rfl, _, ⟨S', V', vl', _, vp', ps', n', top', ch', h1, h2, rfl⟩, h3⟩)
  have S0 := Lib.hid (hS.alloc #[.int .i64 1, .int .i64 K, .int .i64 N] 33)
  have hmk : ∀ W : World, (Instr.makeSlice 63 (.int .i64 z) (.int .i64 z)).run Try.prog W = .ok (.slice (some ⟨W.heap.size, 0, none⟩) z z) (W.alloc (.cells (madeCells #[.int .u8 0] z) 5)) := fun W => by
    have := make_rows (P := Try.prog) 63 5 (.int .u8 0) 1 1 Try.underlying63 (by kernel_rfl) .i64 .i64 z (by omega) (by omega) W
    rw [Nat.mul_one] at this
    exact this
  clear hW hS
  generalize aWd g gs S V vl l vp (ps.map du) n = BB at *
  go_enter Try.func9, Try.ntmps9
  go_upto_region 1 with fail
  obtain ⟨ge, hgz⟩ : ∃ g, g = w.heap.size := ⟨_, rfl⟩
  rw [← hgz] at S0 ⊢
  clear hgz
  generalize World.alloc w _ = w1 at *
  obtain ⟨⟨e0, e1, e2⟩, -⟩ := three_ofE (S0.out.has (Has.l (has_blk ge _ _)))
  go_wp2_with fail
  refine (key_any q w1 (by omega) (by omega)).mono ?_
  rintro e w2 ⟨rfl, hX⟩
  have S1 := Lib.hid (S0.out.below hX)
  clear hX S0 e0 e1 e2
  obtain ⟨⟨e0, e1, e2⟩, -⟩ := three_ofE (S1.out.has (Has.l (has_blk ge _ _)))
  go_upto_region 5 with fail
  have S2 := Lib.hid S1.out.drew
  clear S1
  refine wp_region_held_drew (S := fun W : World => W.cell? ⟨ge, 0, none⟩ = some (.int .i64 1) ∧ W.cell? ⟨ge, 2, none⟩ = some (.int .i64 N)) (by kernel_rfl) ⟨e0, e2⟩ (fun hHeld => ?_)
  clear e0 e1 e2
  generalize w2.drew = w3 at *
  refine' wpAnyH_take (i := 0) (oi := ?ot1z0) (v := ?vt1z0) ?ht1z0 ?st1z0 ?ft1z0 ?zt1z0 ?qt1z0 ?yt1z0 ?at1z0 ?rt1z0
  case ht1z0 => (simp only [List.getElem?_toArray, List.getElem?_cons_succ, List.getElem?_cons_zero]; rfl)
  case st1z0 => kernel_rfl
  case ft1z0 => kernel_rfl
  case zt1z0 => kernel_rfl
  case qt1z0 => exact fun _ _ _ h => h
  case yt1z0 => (refine Or.inl ⟨rfl, ?_⟩; intro w hSw; (try dsimp only at hSw); go_simp; try with_reducible rfl)
  case at1z0 => assumption
  case rt1z0 =>
  simp only [Act.put, List.setIfInBounds_toArray, List.set_cons_zero, List.set_cons_succ]
  refine' wpAnyH_take (i := 1) (oi := ?ot2z1) (v := ?vt2z1) ?ht2z1 ?st2z1 ?ft2z1 ?zt2z1 ?qt2z1 ?yt2z1 ?at2z1 ?rt2z1
  case ht2z1 => (simp only [List.getElem?_toArray, List.getElem?_cons_succ, List.getElem?_cons_zero]; rfl)
  case st2z1 => kernel_rfl
  case ft2z1 => kernel_rfl
  case zt2z1 => kernel_rfl
  case qt2z1 => exact fun _ _ _ h => h
  case yt2z1 => (refine Or.inl ⟨rfl, ?_⟩; intro w hSw; (try dsimp only at hSw); go_simp; try with_reducible rfl)
  case at2z1 => assumption
  case rt2z1 =>
  simp only [Act.put, List.setIfInBounds_toArray, List.set_cons_zero, List.set_cons_succ]
  refine' wpAnyH_take (i := 2) (oi := ?ot3z2) (v := ?vt3z2) ?ht3z2 ?st3z2 ?ft3z2 ?zt3z2 ?qt3z2 ?yt3z2 ?at3z2 ?rt3z2
  case ht3z2 => (simp only [List.getElem?_toArray, List.getElem?_cons_succ, List.getElem?_cons_zero]; rfl)
  case st3z2 => kernel_rfl
  case ft3z2 => kernel_rfl
  case zt3z2 => kernel_rfl
  case qt3z2 => exact fun _ _ _ h => h
  case yt3z2 => (refine Or.inl ⟨rfl, ?_⟩; intro w hSw; (try dsimp only at hSw); go_simp; try with_reducible rfl)
  case at3z2 => assumption
  case rt3z2 =>
  simp only [Act.put, List.setIfInBounds_toArray, List.set_cons_zero, List.set_cons_succ]
  refine' wpAnyH_take (i := 3) (oi := ?ot4z3) (v := ?vt4z3) ?ht4z3 ?st4z3 ?ft4z3 ?zt4z3 ?qt4z3 ?yt4z3 ?at4z3 ?rt4z3
  case ht4z3 => (simp only [List.getElem?_toArray, List.getElem?_cons_succ, List.getElem?_cons_zero]; rfl)
  case st4z3 => kernel_rfl
  case ft4z3 => kernel_rfl
  case zt4z3 => kernel_rfl
  case qt4z3 => exact fun _ _ _ h => h
  case yt4z3 => (refine Or.inl ⟨rfl, ?_⟩; intro w hSw; obtain ⟨hS1, hS2⟩ := hSw; go_simp; try with_reducible rfl)
  case at4z3 => assumption
  case rt4z3 =>
  simp only [Act.put, List.setIfInBounds_toArray, List.set_cons_zero, List.set_cons_succ]
  refine' wpAnyH_take (i := 4) (oi := ?ot5z4) (v := ?vt5z4) ?ht5z4 ?st5z4 ?ft5z4 ?zt5z4 ?qt5z4 ?yt5z4 ?at5z4 ?rt5z4
  case ht5z4 => (simp only [List.getElem?_toArray, List.getElem?_cons_succ, List.getElem?_cons_zero]; rfl)
  case st5z4 => kernel_rfl
  case ft5z4 => kernel_rfl
  case zt5z4 => kernel_rfl
  case qt5z4 => exact fun _ _ _ h => h
  case yt5z4 => (refine Or.inl ⟨rfl, ?_⟩; intro w hSw; (try dsimp only at hSw); go_simp; try with_reducible rfl)
  case at5z4 => assumption
  case rt5z4 =>
  simp only [Act.put, List.setIfInBounds_toArray, List.set_cons_zero, List.set_cons_succ]
  refine' wpAnyH_take (i := 5) (oi := ?ot6z5) (v := ?vt6z5) ?ht6z5 ?st6z5 ?ft6z5 ?zt6z5 ?qt6z5 ?yt6z5 ?at6z5 ?rt6z5
  case ht6z5 => (simp only [List.getElem?_toArray, List.getElem?_cons_succ, List.getElem?_cons_zero]; rfl)
  case st6z5 => kernel_rfl
  case ft6z5 => kernel_rfl
  case zt6z5 => kernel_rfl
  case qt6z5 => exact fun _ _ _ h => h
  case yt6z5 => (refine Or.inl ⟨rfl, ?_⟩; intro w hSw; (try dsimp only at hSw); go_simp; try with_reducible rfl)
  case at6z5 => assumption
  case rt6z5 =>
  simp only [Act.put, List.setIfInBounds_toArray, List.set_cons_zero, List.set_cons_succ]
  refine' wpAnyH_take (i := 6) (oi := ?ot7z6) (v := ?vt7z6) ?ht7z6 ?st7z6 ?ft7z6 ?zt7z6 ?qt7z6 ?yt7z6 ?at7z6 ?rt7z6
  case ht7z6 => (simp only [List.getElem?_toArray, List.getElem?_cons_succ, List.getElem?_cons_zero]; rfl)
  case st7z6 => kernel_rfl
  case ft7z6 => kernel_rfl
  case zt7z6 => kernel_rfl
  case qt7z6 => exact fun _ _ _ h => h
  case yt7z6 => (refine Or.inl ⟨rfl, ?_⟩; intro w hSw; (try dsimp only at hSw); go_simp; try with_reducible rfl)
  case at7z6 => assumption
  case rt7z6 =>
  simp only [Act.put, List.setIfInBounds_toArray, List.set_cons_zero, List.set_cons_succ]
  refine' wpAnyH_take (i := 9) (oi := ?ot8z9) (v := ?vt8z9) ?ht8z9 ?st8z9 ?ft8z9 ?zt8z9 ?qt8z9 ?yt8z9 ?at8z9 ?rt8z9
  case ht8z9 => (simp only [List.getElem?_toArray, List.getElem?_cons_succ, List.getElem?_cons_zero]; rfl)
  case st8z9 => kernel_rfl
  case ft8z9 => kernel_rfl
  case zt8z9 => kernel_rfl
  case qt8z9 => exact fun _ _ _ h => h
  case yt8z9 => (refine Or.inl ⟨rfl, ?_⟩; intro w hSw; (try dsimp only at hSw); go_simp; try with_reducible rfl)
  case at8z9 => assumption
  case rt8z9 =>
  simp only [Act.put, List.setIfInBounds_toArray, List.set_cons_zero, List.set_cons_succ]
  refine' wpAnyH_take (i := 10) (oi := ?ot9z10) (v := ?vt9z10) ?ht9z10 ?st9z10 ?ft9z10 ?zt9z10 ?qt9z10 ?yt9z10 ?at9z10 ?rt9z10
  case ht9z10 => (simp only [List.getElem?_toArray, List.getElem?_cons_succ, List.getElem?_cons_zero]; rfl)
  case st9z10 => kernel_rfl
  case ft9z10 => kernel_rfl
  case zt9z10 => kernel_rfl
  case qt9z10 => exact fun _ _ _ h => h
  case yt9z10 => (refine Or.inl ⟨rfl, ?_⟩; intro w hSw; obtain ⟨hS1, hS2⟩ := hSw; go_simp; try with_reducible rfl)
  case at9z10 => assumption
  case rt9z10 =>
  simp only [Act.put, List.setIfInBounds_toArray, List.set_cons_zero, List.set_cons_succ]
  refine' wpAnyH_take (i := 11) (oi := ?ot10z11) (v := ?vt10z11) ?ht10z11 ?st10z11 ?ft10z11 ?zt10z11 ?qt10z11 ?yt10z11 ?at10z11 ?rt10z11
  case ht10z11 => (simp only [List.getElem?_toArray, List.getElem?_cons_succ, List.getElem?_cons_zero]; rfl)
  case st10z11 => kernel_rfl
  case ft10z11 => kernel_rfl
  case zt10z11 => kernel_rfl
  case qt10z11 => exact fun _ _ _ h => h
  case yt10z11 => (refine Or.inl ⟨rfl, ?_⟩; intro w hSw; (try dsimp only at hSw); go_simp; try with_reducible rfl)
  case at10z11 => assumption
  case rt10z11 =>
  simp only [Act.put, List.setIfInBounds_toArray, List.set_cons_zero, List.set_cons_succ]
  refine' wpAnyH_take (i := 12) (oi := ?ot11z12) (v := ?vt11z12) ?ht11z12 ?st11z12 ?ft11z12 ?zt11z12 ?qt11z12 ?yt11z12 ?at11z12 ?rt11z12
  case ht11z12 => (simp only [List.getElem?_toArray, List.getElem?_cons_succ, List.getElem?_cons_zero]; rfl)
  case st11z12 => kernel_rfl
  case ft11z12 => kernel_rfl
  case zt11z12 => kernel_rfl
  case qt11z12 => exact fun _ _ _ h => h
  case yt11z12 => (refine Or.inl ⟨rfl, ?_⟩; intro w hSw; (try dsimp only at hSw); go_simp; try with_reducible rfl)
  case at11z12 => assumption
  case rt11z12 =>
  simp only [Act.put, List.setIfInBounds_toArray, List.set_cons_zero, List.set_cons_succ]
  refine' wpAnyH_take (i := 13) (oi := ?ot12z13) (v := undef) ?ht12z13 ?st12z13 ?ft12z13 ?zt12z13 ?qt12z13 ?yt12z13 ?at12z13 ?rt12z13
  case ht12z13 => (simp only [List.getElem?_toArray, List.getElem?_cons_succ, List.getElem?_cons_zero]; rfl)
  case st12z13 => kernel_rfl
  case ft12z13 => kernel_rfl
  case zt12z13 => kernel_rfl
  case qt12z13 => exact fun _ _ _ h => h
  case yt12z13 => exact Or.inr ⟨rfl, rfl⟩
  case at12z13 => assumption
  case rt12z13 =>
  simp only [Act.put, List.setIfInBounds_toArray, List.set_cons_zero, List.set_cons_succ]
  refine' wpAnyH_take (i := 14) (oi := ?ot13z14) (v := undef) ?ht13z14 ?st13z14 ?ft13z14 ?zt13z14 ?qt13z14 ?yt13z14 ?at13z14 ?rt13z14
  case ht13z14 => (simp only [List.getElem?_toArray, List.getElem?_cons_succ, List.getElem?_cons_zero]; rfl)
  case st13z14 => kernel_rfl
  case ft13z14 => kernel_rfl
  case zt13z14 => kernel_rfl
  case qt13z14 => exact fun _ _ _ h => h
  case yt13z14 => exact Or.inr ⟨rfl, rfl⟩
  case at13z14 => assumption
  case rt13z14 =>
  simp only [Act.put, List.setIfInBounds_toArray, List.set_cons_zero, List.set_cons_succ]
  refine' wpAnyH_take (i := 15) (oi := ?ot14z15) (v := undef) ?ht14z15 ?st14z15 ?ft14z15 ?zt14z15 ?qt14z15 ?yt14z15 ?at14z15 ?rt14z15
  case ht14z15 => (simp only [List.getElem?_toArray, List.getElem?_cons_succ, List.getElem?_cons_zero]; rfl)
  case st14z15 => kernel_rfl
  case ft14z15 => kernel_rfl
  case zt14z15 => kernel_rfl
  case qt14z15 => exact fun _ _ _ h => h
  case yt14z15 => exact Or.inr ⟨rfl, rfl⟩
  case at14z15 => assumption
  case rt14z15 =>
  simp only [Act.put, List.setIfInBounds_toArray, List.set_cons_zero, List.set_cons_succ]
  refine' wpAnyH_take (i := 16) (oi := ?ot15z16) (v := ?vt15z16) ?ht15z16 ?st15z16 ?ft15z16 ?zt15z16 ?qt15z16 ?yt15z16 ?at15z16 ?rt15z16
  case ht15z16 => (simp only [List.getElem?_toArray, List.getElem?_cons_succ, List.getElem?_cons_zero]; rfl)
  case st15z16 => kernel_rfl
  case ft15z16 => kernel_rfl
  case zt15z16 => kernel_rfl
  case qt15z16 => exact fun _ _ _ h => h
  case yt15z16 => (refine Or.inl ⟨rfl, ?_⟩; intro w hSw; (try dsimp only at hSw); go_simp; try with_reducible rfl)
  case at15z16 => assumption
  case rt15z16 =>
  simp only [Act.put, List.setIfInBounds_toArray, List.set_cons_zero, List.set_cons_succ]
  refine wpAnyH_ready (rs := [7]) (by kernel_rfl) (by simp) ?_
  refine' AllReadyH.cons (o := ?ob16z7) ?hb16z7 ?kb16z7 AllReadyH.nil
  case hb16z7 => (simp only [List.getElem?_toArray, List.getElem?_cons_succ, List.getElem?_cons_zero]; rfl)
  case kb16z7 =>
    intro K0 hK
    go_simp
    have S3 := Lib.hid (S2.out.alloc (madeCells #[.int .u8 0] z) 5)
    obtain ⟨gm, hgz⟩ : ∃ g, g = w3.heap.size := ⟨_, rfl⟩
    rw [← hgz] at S3 ⊢
    clear hgz S2 hmk
    generalize World.alloc w3 _ = w4 at *
    have S4 := Lib.hid (S3.out.re (show _ = Asn.blk ge 33 #[.int .i64 1, .int .i64 K, .int .i64 N] * (Asn.blk gm 5 (madeCells #[.int .u8 0] z) * (BB * C)) by ac_rfl))
    clear S3
    refine hK.out _ _ ?_ (fun hHeld => ?_)
    · obtain ⟨⟨q0, q1, q2⟩, -⟩ := three_ofE (S4.out.has (Has.l (has_blk ge _ _)))
      exact ⟨q0, q2⟩
    clear hK K0
    (try simp only [Act.put, List.setIfInBounds_toArray, List.set_cons_zero, List.set_cons_succ])
    (try clear hH2)
    refine wpAnyH_ready (rs := [8]) (by kernel_rfl) (by simp) ?_
    refine' AllReadyH.cons (o := ?ob18z8) ?hb18z8 ?kb18z8 AllReadyH.nil
    case hb18z8 => (simp only [List.getElem?_toArray, List.getElem?_cons_succ, List.getElem?_cons_zero]; rfl)
    case kb18z8 =>
      intro K0 hK
      have CV := mkc (S4.out.re (show _ = Asn.blk gm 5 (madeCells #[.int .u8 0] z) * (Asn.blk ge 33 #[.int .i64 1, .int .i64 K, .int .i64 N] * (BB * C)) by ac_rfl))
      go_simp
      clear CV
      refine hK.out _ _ ?_ (fun hHeld => ?_)
      · obtain ⟨⟨q0, q1, q2⟩, -⟩ := three_ofE (S4.out.has (Has.l (has_blk ge _ _)))
        exact ⟨q0, q2⟩
      clear hK K0
      (try simp only [Act.put, List.setIfInBounds_toArray, List.set_cons_zero, List.set_cons_succ])
      (try clear hH2)
      refine' wpAnyH_take (i := 17) (oi := ?ot20z17) (v := ?vt20z17) ?ht20z17 ?st20z17 ?ft20z17 ?zt20z17 ?qt20z17 ?yt20z17 ?at20z17 ?rt20z17
      case ht20z17 => (simp only [List.getElem?_toArray, List.getElem?_cons_succ, List.getElem?_cons_zero]; rfl)
      case st20z17 => kernel_rfl
      case ft20z17 => kernel_rfl
      case zt20z17 => kernel_rfl
      case qt20z17 => exact fun _ _ _ h => h
      case yt20z17 => (refine Or.inl ⟨rfl, ?_⟩; intro w hSw; (try dsimp only at hSw); go_simp; try with_reducible rfl)
      case at20z17 => assumption
      case rt20z17 =>
      simp only [Act.put, List.setIfInBounds_toArray, List.set_cons_zero, List.set_cons_succ]
      refine wpAnyH_ready (rs := [18]) (by kernel_rfl) (by simp) ?_
      refine' AllReadyH.cons (o := ?ob21z18) ?hb21z18 ?kb21z18 AllReadyH.nil
      case hb21z18 => (simp only [List.getElem?_toArray, List.getElem?_cons_succ, List.getElem?_cons_zero]; rfl)
      case kb21z18 =>
        intro K0 hK
        go_simp
        refine (HP.out _ w4 _ (S4.out.re (show _ = BB * (Asn.blk ge 33 #[.int .i64 1, .int .i64 K, .int .i64 N] * (Asn.blk gm 5 (madeCells #[.int .u8 0] z) * C)) by ac_rfl))).mono ?_
        rintro e w5 ⟨rfl, B, hB, hX⟩
        have S5 := Lib.hid (hX.re (show _ = Asn.blk ge 33 #[.int .i64 1, .int .i64 K, .int .i64 N] * (Asn.blk gm 5 (madeCells #[.int .u8 0] z) * (B * C)) by ac_rfl))
        clear hX S4 HP
        refine hK.out _ _ ?_ (fun hHeld => ?_)
        · obtain ⟨⟨q0, q1, q2⟩, -⟩ := three_ofE (S5.out.has (Has.l (has_blk ge _ _)))
          exact ⟨q0, q2⟩
        clear hK K0
        (try simp only [Act.put, List.setIfInBounds_toArray, List.set_cons_zero, List.set_cons_succ])
        (try clear hH2)
        refine' wpAnyH_take (i := 19) (oi := ?ot23z19) (v := ?vt23z19) ?ht23z19 ?st23z19 ?ft23z19 ?zt23z19 ?qt23z19 ?yt23z19 ?at23z19 ?rt23z19
        case ht23z19 => (simp only [List.getElem?_toArray, List.getElem?_cons_succ, List.getElem?_cons_zero]; rfl)
        case st23z19 => kernel_rfl
        case ft23z19 => kernel_rfl
        case zt23z19 => kernel_rfl
        case qt23z19 => exact fun _ _ _ h => h
        case yt23z19 => (refine Or.inl ⟨rfl, ?_⟩; intro w hSw; (try dsimp only at hSw); go_simp; try with_reducible rfl)
        case at23z19 => assumption
        case rt23z19 =>
        simp only [Act.put, List.setIfInBounds_toArray, List.set_cons_zero, List.set_cons_succ]
        refine wpAnyH_done (by kernel_rfl) ?_ _
        go_wp2_with fail
        go_returns
        exact ⟨rfl, B, hB, S5.out.right.right⟩
set_option maxRecDepth 100000 in
set_option maxHeartbeats 16000000 in
theorem do_put2 (g gs : Nat) (S : Sf) (V : Nat → Value) (vl : Value) (l : List Ent) (vp : Value) (ps : List Du) (n top : Nat) (ch : Nat → List Nat) (K N : Int) (hW : WS S l ps n top ch) (hn : n + 8 < 256)
    (w0 w : World) (C : Asn) (hS : Own w0 No w (aWd g gs S V vl l vp (ps.map du) n * C)) :
    Calls Try.prog 9 #[.pointer (some ⟨g, 0, none⟩), .agg #[.int .i64 2, .int .i64 K, .int .i64 N]] w fun r w' => r = .returned (.bool true) ∧ ∃ B, WP g gs n B ∧ Own w0 No w' (B * C) := by
  obtain ⟨q, hq, hqe⟩ := key_act K
  obtain ⟨z, hz, hze⟩ := val_act N
  have HP : Hid (∀ gh W D, Own w0 No W (aWd g gs S V vl l vp (ps.map du) n * D) → Calls Try.prog 23 #[.pointer (some ⟨g, 0, none⟩), .agg #[.string (ofL (keyZ q)), .string (ofL (List.replicate z 0)), .bool gh]] W fun r w' => r = .returned (.bool true) ∧ ∃ B, WP g gs n B ∧ Own w0 No w' (B * D)) := Lib.hid (fun gh W D h => by
    refine (put_law g gs S V vl l vp ps n top ch ⟨keyZ q, List.replicate z 0, gh⟩ hW hn rfl (by rw [List.length_replicate]; omega) w0 W D h).mono ?_
    rintro r w' ⟨rfl, S', V', vl', vp', ps', n', top', ch', h1, h2, h3⟩
    exact ⟨rfl, _, ⟨S', V', vl', _, vp', ps', n', top', ch', h1, h2, rfl⟩, h3⟩)
  have S0 := Lib.hid (hS.alloc #[.int .i64 2, .int .i64 K, .int .i64 N] 33)
  have hmk : ∀ W : World, (Instr.makeSlice 63 (.int .i64 z) (.int .i64 z)).run Try.prog W = .ok (.slice (some ⟨W.heap.size, 0, none⟩) z z) (W.alloc (.cells (madeCells #[.int .u8 0] z) 5)) := fun W => by
    have := make_rows (P := Try.prog) 63 5 (.int .u8 0) 1 1 Try.underlying63 (by kernel_rfl) .i64 .i64 z (by omega) (by omega) W
    rw [Nat.mul_one] at this
    exact this
  clear hW hS
  generalize aWd g gs S V vl l vp (ps.map du) n = BB at *
  go_enter Try.func9, Try.ntmps9
  go_upto_region 1 with fail
  obtain ⟨ge, hgz⟩ : ∃ g, g = w.heap.size := ⟨_, rfl⟩
  rw [← hgz] at S0 ⊢
  clear hgz
  generalize World.alloc w _ = w1 at *
  obtain ⟨⟨e0, e1, e2⟩, -⟩ := three_ofE (S0.out.has (Has.l (has_blk ge _ _)))
  go_wp2_with fail
  refine (key_any q w1 (by omega) (by omega)).mono ?_
  rintro e w2 ⟨rfl, hX⟩
  have S1 := Lib.hid (S0.out.below hX)
  clear hX S0 e0 e1 e2
  obtain ⟨⟨e0, e1, e2⟩, -⟩ := three_ofE (S1.out.has (Has.l (has_blk ge _ _)))
  go_upto_region 5 with fail
  have S2 := Lib.hid S1.out.drew
  clear S1
  refine wp_region_held_drew (S := fun W : World => W.cell? ⟨ge, 0, none⟩ = some (.int .i64 2) ∧ W.cell? ⟨ge, 2, none⟩ = some (.int .i64 N)) (by kernel_rfl) ⟨e0, e2⟩ (fun hHeld => ?_)
  clear e0 e1 e2
  generalize w2.drew = w3 at *
  refine' wpAnyH_take (i := 0) (oi := ?ot24z0) (v := ?vt24z0) ?ht24z0 ?st24z0 ?ft24z0 ?zt24z0 ?qt24z0 ?yt24z0 ?at24z0 ?rt24z0
  case ht24z0 => (simp only [List.getElem?_toArray, List.getElem?_cons_succ, List.getElem?_cons_zero]; rfl)
  case st24z0 => kernel_rfl
  case ft24z0 => kernel_rfl
  case zt24z0 => kernel_rfl
  case qt24z0 => exact fun _ _ _ h => h
  case yt24z0 => (refine Or.inl ⟨rfl, ?_⟩; intro w hSw; (try dsimp only at hSw); go_simp; try with_reducible rfl)
  case at24z0 => assumption
  case rt24z0 =>
  simp only [Act.put, List.setIfInBounds_toArray, List.set_cons_zero, List.set_cons_succ]
  refine' wpAnyH_take (i := 1) (oi := ?ot25z1) (v := ?vt25z1) ?ht25z1 ?st25z1 ?ft25z1 ?zt25z1 ?qt25z1 ?yt25z1 ?at25z1 ?rt25z1
  case ht25z1 => (simp only [List.getElem?_toArray, List.getElem?_cons_succ, List.getElem?_cons_zero]; rfl)
  case st25z1 => kernel_rfl
  case ft25z1 => kernel_rfl
  case zt25z1 => kernel_rfl
  case qt25z1 => exact fun _ _ _ h => h
  case yt25z1 => (refine Or.inl ⟨rfl, ?_⟩; intro w hSw; (try dsimp only at hSw); go_simp; try with_reducible rfl)
  case at25z1 => assumption
  case rt25z1 =>
  simp only [Act.put, List.setIfInBounds_toArray, List.set_cons_zero, List.set_cons_succ]
  refine' wpAnyH_take (i := 2) (oi := ?ot26z2) (v := ?vt26z2) ?ht26z2 ?st26z2 ?ft26z2 ?zt26z2 ?qt26z2 ?yt26z2 ?at26z2 ?rt26z2
  case ht26z2 => (simp only [List.getElem?_toArray, List.getElem?_cons_succ, List.getElem?_cons_zero]; rfl)
  case st26z2 => kernel_rfl
  case ft26z2 => kernel_rfl
  case zt26z2 => kernel_rfl
  case qt26z2 => exact fun _ _ _ h => h
  case yt26z2 => (refine Or.inl ⟨rfl, ?_⟩; intro w hSw; (try dsimp only at hSw); go_simp; try with_reducible rfl)
  case at26z2 => assumption
  case rt26z2 =>
  simp only [Act.put, List.setIfInBounds_toArray, List.set_cons_zero, List.set_cons_succ]
  refine' wpAnyH_take (i := 3) (oi := ?ot27z3) (v := ?vt27z3) ?ht27z3 ?st27z3 ?ft27z3 ?zt27z3 ?qt27z3 ?yt27z3 ?at27z3 ?rt27z3
  case ht27z3 => (simp only [List.getElem?_toArray, List.getElem?_cons_succ, List.getElem?_cons_zero]; rfl)
  case st27z3 => kernel_rfl
  case ft27z3 => kernel_rfl
  case zt27z3 => kernel_rfl
  case qt27z3 => exact fun _ _ _ h => h
  case yt27z3 => (refine Or.inl ⟨rfl, ?_⟩; intro w hSw; obtain ⟨hS1, hS2⟩ := hSw; go_simp; try with_reducible rfl)
  case at27z3 => assumption
  case rt27z3 =>
  simp only [Act.put, List.setIfInBounds_toArray, List.set_cons_zero, List.set_cons_succ]
  refine' wpAnyH_take (i := 4) (oi := ?ot28z4) (v := ?vt28z4) ?ht28z4 ?st28z4 ?ft28z4 ?zt28z4 ?qt28z4 ?yt28z4 ?at28z4 ?rt28z4
  case ht28z4 => (simp only [List.getElem?_toArray, List.getElem?_cons_succ, List.getElem?_cons_zero]; rfl)
  case st28z4 => kernel_rfl
  case ft28z4 => kernel_rfl
  case zt28z4 => kernel_rfl
  case qt28z4 => exact fun _ _ _ h => h
  case yt28z4 => (refine Or.inl ⟨rfl, ?_⟩; intro w hSw; (try dsimp only at hSw); go_simp; try with_reducible rfl)
  case at28z4 => assumption
  case rt28z4 =>
  simp only [Act.put, List.setIfInBounds_toArray, List.set_cons_zero, List.set_cons_succ]
  refine' wpAnyH_take (i := 5) (oi := ?ot29z5) (v := ?vt29z5) ?ht29z5 ?st29z5 ?ft29z5 ?zt29z5 ?qt29z5 ?yt29z5 ?at29z5 ?rt29z5
  case ht29z5 => (simp only [List.getElem?_toArray, List.getElem?_cons_succ, List.getElem?_cons_zero]; rfl)
  case st29z5 => kernel_rfl
  case ft29z5 => kernel_rfl
  case zt29z5 => kernel_rfl
  case qt29z5 => exact fun _ _ _ h => h
  case yt29z5 => (refine Or.inl ⟨rfl, ?_⟩; intro w hSw; (try dsimp only at hSw); go_simp; try with_reducible rfl)
  case at29z5 => assumption
  case rt29z5 =>
  simp only [Act.put, List.setIfInBounds_toArray, List.set_cons_zero, List.set_cons_succ]
  refine' wpAnyH_take (i := 6) (oi := ?ot30z6) (v := ?vt30z6) ?ht30z6 ?st30z6 ?ft30z6 ?zt30z6 ?qt30z6 ?yt30z6 ?at30z6 ?rt30z6
  case ht30z6 => (simp only [List.getElem?_toArray, List.getElem?_cons_succ, List.getElem?_cons_zero]; rfl)
  case st30z6 => kernel_rfl
  case ft30z6 => kernel_rfl
  case zt30z6 => kernel_rfl
  case qt30z6 => exact fun _ _ _ h => h
  case yt30z6 => (refine Or.inl ⟨rfl, ?_⟩; intro w hSw; (try dsimp only at hSw); go_simp; try with_reducible rfl)
  case at30z6 => assumption
  case rt30z6 =>
  simp only [Act.put, List.setIfInBounds_toArray, List.set_cons_zero, List.set_cons_succ]
  refine' wpAnyH_take (i := 9) (oi := ?ot31z9) (v := ?vt31z9) ?ht31z9 ?st31z9 ?ft31z9 ?zt31z9 ?qt31z9 ?yt31z9 ?at31z9 ?rt31z9
  case ht31z9 => (simp only [List.getElem?_toArray, List.getElem?_cons_succ, List.getElem?_cons_zero]; rfl)
  case st31z9 => kernel_rfl
  case ft31z9 => kernel_rfl
  case zt31z9 => kernel_rfl
  case qt31z9 => exact fun _ _ _ h => h
  case yt31z9 => (refine Or.inl ⟨rfl, ?_⟩; intro w hSw; (try dsimp only at hSw); go_simp; try with_reducible rfl)
  case at31z9 => assumption
  case rt31z9 =>
  simp only [Act.put, List.setIfInBounds_toArray, List.set_cons_zero, List.set_cons_succ]
  refine' wpAnyH_take (i := 10) (oi := ?ot32z10) (v := ?vt32z10) ?ht32z10 ?st32z10 ?ft32z10 ?zt32z10 ?qt32z10 ?yt32z10 ?at32z10 ?rt32z10
  case ht32z10 => (simp only [List.getElem?_toArray, List.getElem?_cons_succ, List.getElem?_cons_zero]; rfl)
  case st32z10 => kernel_rfl
  case ft32z10 => kernel_rfl
  case zt32z10 => kernel_rfl
  case qt32z10 => exact fun _ _ _ h => h
  case yt32z10 => (refine Or.inl ⟨rfl, ?_⟩; intro w hSw; obtain ⟨hS1, hS2⟩ := hSw; go_simp; try with_reducible rfl)
  case at32z10 => assumption
  case rt32z10 =>
  simp only [Act.put, List.setIfInBounds_toArray, List.set_cons_zero, List.set_cons_succ]
  refine' wpAnyH_take (i := 11) (oi := ?ot33z11) (v := ?vt33z11) ?ht33z11 ?st33z11 ?ft33z11 ?zt33z11 ?qt33z11 ?yt33z11 ?at33z11 ?rt33z11
  case ht33z11 => (simp only [List.getElem?_toArray, List.getElem?_cons_succ, List.getElem?_cons_zero]; rfl)
  case st33z11 => kernel_rfl
  case ft33z11 => kernel_rfl
  case zt33z11 => kernel_rfl
  case qt33z11 => exact fun _ _ _ h => h
  case yt33z11 => (refine Or.inl ⟨rfl, ?_⟩; intro w hSw; (try dsimp only at hSw); go_simp; try with_reducible rfl)
  case at33z11 => assumption
  case rt33z11 =>
  simp only [Act.put, List.setIfInBounds_toArray, List.set_cons_zero, List.set_cons_succ]
  refine' wpAnyH_take (i := 12) (oi := ?ot34z12) (v := ?vt34z12) ?ht34z12 ?st34z12 ?ft34z12 ?zt34z12 ?qt34z12 ?yt34z12 ?at34z12 ?rt34z12
  case ht34z12 => (simp only [List.getElem?_toArray, List.getElem?_cons_succ, List.getElem?_cons_zero]; rfl)
  case st34z12 => kernel_rfl
  case ft34z12 => kernel_rfl
  case zt34z12 => kernel_rfl
  case qt34z12 => exact fun _ _ _ h => h
  case yt34z12 => (refine Or.inl ⟨rfl, ?_⟩; intro w hSw; (try dsimp only at hSw); go_simp; try with_reducible rfl)
  case at34z12 => assumption
  case rt34z12 =>
  simp only [Act.put, List.setIfInBounds_toArray, List.set_cons_zero, List.set_cons_succ]
  refine' wpAnyH_take (i := 13) (oi := ?ot35z13) (v := ?vt35z13) ?ht35z13 ?st35z13 ?ft35z13 ?zt35z13 ?qt35z13 ?yt35z13 ?at35z13 ?rt35z13
  case ht35z13 => (simp only [List.getElem?_toArray, List.getElem?_cons_succ, List.getElem?_cons_zero]; rfl)
  case st35z13 => kernel_rfl
  case ft35z13 => kernel_rfl
  case zt35z13 => kernel_rfl
  case qt35z13 => exact fun _ _ _ h => h
  case yt35z13 => (refine Or.inl ⟨rfl, ?_⟩; intro w hSw; (try dsimp only at hSw); go_simp; try with_reducible rfl)
  case at35z13 => assumption
  case rt35z13 =>
  simp only [Act.put, List.setIfInBounds_toArray, List.set_cons_zero, List.set_cons_succ]
  refine' wpAnyH_take (i := 14) (oi := ?ot36z14) (v := ?vt36z14) ?ht36z14 ?st36z14 ?ft36z14 ?zt36z14 ?qt36z14 ?yt36z14 ?at36z14 ?rt36z14
  case ht36z14 => (simp only [List.getElem?_toArray, List.getElem?_cons_succ, List.getElem?_cons_zero]; rfl)
  case st36z14 => kernel_rfl
  case ft36z14 => kernel_rfl
  case zt36z14 => kernel_rfl
  case qt36z14 => exact fun _ _ _ h => h
  case yt36z14 => (refine Or.inl ⟨rfl, ?_⟩; intro w hSw; obtain ⟨hS1, hS2⟩ := hSw; go_simp; try with_reducible rfl)
  case at36z14 => assumption
  case rt36z14 =>
  simp only [Act.put, List.setIfInBounds_toArray, List.set_cons_zero, List.set_cons_succ]
  refine' wpAnyH_take (i := 15) (oi := ?ot37z15) (v := ?vt37z15) ?ht37z15 ?st37z15 ?ft37z15 ?zt37z15 ?qt37z15 ?yt37z15 ?at37z15 ?rt37z15
  case ht37z15 => (simp only [List.getElem?_toArray, List.getElem?_cons_succ, List.getElem?_cons_zero]; rfl)
  case st37z15 => kernel_rfl
  case ft37z15 => kernel_rfl
  case zt37z15 => kernel_rfl
  case qt37z15 => exact fun _ _ _ h => h
  case yt37z15 => (refine Or.inl ⟨rfl, ?_⟩; intro w hSw; (try dsimp only at hSw); go_simp; try with_reducible rfl)
  case at37z15 => assumption
  case rt37z15 =>
  simp only [Act.put, List.setIfInBounds_toArray, List.set_cons_zero, List.set_cons_succ]
  refine' wpAnyH_take (i := 16) (oi := ?ot38z16) (v := ?vt38z16) ?ht38z16 ?st38z16 ?ft38z16 ?zt38z16 ?qt38z16 ?yt38z16 ?at38z16 ?rt38z16
  case ht38z16 => (simp only [List.getElem?_toArray, List.getElem?_cons_succ, List.getElem?_cons_zero]; rfl)
  case st38z16 => kernel_rfl
  case ft38z16 => kernel_rfl
  case zt38z16 => kernel_rfl
  case qt38z16 => exact fun _ _ _ h => h
  case yt38z16 => (refine Or.inl ⟨rfl, ?_⟩; intro w hSw; (try dsimp only at hSw); go_simp; try with_reducible rfl)
  case at38z16 => assumption
  case rt38z16 =>
  simp only [Act.put, List.setIfInBounds_toArray, List.set_cons_zero, List.set_cons_succ]
  refine wpAnyH_ready (rs := [7]) (by kernel_rfl) (by simp) ?_
  refine' AllReadyH.cons (o := ?ob39z7) ?hb39z7 ?kb39z7 AllReadyH.nil
  case hb39z7 => (simp only [List.getElem?_toArray, List.getElem?_cons_succ, List.getElem?_cons_zero]; rfl)
  case kb39z7 =>
    intro K0 hK
    go_simp
    have S3 := Lib.hid (S2.out.alloc (madeCells #[.int .u8 0] z) 5)
    obtain ⟨gm, hgz⟩ : ∃ g, g = w3.heap.size := ⟨_, rfl⟩
    rw [← hgz] at S3 ⊢
    clear hgz S2 hmk
    generalize World.alloc w3 _ = w4 at *
    have S4 := Lib.hid (S3.out.re (show _ = Asn.blk ge 33 #[.int .i64 2, .int .i64 K, .int .i64 N] * (Asn.blk gm 5 (madeCells #[.int .u8 0] z) * (BB * C)) by ac_rfl))
    clear S3
    refine hK.out _ _ ?_ (fun hHeld => ?_)
    · obtain ⟨⟨q0, q1, q2⟩, -⟩ := three_ofE (S4.out.has (Has.l (has_blk ge _ _)))
      exact ⟨q0, q2⟩
    clear hK K0
    (try simp only [Act.put, List.setIfInBounds_toArray, List.set_cons_zero, List.set_cons_succ])
    (try clear hH2)
    refine wpAnyH_ready (rs := [8]) (by kernel_rfl) (by simp) ?_
    refine' AllReadyH.cons (o := ?ob41z8) ?hb41z8 ?kb41z8 AllReadyH.nil
    case hb41z8 => (simp only [List.getElem?_toArray, List.getElem?_cons_succ, List.getElem?_cons_zero]; rfl)
    case kb41z8 =>
      intro K0 hK
      have CV := mkc (S4.out.re (show _ = Asn.blk gm 5 (madeCells #[.int .u8 0] z) * (Asn.blk ge 33 #[.int .i64 2, .int .i64 K, .int .i64 N] * (BB * C)) by ac_rfl))
      go_simp
      clear CV
      refine hK.out _ _ ?_ (fun hHeld => ?_)
      · obtain ⟨⟨q0, q1, q2⟩, -⟩ := three_ofE (S4.out.has (Has.l (has_blk ge _ _)))
        exact ⟨q0, q2⟩
      clear hK K0
      (try simp only [Act.put, List.setIfInBounds_toArray, List.set_cons_zero, List.set_cons_succ])
      (try clear hH2)
      refine' wpAnyH_take (i := 17) (oi := ?ot43z17) (v := ?vt43z17) ?ht43z17 ?st43z17 ?ft43z17 ?zt43z17 ?qt43z17 ?yt43z17 ?at43z17 ?rt43z17
      case ht43z17 => (simp only [List.getElem?_toArray, List.getElem?_cons_succ, List.getElem?_cons_zero]; rfl)
      case st43z17 => kernel_rfl
      case ft43z17 => kernel_rfl
      case zt43z17 => kernel_rfl
      case qt43z17 => exact fun _ _ _ h => h
      case yt43z17 => (refine Or.inl ⟨rfl, ?_⟩; intro w hSw; (try dsimp only at hSw); go_simp; try with_reducible rfl)
      case at43z17 => assumption
      case rt43z17 =>
      simp only [Act.put, List.setIfInBounds_toArray, List.set_cons_zero, List.set_cons_succ]
      refine wpAnyH_ready (rs := [18]) (by kernel_rfl) (by simp) ?_
      refine' AllReadyH.cons (o := ?ob44z18) ?hb44z18 ?kb44z18 AllReadyH.nil
      case hb44z18 => (simp only [List.getElem?_toArray, List.getElem?_cons_succ, List.getElem?_cons_zero]; rfl)
      case kb44z18 =>
        intro K0 hK
        go_simp
        refine (HP.out _ w4 _ (S4.out.re (show _ = BB * (Asn.blk ge 33 #[.int .i64 2, .int .i64 K, .int .i64 N] * (Asn.blk gm 5 (madeCells #[.int .u8 0] z) * C)) by ac_rfl))).mono ?_
        rintro e w5 ⟨rfl, B, hB, hX⟩
        have S5 := Lib.hid (hX.re (show _ = Asn.blk ge 33 #[.int .i64 2, .int .i64 K, .int .i64 N] * (Asn.blk gm 5 (madeCells #[.int .u8 0] z) * (B * C)) by ac_rfl))
        clear hX S4 HP
        refine hK.out _ _ ?_ (fun hHeld => ?_)
        · obtain ⟨⟨q0, q1, q2⟩, -⟩ := three_ofE (S5.out.has (Has.l (has_blk ge _ _)))
          exact ⟨q0, q2⟩
        clear hK K0
        (try simp only [Act.put, List.setIfInBounds_toArray, List.set_cons_zero, List.set_cons_succ])
        (try clear hH2)
        refine' wpAnyH_take (i := 19) (oi := ?ot46z19) (v := ?vt46z19) ?ht46z19 ?st46z19 ?ft46z19 ?zt46z19 ?qt46z19 ?yt46z19 ?at46z19 ?rt46z19
        case ht46z19 => (simp only [List.getElem?_toArray, List.getElem?_cons_succ, List.getElem?_cons_zero]; rfl)
        case st46z19 => kernel_rfl
        case ft46z19 => kernel_rfl
        case zt46z19 => kernel_rfl
        case qt46z19 => exact fun _ _ _ h => h
        case yt46z19 => (refine Or.inl ⟨rfl, ?_⟩; intro w hSw; (try dsimp only at hSw); go_simp; try with_reducible rfl)
        case at46z19 => assumption
        case rt46z19 =>
        simp only [Act.put, List.setIfInBounds_toArray, List.set_cons_zero, List.set_cons_succ]
        refine wpAnyH_done (by kernel_rfl) ?_ _
        go_wp2_with fail
        go_returns
        exact ⟨rfl, B, hB, S5.out.right.right⟩
end Go.Proofs.Yteiiogaopgfpfaa.Bk
