/- NodeBack, walked. -/
import Derived.Test.YtmibcodobicmnaaDoorNdK
namespace Go.Proofs.YtmibcodobicmnaaDoor.Nd
open Go.ChangeShapes Go.WideShapes Go.ChangeAt Go.RowKit Go.PlainAid Aid Cr Nt
set_option linter.unusedVariables false
set_option linter.unusedSimpArgs false
theorem rVb_some (n : Nod) (v : Value) : rV (some n) v = .tuple #[v, .int .i64 0] := rfl
theorem rVb_none (v : Value) : rV none v = .tuple #[v, .int .i64 3] := rfl
theorem bytesV_form (n : Nod) : ∃ (x : ByteArray) (i : Int), bytesV n = .tuple #[.string x, .int .i64 i] ∧ (fitsB n = true → x = ofL (bytes n) ∧ i = 0) ∧ (fitsB n = false → (i == 0) = false) := by
  unfold bytesV
  cases hf : fitsB n with
  | true => exact ⟨_, _, rfl, fun _ => ⟨rfl, rfl⟩, fun h => by cases h⟩
  | false =>
    cases hg : goodB n with
    | true => exact ⟨_, _, rfl, fun h => by (cases h), fun _ => rfl⟩
    | false => exact ⟨_, _, rfl, fun h => by (cases h), fun _ => rfl⟩
set_option maxRecDepth 100000 in
set_option maxHeartbeats 16000000 in
theorem back_any (a b : Nod) (va vb : Value) (s : ByteArray) (w : World) (hva : NodAt w va a) (hvb : NodAt w vb b) (ht : Tab w) :
    Calls Tryd.prog 6 #[va, vb, .string s] w fun e w' => e = .returned (.bool true) ∧ Below w.heap.size w w' := by
  obtain ⟨l, hl⟩ : ∃ l : By, s = ofL l := ⟨s.data.toList, (ofL_back s).symm⟩
  have HT := Lib.hid ht
  have HA := Lib.hid (fun w ht => awake_any w ht)
  have HVA := Lib.hid hva
  have HVB := Lib.hid hvb
  have GA : Hid (∀ w', Below w.heap.size w w' → _) := Lib.hid (fun w' (hb : Below w.heap.size w w') => great_any a va w' (hva.keep hb))
  have GB : Hid (∀ w', Below w.heap.size w w' → _) := Lib.hid (fun w' (hb : Below w.heap.size w w') => great_any b vb w' (hvb.keep hb))
  have EA : Hid (∀ w', Below w.heap.size w w' → Tab w' → _) := Lib.hid (fun w' (hb : Below w.heap.size w w') ht => Bytes_any a va w' (hva.keep hb) ht)
  have EB : Hid (∀ w', Below w.heap.size w w' → Tab w' → _) := Lib.hid (fun w' (hb : Below w.heap.size w w') ht => Bytes_any b vb w' (hvb.keep hb) ht)
  obtain ⟨xa, ia, fa, oka, noa⟩ := bytesV_form a
  obtain ⟨xb, ib, fb, okb, nob⟩ := bytesV_form b
  rw [fa] at EA
  rw [fb] at EB
  have OKA := Lib.hid oka
  have OKB := Lib.hid okb
  have NOA := Lib.hid noa
  have NOB := Lib.hid nob
  have ER := Lib.hid (fun w' ht => Read_own l w' ht)
  rw [← hl] at ER
  have RS := Lib.hid (fun n (h : readN l = some n) => read_some h)
  generalize hrl : readN l = R at *
  have RSA : Hid (fitsB a = true → ∀ w', Tab w' → _) := Lib.hid (fun hf w' ht => by
    have := Read_own (bytes a) w' ht
    rw [read_bytes a hf] at this
    exact this)
  have HEQ : Hid (fitsB a = true → fitsB b = true → ((ofL (bytes a)).toList == (ofL (bytes b)).toList) = decide (a = b)) := Lib.hid (fun h1 h2 => by
    rw [str_eq]
    exact decide_eq_decide.2 ⟨fun h => bytes_inj a b h1 h2 (ofL_inj h), fun h => by rw [h]⟩)
  obtain ⟨p, rfl, hp⟩ := hva
  obtain ⟨p', rfl, hp'⟩ := hvb
  obtain ⟨A1, m1, rfl⟩ := hp.slice
  obtain ⟨B1, n1, rfl⟩ := hp'.slice
  have hsz : ∀ cs T, (w.alloc (.cells cs T)).heap.size = w.heap.size + 1 := fun cs T => by simp
  have S := Lib.hid ((((Own.none w).alloc (nodCells a (.slice A1 a.list.length m1)) 64).left).alloc (nodCells b (.slice B1 b.list.length n1)) 64)
  rw [hsz] at S
  have HL := Lib.hid hl
  clear hsz ht hrl hl hp hp' oka okb noa nob fa fb
  unfold nodCells at *
  go_enter Tryd.func6, Tryd.ntmps6
  go_upto_region 1 with fail
  obtain ⟨g2, hg2⟩ : ∃ g, g = w.heap.size + 1 := ⟨_, rfl⟩
  rw [← hg2] at S ⊢
  obtain ⟨g1, hg1⟩ : ∃ g, g = w.heap.size := ⟨_, rfl⟩
  rw [← hg1] at S ⊢
  clear hg1 hg2
  generalize (w.alloc _).alloc _ = w1 at *
  go_wp2_with fail
  refine (HA.out _ (Tab.own HT.out S.out)).mono ?_
  rintro e w2 ⟨rfl, hX⟩
  have S1 := Lib.hid (S.out.below hX)
  clear hX S
  obtain ⟨c0, c1, c2, c3, c4, c5, c6⟩ := nod_cells (S1.out.has (Has.r (has_blk _ _ _)))
  go_wp2_with fail
  refine (GA.out _ S1.out.bel).mono ?_
  rintro e w3 ⟨hE, hX⟩
  have S2 := Lib.hid (S1.out.below hX)
  clear hX S1 c0 c1 c2 c3 c4 c5 c6
  rcases hE with rfl | ⟨rfl, -⟩
  · go_wp2_with fail
    go_returns
    exact ⟨rfl, S2.out.bel⟩
  obtain ⟨c0, c1, c2, c3, c4, c5, c6⟩ := nod_cells (S2.out.has (Has.l (has_blk _ _ _)))
  go_wp2_with fail
  refine (GB.out _ S2.out.bel).mono ?_
  rintro e w4 ⟨hE, hX⟩
  have S3 := Lib.hid (S2.out.below hX)
  clear hX S2 c0 c1 c2 c3 c4 c5 c6
  rcases hE with rfl | ⟨rfl, -⟩
  · go_wp2_with fail
    go_returns
    exact ⟨rfl, S3.out.bel⟩
  by_cases h4 : 512 < s.size
  · go_wp2_with fail
    go_returns
    exact ⟨rfl, S3.out.bel⟩
  obtain ⟨c0, c1, c2, c3, c4, c5, c6⟩ := nod_cells (S3.out.has (Has.r (has_blk _ _ _)))
  go_wp2_with fail
  refine (EA.out _ S3.out.bel (Tab.own HT.out S3.out)).mono ?_
  rintro e w5 ⟨rfl, hX⟩
  have S4 := Lib.hid (S3.out.below hX)
  clear hX S3 EA c0 c1 c2 c3 c4 c5 c6
  obtain ⟨c0, c1, c2, c3, c4, c5, c6⟩ := nod_cells (S4.out.has (Has.l (has_blk _ _ _)))
  go_wp2_with fail
  refine (EB.out _ S4.out.bel (Tab.own HT.out S4.out)).mono ?_
  rintro e w6 ⟨rfl, hX⟩
  have S5 := Lib.hid (S4.out.below hX)
  clear hX S4 EB c0 c1 c2 c3 c4 c5 c6
  cases hfa : fitsB a with
  | false =>
    have hi := NOA.out hfa
    have hi2 : ¬ ia = 0 := by simpa using hi
    have SX := S5
    clear S5 hfa
    go_wp2_with fail
    refine (ER.out _ (Tab.own HT.out SX.out)).mono ?_
    rintro e w20 ⟨v, rfl, ho⟩
    obtain ⟨C1, q1, rfl⟩ := ho.addEmp.vec.slice
    have HV1 := ents_at ho
    have S20 := SX.out.below ho.bel
    cases R with
    | none =>
      have S21 := Lib.hid (S20.alloc (nodCells Nod.none (.slice C1 Nod.none.list.length q1)) 64)
      clear ho S20 SX ER HV1
      rw [rVb_none]
      unfold rN at *
      dsimp only at *
      unfold nodCells at *
      go_wp2_with fail
      go_returns
      exact ⟨rfl, S21.out.bel⟩
    | some n =>
      have S21 := Lib.hid (S20.alloc (nodCells n (.slice C1 n.list.length q1)) 64)
      have HV2 : Hid (NodAt (w20.alloc (.cells (nodCells n (.slice C1 n.list.length q1)) 64)) (.agg (nodCells n (.slice C1 n.list.length q1))) n) := Lib.hid (HV1.keep (blA (Below.refl _ _) _))
      obtain ⟨hfn, hbn⟩ := RS.out n rfl
      have HFN := Lib.hid hfn
      have hxx : Hid (ofL (bytes n) = s) := Lib.hid (by rw [hbn, HL.out])
      clear ho S20 SX ER HV1 hfn hbn
      rw [rVb_some]
      unfold rN at *
      dsimp only at *
      unfold nodCells at *
      go_upto_region 12 with fail
      obtain ⟨gz, hgz⟩ : ∃ g, g = w20.heap.size := ⟨_, rfl⟩
      rw [← hgz] at S21 ⊢
      clear hgz
      generalize w20.alloc _ = w21 at *
      obtain ⟨c0, c1, c2, c3, c4, c5, c6⟩ := nod_cells (S21.out.has (Has.l (has_blk _ _ _)))
      have EX := Lib.hid (Bytes_fits n _ w21 HV2.out HFN.out (Tab.own HT.out S21.out))
      rw [hxx.out] at EX
      have hss : (s.toList == s.toList) = true := by rw [str_eq, decide_eq_true rfl]
      go_wp2_with fail
      refine EX.out.mono ?_
      rintro e w22 ⟨rfl, hX⟩
      have S22 := Lib.hid (S21.out.below hX)
      clear hX S21 EX c0 c1 c2 c3 c4 c5 c6
      go_wp2_with fail
      go_returns
      exact ⟨rfl, S22.out.bel⟩
  | true =>
    obtain ⟨rfl, rfl⟩ := OKA.out hfa
    cases hfb : fitsB b with
    | false =>
      have hi := NOB.out hfb
      have hi2 : ¬ ib = 0 := by simpa using hi
      clear hfb
      go_wp2_with fail
      refine (RSA.out hfa _ (Tab.own HT.out S5.out)).mono ?_
      rintro e w7 ⟨v, rfl, ho⟩
      obtain ⟨D1, j1, rfl⟩ := ho.addEmp.vec.slice
      have HV1 := ents_at ho
      have S6 := Lib.hid ((S5.out.below ho.bel).alloc (nodCells a (.slice D1 a.list.length j1)) 64)
      have HV2 : Hid (NodAt (w7.alloc (.cells (nodCells a (.slice D1 a.list.length j1)) 64)) (.agg (nodCells a (.slice D1 a.list.length j1))) a) := Lib.hid (HV1.keep (blA (Below.refl _ _) _))
      clear ho S5 HV1 RSA
      rw [rVb_some]
      unfold rN at *
      dsimp only at *
      unfold nodCells at *
      go_upto_region 9 with fail
      obtain ⟨gy, hgz⟩ : ∃ g, g = w7.heap.size := ⟨_, rfl⟩
      rw [← hgz] at S6 ⊢
      clear hgz
      generalize w7.alloc _ = w8 at *
      obtain ⟨c0, c1, c2, c3, c4, c5, c6⟩ := nod_cells (S6.out.has (Has.r (Has.r (has_blk _ _ _))))
      obtain ⟨e0, e1, e2, e3, e4, e5, e6⟩ := nod_cells (S6.out.has (Has.l (has_blk _ _ _)))
      have ES := Lib.hid (refSame_any a a _ _ w8 HV2.out (HVA.out.keep S6.out.bel))
      rw [decide_eq_true rfl] at ES
      go_wp2_with fail
      refine ES.out.mono ?_
      rintro e w9 ⟨rfl, hX⟩
      have S7 := Lib.hid (S6.out.below hX).right
      clear hX S6 ES HV2 c0 c1 c2 c3 c4 c5 c6 e0 e1 e2 e3 e4 e5 e6
      have SX := S7
      clear S7
      go_wp2_with fail
      refine (ER.out _ (Tab.own HT.out SX.out)).mono ?_
      rintro e w20 ⟨v, rfl, ho⟩
      obtain ⟨C1, q1, rfl⟩ := ho.addEmp.vec.slice
      have HV1 := ents_at ho
      have S20 := SX.out.below ho.bel
      cases R with
      | none =>
        have S21 := Lib.hid (S20.alloc (nodCells Nod.none (.slice C1 Nod.none.list.length q1)) 64)
        clear ho S20 SX ER HV1
        rw [rVb_none]
        unfold rN at *
        dsimp only at *
        unfold nodCells at *
        go_wp2_with fail
        go_returns
        exact ⟨rfl, S21.out.bel⟩
      | some n =>
        have S21 := Lib.hid (S20.alloc (nodCells n (.slice C1 n.list.length q1)) 64)
        have HV2 : Hid (NodAt (w20.alloc (.cells (nodCells n (.slice C1 n.list.length q1)) 64)) (.agg (nodCells n (.slice C1 n.list.length q1))) n) := Lib.hid (HV1.keep (blA (Below.refl _ _) _))
        obtain ⟨hfn, hbn⟩ := RS.out n rfl
        have HFN := Lib.hid hfn
        have hxx : Hid (ofL (bytes n) = s) := Lib.hid (by rw [hbn, HL.out])
        clear ho S20 SX ER HV1 hfn hbn
        rw [rVb_some]
        unfold rN at *
        dsimp only at *
        unfold nodCells at *
        go_upto_region 12 with fail
        obtain ⟨gz, hgz⟩ : ∃ g, g = w20.heap.size := ⟨_, rfl⟩
        rw [← hgz] at S21 ⊢
        clear hgz
        generalize w20.alloc _ = w21 at *
        obtain ⟨c0, c1, c2, c3, c4, c5, c6⟩ := nod_cells (S21.out.has (Has.l (has_blk _ _ _)))
        have EX := Lib.hid (Bytes_fits n _ w21 HV2.out HFN.out (Tab.own HT.out S21.out))
        rw [hxx.out] at EX
        have hss : (s.toList == s.toList) = true := by rw [str_eq, decide_eq_true rfl]
        go_wp2_with fail
        refine EX.out.mono ?_
        rintro e w22 ⟨rfl, hX⟩
        have S22 := Lib.hid (S21.out.below hX)
        clear hX S21 EX c0 c1 c2 c3 c4 c5 c6
        go_wp2_with fail
        go_returns
        exact ⟨rfl, S22.out.bel⟩
    | true =>
      obtain ⟨rfl, rfl⟩ := OKB.out hfb
      go_wp2_with fail
      refine (RSA.out hfa _ (Tab.own HT.out S5.out)).mono ?_
      rintro e w7 ⟨v, rfl, ho⟩
      obtain ⟨D1, j1, rfl⟩ := ho.addEmp.vec.slice
      have HV1 := ents_at ho
      have S6 := Lib.hid ((S5.out.below ho.bel).alloc (nodCells a (.slice D1 a.list.length j1)) 64)
      have HV2 : Hid (NodAt (w7.alloc (.cells (nodCells a (.slice D1 a.list.length j1)) 64)) (.agg (nodCells a (.slice D1 a.list.length j1))) a) := Lib.hid (HV1.keep (blA (Below.refl _ _) _))
      clear ho S5 HV1 RSA
      rw [rVb_some]
      unfold rN at *
      dsimp only at *
      unfold nodCells at *
      go_upto_region 9 with fail
      obtain ⟨gy, hgz⟩ : ∃ g, g = w7.heap.size := ⟨_, rfl⟩
      rw [← hgz] at S6 ⊢
      clear hgz
      generalize w7.alloc _ = w8 at *
      obtain ⟨c0, c1, c2, c3, c4, c5, c6⟩ := nod_cells (S6.out.has (Has.r (Has.r (has_blk _ _ _))))
      obtain ⟨e0, e1, e2, e3, e4, e5, e6⟩ := nod_cells (S6.out.has (Has.l (has_blk _ _ _)))
      have ES := Lib.hid (refSame_any a a _ _ w8 HV2.out (HVA.out.keep S6.out.bel))
      rw [decide_eq_true rfl] at ES
      go_wp2_with fail
      refine ES.out.mono ?_
      rintro e w9 ⟨rfl, hX⟩
      have S7 := Lib.hid (S6.out.below hX).right
      clear hX S6 ES HV2 c0 c1 c2 c3 c4 c5 c6 e0 e1 e2 e3 e4 e5 e6
      have heq := HEQ.out hfa hfb
      obtain ⟨c0, c1, c2, c3, c4, c5, c6⟩ := nod_cells (S7.out.has (Has.r (has_blk _ _ _)))
      obtain ⟨e0, e1, e2, e3, e4, e5, e6⟩ := nod_cells (S7.out.has (Has.l (has_blk _ _ _)))
      have ES := Lib.hid (refSame_any a b _ _ w9 (HVA.out.keep S7.out.bel) (HVB.out.keep S7.out.bel))
      generalize decide (a = b) = q at *
      generalize ofL (bytes a) = ya at *
      generalize ofL (bytes b) = yb at *
      go_wp2_with fail
      refine ES.out.mono ?_
      rintro e w10 ⟨rfl, hX⟩
      have SX := Lib.hid (S7.out.below hX)
      clear hX S7 ES HEQ heq c0 c1 c2 c3 c4 c5 c6 e0 e1 e2 e3 e4 e5 e6
      cases q
      all_goals
        go_wp2_with fail
        refine (ER.out _ (Tab.own HT.out SX.out)).mono ?_
        rintro e w20 ⟨v, rfl, ho⟩
        obtain ⟨C1, q1, rfl⟩ := ho.addEmp.vec.slice
        have HV1 := ents_at ho
        have S20 := SX.out.below ho.bel
        cases R with
        | none =>
          have S21 := Lib.hid (S20.alloc (nodCells Nod.none (.slice C1 Nod.none.list.length q1)) 64)
          clear ho S20 SX ER HV1
          rw [rVb_none]
          unfold rN at *
          dsimp only at *
          unfold nodCells at *
          go_wp2_with fail
          go_returns
          exact ⟨rfl, S21.out.bel⟩
        | some n =>
          have S21 := Lib.hid (S20.alloc (nodCells n (.slice C1 n.list.length q1)) 64)
          have HV2 : Hid (NodAt (w20.alloc (.cells (nodCells n (.slice C1 n.list.length q1)) 64)) (.agg (nodCells n (.slice C1 n.list.length q1))) n) := Lib.hid (HV1.keep (blA (Below.refl _ _) _))
          obtain ⟨hfn, hbn⟩ := RS.out n rfl
          have HFN := Lib.hid hfn
          have hxx : Hid (ofL (bytes n) = s) := Lib.hid (by rw [hbn, HL.out])
          clear ho S20 SX ER HV1 hfn hbn
          rw [rVb_some]
          unfold rN at *
          dsimp only at *
          unfold nodCells at *
          go_upto_region 12 with fail
          obtain ⟨gz, hgz⟩ : ∃ g, g = w20.heap.size := ⟨_, rfl⟩
          rw [← hgz] at S21 ⊢
          clear hgz
          generalize w20.alloc _ = w21 at *
          obtain ⟨c0, c1, c2, c3, c4, c5, c6⟩ := nod_cells (S21.out.has (Has.l (has_blk _ _ _)))
          have EX := Lib.hid (Bytes_fits n _ w21 HV2.out HFN.out (Tab.own HT.out S21.out))
          rw [hxx.out] at EX
          have hss : (s.toList == s.toList) = true := by rw [str_eq, decide_eq_true rfl]
          go_wp2_with fail
          refine EX.out.mono ?_
          rintro e w22 ⟨rfl, hX⟩
          have S22 := Lib.hid (S21.out.below hX)
          clear hX S21 EX c0 c1 c2 c3 c4 c5 c6
          go_wp2_with fail
          go_returns
          exact ⟨rfl, S22.out.bel⟩
end Go.Proofs.YtmibcodobicmnaaDoor.Nd
