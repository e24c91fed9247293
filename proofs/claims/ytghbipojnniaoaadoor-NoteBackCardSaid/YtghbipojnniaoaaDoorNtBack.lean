/- NoteBack, walked. -/
import Derived.Test.YtghbipojnniaoaaDoorNtK
import Derived.Test.YtghbipojnniaoaaDoorNtH
namespace Go.Proofs.YtghbipojnniaoaaDoor.Nt
open Go.ChangeShapes Go.WideShapes Go.ChangeAt Go.RowKit Go.PlainAid Aid Cr
set_option linter.unusedVariables false
set_option linter.unusedSimpArgs false
theorem ofL_cat (a b : By) : ofL a ++ ofL b = ofL (a ++ b) := by
  apply list_inj; rw [ByteArray.data_append, Array.toList_append]; rfl
set_option maxRecDepth 100000 in
set_option maxHeartbeats 16000000 in
theorem back_any (a b : Rec) (va vb : Value) (s : ByteArray) (w : World) (hva : RecAt w va a) (hvb : RecAt w vb b) (ht : Tab w) (hs : s.size ≤ maxLen) :
    Calls Tryd.prog 4 #[va, vb, .string s] w fun e w' => e = .returned (.bool true) ∧ Below w.heap.size w w' := by
  unfold maxLen at hs
  obtain ⟨l, hl⟩ : ∃ l : By, s = ofL l := ⟨s.data.toList, (ofL_back s).symm⟩
  have HT := Lib.hid ht
  have HA := Lib.hid (fun w ht => awake_any w ht)
  have HVA := Lib.hid hva
  have HVB := Lib.hid hvb
  have GA : Hid (∀ w', Below w.heap.size w w' → _) := Lib.hid (fun w' (hb : Below w.heap.size w w') => great_any a va w' (hva.keep hb))
  have GB : Hid (∀ w', Below w.heap.size w w' → _) := Lib.hid (fun w' (hb : Below w.heap.size w w') => great_any b vb w' (hvb.keep hb))
  have EA : Hid (∀ w', Below w.heap.size w w' → _) := Lib.hid (fun w' (hb : Below w.heap.size w w') => Good_any a va w' (hva.keep hb))
  have EB : Hid (∀ w', Below w.heap.size w w' → _) := Lib.hid (fun w' (hb : Below w.heap.size w w') => Good_any b vb w' (hvb.keep hb))
  obtain ⟨p, o, d, rfl, -⟩ := hva
  obtain ⟨p', o', d', rfl, -⟩ := hvb
  have hsz : ∀ cs T, (w.alloc (.cells cs T)).heap.size = w.heap.size + 1 := fun cs T => by simp
  have S := Lib.hid ((((Own.none w).alloc (recCells a p o d) 28).left).alloc (recCells b p' o' d') 28)
  rw [hsz] at S
  clear hsz ht
  have HL := Lib.hid hl
  clear hl
  unfold recCells at *
  go_enter Tryd.func4, Tryd.ntmps4
  go_upto_region 1 with fail
  obtain ⟨g2, hg2⟩ : ∃ g, g = w.heap.size + 1 := ⟨_, rfl⟩
  rw [← hg2] at S ⊢
  obtain ⟨g1, hg1⟩ : ∃ g, g = w.heap.size := ⟨_, rfl⟩
  rw [← hg1] at S ⊢
  clear hg1 hg2
  generalize (w.alloc _).alloc _ = w1 at *
  go_wp2_with fail
  refine (HA.out _ (Tab.own HT.out S.out)).mono ?_
  rintro e w2 ⟨rfl, hX⟩
  have S1 := Lib.hid (S.out.below hX)
  clear hX S
  obtain ⟨⟨c0, c1, c2, c3, c4, c5, c6, c7, c8, c9, c10⟩, -⟩ := eleven (S1.out.has (Has.r (has_blk _ _ _)))
  go_wp2_with fail
  refine (GA.out _ S1.out.bel).mono ?_
  rintro e w3 ⟨⟨b1, rfl⟩, hX⟩
  have S2 := Lib.hid (S1.out.below hX)
  clear hX S1 c0 c1 c2 c3 c4 c5 c6 c7 c8 c9 c10
  cases b1 with
  | true =>
    go_wp2_with fail
    go_returns
    exact ⟨rfl, S2.out.bel⟩
  | false =>
  obtain ⟨⟨c0, c1, c2, c3, c4, c5, c6, c7, c8, c9, c10⟩, -⟩ := eleven (S2.out.has (Has.l (has_blk _ _ _)))
  go_wp2_with fail
  refine (GB.out _ S2.out.bel).mono ?_
  rintro e w4 ⟨⟨b2, rfl⟩, hX⟩
  have S3 := Lib.hid (S2.out.below hX)
  clear hX S2 c0 c1 c2 c3 c4 c5 c6 c7 c8 c9 c10
  cases b2 with
  | true =>
    go_wp2_with fail
    go_returns
    exact ⟨rfl, S3.out.bel⟩
  | false =>
  by_cases h4 : 4096 < s.size
  · go_wp2_with fail
    go_returns
    exact ⟨rfl, S3.out.bel⟩
  have hls : l.length ≤ 4096 := by have := HL.out; rw [this, ofL_sz] at h4; omega
  have ER := Lib.hid (fun w' ht => Read_any l w' (by omega) ht)
  rw [← HL.out] at ER
  have RS := Lib.hid (fun r n (h : readR l = some (r, n)) => read_some h)
  generalize hrl : readR l = R at *
  clear hrl
  go_wp2_with fail
  refine (ER.out _ (Tab.own HT.out S3.out)).mono ?_
  rintro e w5 ⟨⟨v1, rfl, hv1⟩, hX⟩
  have S4 := Lib.hid (S3.out.below hX)
  clear hX S3 ER
  cases R with
  | none =>
    obtain ⟨B1, n1, B2, n2, B3, n3, rfl⟩ := hv1.form
    have S5 := Lib.hid (S4.out.alloc (recCells Rec.none (.slice B1 Rec.none.pages.length n1) (.slice B2 Rec.none.opn.length n2) (.slice B3 Rec.none.dty.length n3)) 28).right
    clear hv1 S4 RS
    rw [rV_none]
    unfold rR at *
    dsimp only at *
    unfold recCells at *
    go_upto_region 10 with fail
    generalize w5.alloc _ = w10 at *
    have S10 := S5
    clear S5
    obtain ⟨⟨c0, c1, c2, c3, c4, c5, c6, c7, c8, c9, c10⟩, -⟩ := eleven (S10.out.has (Has.r (has_blk _ _ _)))
    go_wp2_with fail
    refine (EA.out _ S10.out.bel).mono ?_
    rintro e w11 ⟨rfl, hX⟩
    have S11 := Lib.hid (S10.out.below hX)
    clear hX S10 c0 c1 c2 c3 c4 c5 c6 c7 c8 c9 c10
    cases hga : goodB a with
    | false =>
      go_wp2_with fail
      go_returns
      exact ⟨rfl, S11.out.bel⟩
    | true =>
    obtain ⟨⟨c0, c1, c2, c3, c4, c5, c6, c7, c8, c9, c10⟩, -⟩ := eleven (S11.out.has (Has.l (has_blk _ _ _)))
    go_wp2_with fail
    refine (EB.out _ S11.out.bel).mono ?_
    rintro e w12 ⟨rfl, hX⟩
    have S12 := Lib.hid (S11.out.below hX)
    clear hX S11 c0 c1 c2 c3 c4 c5 c6 c7 c8 c9 c10
    cases hgb : goodB b with
    | false =>
      go_wp2_with fail
      go_returns
      exact ⟨rfl, S12.out.bel⟩
    | true =>
    have ga := goods hga
    have gb := goods hgb
    have za := size_small ga
    have zb := size_small gb
    have ya := body_size a ga.pg
    have yb := body_size b gb.pg
    have la := bytes_len a
    have lb := bytes_len b
    have BA : Hid (∀ w', Below w.heap.size w w' → Tab w' → _) := Lib.hid (fun w' (hb : Below w.heap.size w w') (ht : Tab w') => Bytes_good a _ w' (HVA.out.keep hb) hga ht)
    have BB : Hid (∀ w', Below w.heap.size w w' → Tab w' → _) := Lib.hid (fun w' (hb : Below w.heap.size w w') (ht : Tab w') => Bytes_good b _ w' (HVB.out.keep hb) hgb ht)
    have R1 := Lib.hid (fun w' ht => Read_any (bytes a ++ (bytes b ++ l)) w' (by rw [List.length_append, List.length_append]; omega) ht)
    rw [read_bytes a hga] at R1
    have R2 := Lib.hid (fun w' ht => Read_any (bytes b ++ l) w' (by rw [List.length_append]; omega) ht)
    rw [read_bytes b hgb] at R2
    obtain ⟨La, hLa⟩ : ∃ n, n = (bytes a).length := ⟨_, rfl⟩
    obtain ⟨Lb, hLb⟩ : ∃ n, n = (bytes b).length := ⟨_, rfl⟩
    have la1 : La ≤ 4271 := by omega
    have lb1 : Lb ≤ 4271 := by omega
    have hs2 := slice_from (P := Tryd.prog) Tryd.underlying9 (ofL (bytes a ++ (bytes b ++ l))) La La rfl (by rw [ofL_sz, List.length_append]; omega)
    rw [ofL_drop, hLa, List.drop_left, ← hLa] at hs2
    have hcat : ofL (bytes a) ++ ofL (bytes b) ++ s = ofL (bytes a ++ (bytes b ++ l)) := by rw [HL.out, ofL_cat, ofL_cat, List.append_assoc]
    have hza : (ofL (bytes a)).size = La := by rw [ofL_sz, hLa]
    have hzb : (ofL (bytes b)).size = Lb := by rw [ofL_sz, hLb]
    have hov1 : ¬ 9223372036854775807 < La + Lb := by omega
    have hov2 : ¬ 9223372036854775807 < La + Lb + s.size := by omega
    have hov3 : ¬ 9223372036854775807 < (ofL (bytes a) ++ ofL (bytes b)).size + s.size := by rw [ByteArray.size_append]; omega
    rw [← hLa] at R1
    rw [← hLb] at R2
    have heq : ((ofL (bytes a)).toList == (ofL (bytes b)).toList) = decide (a = b) := by
      rw [str_eq]
      congr 1
      apply propext
      exact ⟨fun h => bytes_inj a b hga hgb (ofL_inj h), fun h => by rw [h]⟩
    have HEQ := Lib.hid heq
    have S12' := S12
    clear S12 ga gb za zb ya yb la lb hLa hLb heq HL hls
    generalize ofL (bytes a ++ (bytes b ++ l)) = x3 at *
    generalize ofL (bytes b ++ l) = x4 at *
    generalize ofL (bytes a) = x1 at *
    generalize ofL (bytes b) = x2 at *
    obtain ⟨⟨c0, c1, c2, c3, c4, c5, c6, c7, c8, c9, c10⟩, -⟩ := eleven (S12'.out.has (Has.r (has_blk _ _ _)))
    go_wp2_with fail
    refine (BA.out _ S12'.out.bel (Tab.own HT.out S12'.out)).mono ?_
    rintro e w13 ⟨rfl, hX⟩
    have S13 := Lib.hid (S12'.out.below hX)
    clear hX S12' BA c0 c1 c2 c3 c4 c5 c6 c7 c8 c9 c10
    obtain ⟨⟨c0, c1, c2, c3, c4, c5, c6, c7, c8, c9, c10⟩, -⟩ := eleven (S13.out.has (Has.l (has_blk _ _ _)))
    go_wp2_with fail
    refine (BB.out _ S13.out.bel (Tab.own HT.out S13.out)).mono ?_
    rintro e w14 ⟨rfl, hX⟩
    have S14 := Lib.hid (S13.out.below hX)
    clear hX S13 BB c0 c1 c2 c3 c4 c5 c6 c7 c8 c9 c10
    go_wp2_with fail
    refine (R1.out _ (Tab.own HT.out S14.out)).mono ?_
    rintro e w15 ⟨⟨v5, rfl, hv5⟩, hX⟩
    have S15 := Lib.hid (S14.out.below hX)
    clear hX S14 R1
    have HV5 := hv5
    obtain ⟨C1, k1, C2, k2, C3, k3, rfl⟩ := hv5.form
    unfold rR at *
    dsimp only at *
    have S16 := Lib.hid (S15.out.alloc (recCells a (.slice C1 a.pages.length k1) (.slice C2 a.opn.length k2) (.slice C3 a.dty.length k3)) 28)
    have HV6 := Lib.hid (HV5.keep (w' := w15.alloc (.cells (recCells a (.slice C1 a.pages.length k1) (.slice C2 a.opn.length k2) (.slice C3 a.dty.length k3)) 28)) (blA (Below.refl _ _) _))
    clear hv5 HV5 S15
    rw [rV_some]
    unfold recCells at *
    go_upto_region 17 with fail
    obtain ⟨gy, hgz⟩ : ∃ g, g = w15.heap.size := ⟨_, rfl⟩
    rw [← hgz] at S16 ⊢
    clear hgz
    generalize w15.alloc _ = w16 at *
    obtain ⟨⟨c0, c1, c2, c3, c4, c5, c6, c7, c8, c9, c10⟩, -⟩ := eleven (S16.out.has (Has.r (Has.r (has_blk _ _ _))))
    obtain ⟨⟨e0, e1, e2, e3, e4, e5, e6, e7, e8, e9, e10⟩, -⟩ := eleven (S16.out.has (Has.l (has_blk _ _ _)))
    have ES := Lib.hid (Same_any a a _ _ w16 HV6.out (HVA.out.keep S16.out.bel))
    rw [decide_eq_true rfl] at ES
    go_wp2_with fail
    refine ES.out.mono ?_
    rintro e w17 ⟨rfl, hX⟩
    have S17 := Lib.hid (S16.out.below hX).right
    clear hX S16 ES HV6 c0 c1 c2 c3 c4 c5 c6 c7 c8 c9 c10 e0 e1 e2 e3 e4 e5 e6 e7 e8 e9 e10
    go_wp2_with fail
    refine (R2.out _ (Tab.own HT.out S17.out)).mono ?_
    rintro e w18 ⟨⟨v6, rfl, hv6⟩, hX⟩
    have S18 := Lib.hid (S17.out.below hX)
    clear hX S17 R2
    have HV5 := hv6
    obtain ⟨D1, j1, D2, j2, D3, j3, rfl⟩ := hv6.form
    unfold rR at *
    dsimp only at *
    have S19 := Lib.hid (S18.out.alloc (recCells b (.slice D1 b.pages.length j1) (.slice D2 b.opn.length j2) (.slice D3 b.dty.length j3)) 28)
    have HV6 := Lib.hid (HV5.keep (w' := w18.alloc (.cells (recCells b (.slice D1 b.pages.length j1) (.slice D2 b.opn.length j2) (.slice D3 b.dty.length j3)) 28)) (blA (Below.refl _ _) _))
    clear hv6 HV5 S18
    rw [rV_some]
    unfold recCells at *
    go_upto_region 20 with fail
    obtain ⟨gy2, hgz⟩ : ∃ g, g = w18.heap.size := ⟨_, rfl⟩
    rw [← hgz] at S19 ⊢
    clear hgz
    generalize w18.alloc _ = w19 at *
    obtain ⟨⟨c0, c1, c2, c3, c4, c5, c6, c7, c8, c9, c10⟩, -⟩ := eleven (S19.out.has (Has.r (Has.l (has_blk _ _ _))))
    obtain ⟨⟨e0, e1, e2, e3, e4, e5, e6, e7, e8, e9, e10⟩, -⟩ := eleven (S19.out.has (Has.l (has_blk _ _ _)))
    have ES := Lib.hid (Same_any b b _ _ w19 HV6.out (HVB.out.keep S19.out.bel))
    rw [decide_eq_true rfl] at ES
    go_wp2_with fail
    refine ES.out.mono ?_
    rintro e w20 ⟨rfl, hX⟩
    have S20 := Lib.hid (S19.out.below hX).right
    clear hX S19 ES HV6 c0 c1 c2 c3 c4 c5 c6 c7 c8 c9 c10 e0 e1 e2 e3 e4 e5 e6 e7 e8 e9 e10
    obtain ⟨⟨c0, c1, c2, c3, c4, c5, c6, c7, c8, c9, c10⟩, -⟩ := eleven (S20.out.has (Has.r (has_blk _ _ _)))
    obtain ⟨⟨e0, e1, e2, e3, e4, e5, e6, e7, e8, e9, e10⟩, -⟩ := eleven (S20.out.has (Has.l (has_blk _ _ _)))
    have ES := Lib.hid (Same_any a b _ _ w20 (HVA.out.keep S20.out.bel) (HVB.out.keep S20.out.bel))
    have heq := HEQ.out
    generalize decide (a = b) = q at *
    go_wp2_with fail
    refine ES.out.mono ?_
    rintro e w21 ⟨rfl, hX⟩
    have S21 := Lib.hid (S20.out.below hX)
    clear hX S20 ES c0 c1 c2 c3 c4 c5 c6 c7 c8 c9 c10 e0 e1 e2 e3 e4 e5 e6 e7 e8 e9 e10
    go_wp2_with fail
    go_returns
    exact ⟨ret_bool (by cases q <;> rfl), S21.out.bel⟩
  | some R =>
    obtain ⟨x, n⟩ := R
    obtain ⟨hgx, hn, hbx, -, -⟩ := RS.out _ _ rfl
    have HV1 := hv1
    unfold rR at HV1
    dsimp only at HV1
    obtain ⟨B1, n1, B2, n2, B3, n3, rfl⟩ := hv1.form
    have S5 := Lib.hid (S4.out.alloc (recCells x (.slice B1 x.pages.length n1) (.slice B2 x.opn.length n2) (.slice B3 x.dty.length n3)) 28)
    have hb9 : Below w5.heap.size w5 (w5.alloc (.cells (recCells x (.slice B1 x.pages.length n1) (.slice B2 x.opn.length n2) (.slice B3 x.dty.length n3)) 28)) := blA (Below.refl _ _) _
    have HV2 := Lib.hid (HV1.keep hb9)
    have hs1 := slice_to (P := Tryd.prog) Tryd.underlying9 s n n rfl (by rw [HL.out, ofL_sz]; omega)
    rw [show s.extract 0 n = ofL (bytes x) by rw [HL.out, ofL_take, hbx]] at hs1
    have hnn : ¬ ((s.size : Int) < (n : Int)) := by rw [HL.out, ofL_sz]; omega
    have HGX := Lib.hid hgx
    clear hv1 HV1 hb9 S4 RS hgx hbx
    rw [rV_some]
    unfold rR at *
    dsimp only at *
    unfold recCells at *
    go_upto_region 6 with fail
    obtain ⟨gz, hgz⟩ : ∃ g, g = w5.heap.size := ⟨_, rfl⟩
    rw [← hgz] at S5 ⊢
    clear hgz
    generalize w5.alloc _ = w6 at *
    obtain ⟨⟨c0, c1, c2, c3, c4, c5, c6, c7, c8, c9, c10⟩, -⟩ := eleven (S5.out.has (Has.l (has_blk _ _ _)))
    have EX := Lib.hid (Bytes_good x _ w6 HV2.out HGX.out (Tab.own HT.out S5.out))
    unfold recCells at EX
    generalize ofL (bytes x) = xs at *
    have hxx : (xs.toList == xs.toList) = true := by rw [str_eq, decide_eq_true rfl]
    go_wp2_with fail
    refine EX.out.mono ?_
    rintro e w7 ⟨rfl, hX⟩
    have S10 := Lib.hid (S5.out.below hX).right
    clear hX S5 EX c0 c1 c2 c3 c4 c5 c6 c7 c8 c9 c10
    go_upto_region 10 with fail
    obtain ⟨⟨c0, c1, c2, c3, c4, c5, c6, c7, c8, c9, c10⟩, -⟩ := eleven (S10.out.has (Has.r (has_blk _ _ _)))
    go_wp2_with fail
    refine (EA.out _ S10.out.bel).mono ?_
    rintro e w11 ⟨rfl, hX⟩
    have S11 := Lib.hid (S10.out.below hX)
    clear hX S10 c0 c1 c2 c3 c4 c5 c6 c7 c8 c9 c10
    cases hga : goodB a with
    | false =>
      go_wp2_with fail
      go_returns
      exact ⟨rfl, S11.out.bel⟩
    | true =>
    obtain ⟨⟨c0, c1, c2, c3, c4, c5, c6, c7, c8, c9, c10⟩, -⟩ := eleven (S11.out.has (Has.l (has_blk _ _ _)))
    go_wp2_with fail
    refine (EB.out _ S11.out.bel).mono ?_
    rintro e w12 ⟨rfl, hX⟩
    have S12 := Lib.hid (S11.out.below hX)
    clear hX S11 c0 c1 c2 c3 c4 c5 c6 c7 c8 c9 c10
    cases hgb : goodB b with
    | false =>
      go_wp2_with fail
      go_returns
      exact ⟨rfl, S12.out.bel⟩
    | true =>
    have ga := goods hga
    have gb := goods hgb
    have za := size_small ga
    have zb := size_small gb
    have ya := body_size a ga.pg
    have yb := body_size b gb.pg
    have la := bytes_len a
    have lb := bytes_len b
    have BA : Hid (∀ w', Below w.heap.size w w' → Tab w' → _) := Lib.hid (fun w' (hb : Below w.heap.size w w') (ht : Tab w') => Bytes_good a _ w' (HVA.out.keep hb) hga ht)
    have BB : Hid (∀ w', Below w.heap.size w w' → Tab w' → _) := Lib.hid (fun w' (hb : Below w.heap.size w w') (ht : Tab w') => Bytes_good b _ w' (HVB.out.keep hb) hgb ht)
    have R1 := Lib.hid (fun w' ht => Read_any (bytes a ++ (bytes b ++ l)) w' (by rw [List.length_append, List.length_append]; omega) ht)
    rw [read_bytes a hga] at R1
    have R2 := Lib.hid (fun w' ht => Read_any (bytes b ++ l) w' (by rw [List.length_append]; omega) ht)
    rw [read_bytes b hgb] at R2
    obtain ⟨La, hLa⟩ : ∃ n, n = (bytes a).length := ⟨_, rfl⟩
    obtain ⟨Lb, hLb⟩ : ∃ n, n = (bytes b).length := ⟨_, rfl⟩
    have la1 : La ≤ 4271 := by omega
    have lb1 : Lb ≤ 4271 := by omega
    have hs2 := slice_from (P := Tryd.prog) Tryd.underlying9 (ofL (bytes a ++ (bytes b ++ l))) La La rfl (by rw [ofL_sz, List.length_append]; omega)
    rw [ofL_drop, hLa, List.drop_left, ← hLa] at hs2
    have hcat : ofL (bytes a) ++ ofL (bytes b) ++ s = ofL (bytes a ++ (bytes b ++ l)) := by rw [HL.out, ofL_cat, ofL_cat, List.append_assoc]
    have hza : (ofL (bytes a)).size = La := by rw [ofL_sz, hLa]
    have hzb : (ofL (bytes b)).size = Lb := by rw [ofL_sz, hLb]
    have hov1 : ¬ 9223372036854775807 < La + Lb := by omega
    have hov2 : ¬ 9223372036854775807 < La + Lb + s.size := by omega
    have hov3 : ¬ 9223372036854775807 < (ofL (bytes a) ++ ofL (bytes b)).size + s.size := by rw [ByteArray.size_append]; omega
    rw [← hLa] at R1
    rw [← hLb] at R2
    have heq : ((ofL (bytes a)).toList == (ofL (bytes b)).toList) = decide (a = b) := by
      rw [str_eq]
      congr 1
      apply propext
      exact ⟨fun h => bytes_inj a b hga hgb (ofL_inj h), fun h => by rw [h]⟩
    have HEQ := Lib.hid heq
    have S12' := S12
    clear S12 ga gb za zb ya yb la lb hLa hLb heq HL hls
    generalize ofL (bytes a ++ (bytes b ++ l)) = x3 at *
    generalize ofL (bytes b ++ l) = x4 at *
    generalize ofL (bytes a) = x1 at *
    generalize ofL (bytes b) = x2 at *
    obtain ⟨⟨c0, c1, c2, c3, c4, c5, c6, c7, c8, c9, c10⟩, -⟩ := eleven (S12'.out.has (Has.r (has_blk _ _ _)))
    go_wp2_with fail
    refine (BA.out _ S12'.out.bel (Tab.own HT.out S12'.out)).mono ?_
    rintro e w13 ⟨rfl, hX⟩
    have S13 := Lib.hid (S12'.out.below hX)
    clear hX S12' BA c0 c1 c2 c3 c4 c5 c6 c7 c8 c9 c10
    obtain ⟨⟨c0, c1, c2, c3, c4, c5, c6, c7, c8, c9, c10⟩, -⟩ := eleven (S13.out.has (Has.l (has_blk _ _ _)))
    go_wp2_with fail
    refine (BB.out _ S13.out.bel (Tab.own HT.out S13.out)).mono ?_
    rintro e w14 ⟨rfl, hX⟩
    have S14 := Lib.hid (S13.out.below hX)
    clear hX S13 BB c0 c1 c2 c3 c4 c5 c6 c7 c8 c9 c10
    go_wp2_with fail
    refine (R1.out _ (Tab.own HT.out S14.out)).mono ?_
    rintro e w15 ⟨⟨v5, rfl, hv5⟩, hX⟩
    have S15 := Lib.hid (S14.out.below hX)
    clear hX S14 R1
    have HV5 := hv5
    obtain ⟨C1, k1, C2, k2, C3, k3, rfl⟩ := hv5.form
    unfold rR at *
    dsimp only at *
    have S16 := Lib.hid (S15.out.alloc (recCells a (.slice C1 a.pages.length k1) (.slice C2 a.opn.length k2) (.slice C3 a.dty.length k3)) 28)
    have HV6 := Lib.hid (HV5.keep (w' := w15.alloc (.cells (recCells a (.slice C1 a.pages.length k1) (.slice C2 a.opn.length k2) (.slice C3 a.dty.length k3)) 28)) (blA (Below.refl _ _) _))
    clear hv5 HV5 S15
    rw [rV_some]
    unfold recCells at *
    go_upto_region 17 with fail
    obtain ⟨gy, hgz⟩ : ∃ g, g = w15.heap.size := ⟨_, rfl⟩
    rw [← hgz] at S16 ⊢
    clear hgz
    generalize w15.alloc _ = w16 at *
    obtain ⟨⟨c0, c1, c2, c3, c4, c5, c6, c7, c8, c9, c10⟩, -⟩ := eleven (S16.out.has (Has.r (Has.r (has_blk _ _ _))))
    obtain ⟨⟨e0, e1, e2, e3, e4, e5, e6, e7, e8, e9, e10⟩, -⟩ := eleven (S16.out.has (Has.l (has_blk _ _ _)))
    have ES := Lib.hid (Same_any a a _ _ w16 HV6.out (HVA.out.keep S16.out.bel))
    rw [decide_eq_true rfl] at ES
    go_wp2_with fail
    refine ES.out.mono ?_
    rintro e w17 ⟨rfl, hX⟩
    have S17 := Lib.hid (S16.out.below hX).right
    clear hX S16 ES HV6 c0 c1 c2 c3 c4 c5 c6 c7 c8 c9 c10 e0 e1 e2 e3 e4 e5 e6 e7 e8 e9 e10
    go_wp2_with fail
    refine (R2.out _ (Tab.own HT.out S17.out)).mono ?_
    rintro e w18 ⟨⟨v6, rfl, hv6⟩, hX⟩
    have S18 := Lib.hid (S17.out.below hX)
    clear hX S17 R2
    have HV5 := hv6
    obtain ⟨D1, j1, D2, j2, D3, j3, rfl⟩ := hv6.form
    unfold rR at *
    dsimp only at *
    have S19 := Lib.hid (S18.out.alloc (recCells b (.slice D1 b.pages.length j1) (.slice D2 b.opn.length j2) (.slice D3 b.dty.length j3)) 28)
    have HV6 := Lib.hid (HV5.keep (w' := w18.alloc (.cells (recCells b (.slice D1 b.pages.length j1) (.slice D2 b.opn.length j2) (.slice D3 b.dty.length j3)) 28)) (blA (Below.refl _ _) _))
    clear hv6 HV5 S18
    rw [rV_some]
    unfold recCells at *
    go_upto_region 20 with fail
    obtain ⟨gy2, hgz⟩ : ∃ g, g = w18.heap.size := ⟨_, rfl⟩
    rw [← hgz] at S19 ⊢
    clear hgz
    generalize w18.alloc _ = w19 at *
    obtain ⟨⟨c0, c1, c2, c3, c4, c5, c6, c7, c8, c9, c10⟩, -⟩ := eleven (S19.out.has (Has.r (Has.l (has_blk _ _ _))))
    obtain ⟨⟨e0, e1, e2, e3, e4, e5, e6, e7, e8, e9, e10⟩, -⟩ := eleven (S19.out.has (Has.l (has_blk _ _ _)))
    have ES := Lib.hid (Same_any b b _ _ w19 HV6.out (HVB.out.keep S19.out.bel))
    rw [decide_eq_true rfl] at ES
    go_wp2_with fail
    refine ES.out.mono ?_
    rintro e w20 ⟨rfl, hX⟩
    have S20 := Lib.hid (S19.out.below hX).right
    clear hX S19 ES HV6 c0 c1 c2 c3 c4 c5 c6 c7 c8 c9 c10 e0 e1 e2 e3 e4 e5 e6 e7 e8 e9 e10
    obtain ⟨⟨c0, c1, c2, c3, c4, c5, c6, c7, c8, c9, c10⟩, -⟩ := eleven (S20.out.has (Has.r (has_blk _ _ _)))
    obtain ⟨⟨e0, e1, e2, e3, e4, e5, e6, e7, e8, e9, e10⟩, -⟩ := eleven (S20.out.has (Has.l (has_blk _ _ _)))
    have ES := Lib.hid (Same_any a b _ _ w20 (HVA.out.keep S20.out.bel) (HVB.out.keep S20.out.bel))
    have heq := HEQ.out
    generalize decide (a = b) = q at *
    go_wp2_with fail
    refine ES.out.mono ?_
    rintro e w21 ⟨rfl, hX⟩
    have S21 := Lib.hid (S20.out.below hX)
    clear hX S20 ES c0 c1 c2 c3 c4 c5 c6 c7 c8 c9 c10 e0 e1 e2 e3 e4 e5 e6 e7 e8 e9 e10
    go_wp2_with fail
    go_returns
    exact ⟨ret_bool (by cases q <;> rfl), S21.out.bel⟩
end Go.Proofs.YtghbipojnniaoaaDoor.Nt
