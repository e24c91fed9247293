/- The document's bytes of a record. -/
import Derived.Test.YtaacinhmgmmcaaaDoorNtE
import Derived.Test.YtaacinhmgmmcaaaDoorNtY
import Derived.Test.YtaacinhmgmmcaaaDoorNtS
import Derived.Deep.CutBlock
import Derived.Deep.RegionHeld3
namespace Go.Proofs.YtaacinhmgmmcaaaDoor.Nt
open Go.ChangeShapes Go.WideShapes Go.ChangeAt Go.RowKit Go.PlainAid Aid Cr
set_option linter.unusedVariables false
set_option linter.unusedSimpArgs false
theorem ofL_cat2 (a b : By) : ofL a ++ ofL b = ofL (a ++ b) := by
  apply list_inj; rw [ByteArray.data_append, Array.toList_append]; rfl
theorem numI1 (n : Int) (w : World) (h0 : 0 ≤ n) (hn : n < 9223372036854775808) : Calls Tryd.prog 32 #[.int .i64 n, .int .i64 1] w fun e w' => e = .returned (.string (ofL (numI 1 n))) ∧ Below w.heap.size w w' := refNumI n 1 w (by omega) h0 hn
theorem numN1 (n : Nat) (w : World) (hn : n < 9223372036854775808) : Calls Tryd.prog 32 #[.int .i64 n, .int .i64 1] w fun e w' => e = .returned (.string (ofL (numL 1 n))) ∧ Below w.heap.size w w' := refNum_any n 1 w (by omega) hn
theorem numI2 (n : Int) (w : World) (h0 : 0 ≤ n) (hn : n < 9223372036854775808) : Calls Tryd.prog 32 #[.int .i64 n, .int .i64 2] w fun e w' => e = .returned (.string (ofL (numI 2 n))) ∧ Below w.heap.size w w' := refNumI n 2 w (by omega) h0 hn
theorem numN2 (n : Nat) (w : World) (hn : n < 9223372036854775808) : Calls Tryd.prog 32 #[.int .i64 n, .int .i64 2] w fun e w' => e = .returned (.string (ofL (numL 2 n))) ∧ Below w.heap.size w w' := refNum_any n 2 w (by omega) hn
theorem numI4 (n : Int) (w : World) (h0 : 0 ≤ n) (hn : n < 9223372036854775808) : Calls Tryd.prog 32 #[.int .i64 n, .int .i64 4] w fun e w' => e = .returned (.string (ofL (numI 4 n))) ∧ Below w.heap.size w w' := refNumI n 4 w (by omega) h0 hn
theorem numN4 (n : Nat) (w : World) (hn : n < 9223372036854775808) : Calls Tryd.prog 32 #[.int .i64 n, .int .i64 4] w fun e w' => e = .returned (.string (ofL (numL 4 n))) ∧ Below w.heap.size w w' := refNum_any n 4 w (by omega) hn
def RB (w W : World) (g : Nat) (a0 a1 a2 a3 a4 a5 a6 a7 a8 a9 a10 : Value) : Prop :=
  W.cell? ⟨g, 0, none⟩ = some a0 ∧ W.cell? ⟨g, 1, none⟩ = some a1 ∧ W.cell? ⟨g, 2, none⟩ = some a2 ∧ W.cell? ⟨g, 3, none⟩ = some a3 ∧ W.cell? ⟨g, 4, none⟩ = some a4 ∧ W.cell? ⟨g, 5, none⟩ = some a5 ∧ W.cell? ⟨g, 6, none⟩ = some a6 ∧ W.cell? ⟨g, 7, none⟩ = some a7 ∧ W.cell? ⟨g, 8, none⟩ = some a8 ∧ W.cell? ⟨g, 9, none⟩ = some a9 ∧ W.cell? ⟨g, 10, none⟩ = some a10 ∧ Hid (Own w No W (Asn.blk g 45 #[a0, a1, a2, a3, a4, a5, a6, a7, a8, a9, a10]))
theorem rb_of {w W : World} {g : Nat} {a0 a1 a2 a3 a4 a5 a6 a7 a8 a9 a10 : Value} (h : Own w No W (Asn.blk g 45 #[a0, a1, a2, a3, a4, a5, a6, a7, a8, a9, a10])) : RB w W g a0 a1 a2 a3 a4 a5 a6 a7 a8 a9 a10 := by
  obtain ⟨⟨c0, c1, c2, c3, c4, c5, c6, c7, c8, c9, c10⟩, -⟩ := eleven (h.has (has_blk _ _ _))
  exact ⟨c0, c1, c2, c3, c4, c5, c6, c7, c8, c9, c10, Lib.hid h⟩
theorem rb_keep {w W W' : World} {g : Nat} {a0 a1 a2 a3 a4 a5 a6 a7 a8 a9 a10 : Value} (hb : Below W.heap.size W W') (h : Hid (Own w No W (Asn.blk g 45 #[a0, a1, a2, a3, a4, a5, a6, a7, a8, a9, a10]))) : RB w W' g a0 a1 a2 a3 a4 a5 a6 a7 a8 a9 a10 := rb_of (h.out.below hb)
theorem rb_own {w W W' : World} {A : Asn} (hb : Below W.heap.size W W') (h : Hid (Own w No W A)) : Hid (Own w No W' A) := Lib.hid (h.out.below hb)
set_option maxRecDepth 100000 in
set_option maxHeartbeats 16000000 in
theorem refBytes_any (r : Rec) (hg : Goods r) (v : Value) (w : World) (hv : RecAt w v r) :
    Calls Tryd.prog 11 #[v] w fun e w' => e = .returned (.string (ofL (bytes r))) ∧ Below w.heap.size w w' := by
  obtain ⟨p, o, d, rfl, hp, ho, hd⟩ := hv
  obtain ⟨A1, m1, rfl⟩ := hp.slice
  obtain ⟨A2, m2, rfl⟩ := ho.slice
  obtain ⟨A3, m3, rfl⟩ := hd.slice
  have HP := Lib.hid hp
  have HO := Lib.hid ho
  have HD := Lib.hid hd
  obtain ⟨Z, hZ⟩ : ∃ Z, Z = ofL (bytes r) := ⟨_, rfl⟩
  rw [← hZ]
  obtain ⟨ak, ad, ap, an, pg, ⟨uk, ut, ky, vl⟩, op, dt⟩ := r
  have HZ := Lib.hid hZ
  have HG := Lib.hid hg
  have g1 := hg.k1; have g2 := hg.k2; have g3 := hg.d1; have g4 := hg.d2; have g5 := hg.p1; have g6 := hg.p2; have g7 := hg.n1; have g8 := hg.n2; have g9 := hg.uk1; have g10 := hg.uk2; have g11 := hg.ut1; have g12 := hg.ut2; have g13 := hg.key; have g14 := hg.val; have g15 := hg.pl; have g16 := hg.ol; have g17 := hg.dl
  dsimp only at *
  have N0 := Lib.hid (fun w => numI1 ak w (by omega) (by omega))
  have N1 := Lib.hid (fun w => numI4 ad w (by omega) (by omega))
  have N2 := Lib.hid (fun w => numI4 ap w (by omega) (by omega))
  have N3 := Lib.hid (fun w => numI4 an w (by omega) (by omega))
  have N4 := Lib.hid (fun w => numI1 uk w (by omega) (by omega))
  have N5 := Lib.hid (fun w => numI1 ut w (by omega) (by omega))
  have N6 := Lib.hid (fun w => numN1 (ofL ky).size w (by rw [ofL_sz]; omega))
  have N7 := Lib.hid (fun w => numN1 (ofL vl).size w (by rw [ofL_sz]; omega))
  have N8 := Lib.hid (fun w => numN1 pg.length w (by omega))
  have N9 := Lib.hid (fun w => numN1 op.length w (by omega))
  have N10 := Lib.hid (fun w => numN2 dt.length w (by omega))
  have E1 : Hid (ofL (numI 1 ak) ++ ofL (numI 4 ad) ++ ofL (numI 4 ap) ++ ofL (numI 4 an) ++ ofL (numI 1 uk) ++ ofL (numI 1 ut) = ofL (numI 1 ak ++ numI 4 ad ++ numI 4 ap ++ numI 4 an ++ numI 1 uk ++ numI 1 ut)) := Lib.hid (by simp only [ofL_cat2])
  have z0 : (ofL (numI 1 ak)).size = 1 := by rw [ofL_sz, numI, numL_length]
  have z1 : (ofL (numI 4 ad)).size = 4 := by rw [ofL_sz, numI, numL_length]
  have z2 : (ofL (numI 4 ap)).size = 4 := by rw [ofL_sz, numI, numL_length]
  have z3 : (ofL (numI 4 an)).size = 4 := by rw [ofL_sz, numI, numL_length]
  have z4 : (ofL (numI 1 uk)).size = 1 := by rw [ofL_sz, numI, numL_length]
  have z5 : (ofL (numI 1 ut)).size = 1 := by rw [ofL_sz, numI, numL_length]
  have S := Lib.hid ((Own.none w).alloc (recCells ⟨ak, ad, ap, an, pg, ⟨uk, ut, ky, vl⟩, op, dt⟩ (.slice A1 pg.length m1) (.slice A2 op.length m2) (.slice A3 dt.length m3)) 45).left
  obtain ⟨P0, hP0⟩ : ∃ P, P = numI 1 ak ++ numI 4 ad ++ numI 4 ap ++ numI 4 an ++ numI 1 uk ++ numI 1 ut := ⟨_, rfl⟩
  rw [← hP0] at E1
  have HP0 := Lib.hid hP0
  generalize ofL (numI 1 ak) = x0 at *
  generalize ofL (numI 4 ad) = x1 at *
  generalize ofL (numI 4 ap) = x2 at *
  generalize ofL (numI 4 an) = x3 at *
  generalize ofL (numI 1 uk) = x4 at *
  generalize ofL (numI 1 ut) = x5 at *
  clear hp ho hd hg hZ hP0
  unfold recCells at *
  dsimp only at *
  go_enter Tryd.func11, Tryd.ntmps11
  go_upto_region 1 with fail
  obtain ⟨g, hgz⟩ : ∃ g, g = w.heap.size := ⟨_, rfl⟩
  rw [← hgz] at S ⊢
  clear hgz
  generalize w.alloc _ = w1 at *
  have SD := Lib.hid S.out.drew
  have K0 := rb_of SD.out
  go_region_held3 (fun W => W.cell? ⟨g, 0, none⟩ = some (.int .i64 ak) ∧ W.cell? ⟨g, 1, none⟩ = some (.int .i64 ad) ∧ W.cell? ⟨g, 2, none⟩ = some (.int .i64 ap) ∧ W.cell? ⟨g, 3, none⟩ = some (.int .i64 an) ∧ W.cell? ⟨g, 4, none⟩ = some (.slice A1 pg.length m1) ∧ W.cell? ⟨g, 5, none⟩ = some (.int .i64 uk) ∧ W.cell? ⟨g, 6, none⟩ = some (.int .i64 ut) ∧ W.cell? ⟨g, 7, none⟩ = some (.string (ofL ky)) ∧ W.cell? ⟨g, 8, none⟩ = some (.string (ofL vl)) ∧ W.cell? ⟨g, 9, none⟩ = some (.slice A2 op.length m2) ∧ W.cell? ⟨g, 10, none⟩ = some (.slice A3 dt.length m3) ∧ Hid (Own w No W (Asn.blk g 45 #[.int .i64 ak, .int .i64 ad, .int .i64 ap, .int .i64 an, .slice A1 pg.length m1, .int .i64 uk, .int .i64 ut, .string (ofL ky), .string (ofL vl), .slice A2 op.length m2, .slice A3 dt.length m3]))) (first | exact K0 | exact t20 | exact t21 | exact t22 | exact t23 | exact t24 | exact t25)
    (first | (go_at_call 32; with_reducible refine (N0.out _).mono ?_; rintro e w20 ⟨rfl, hb20⟩; have s20 : Hid (Own w No w20 (Asn.blk g 45 #[.int .i64 ak, .int .i64 ad, .int .i64 ap, .int .i64 an, .slice A1 pg.length m1, .int .i64 uk, .int .i64 ut, .string (ofL ky), .string (ofL vl), .slice A2 op.length m2, .slice A3 dt.length m3])) := rb_own hb20 (by assumption); have t20 := rb_of s20.out) | (go_at_call 32; with_reducible refine (N1.out _).mono ?_; rintro e w21 ⟨rfl, hb21⟩; have s21 : Hid (Own w No w21 (Asn.blk g 45 #[.int .i64 ak, .int .i64 ad, .int .i64 ap, .int .i64 an, .slice A1 pg.length m1, .int .i64 uk, .int .i64 ut, .string (ofL ky), .string (ofL vl), .slice A2 op.length m2, .slice A3 dt.length m3])) := rb_own hb21 (by assumption); have t21 := rb_of s21.out) | (go_at_call 32; with_reducible refine (N2.out _).mono ?_; rintro e w22 ⟨rfl, hb22⟩; have s22 : Hid (Own w No w22 (Asn.blk g 45 #[.int .i64 ak, .int .i64 ad, .int .i64 ap, .int .i64 an, .slice A1 pg.length m1, .int .i64 uk, .int .i64 ut, .string (ofL ky), .string (ofL vl), .slice A2 op.length m2, .slice A3 dt.length m3])) := rb_own hb22 (by assumption); have t22 := rb_of s22.out) | (go_at_call 32; with_reducible refine (N3.out _).mono ?_; rintro e w23 ⟨rfl, hb23⟩; have s23 : Hid (Own w No w23 (Asn.blk g 45 #[.int .i64 ak, .int .i64 ad, .int .i64 ap, .int .i64 an, .slice A1 pg.length m1, .int .i64 uk, .int .i64 ut, .string (ofL ky), .string (ofL vl), .slice A2 op.length m2, .slice A3 dt.length m3])) := rb_own hb23 (by assumption); have t23 := rb_of s23.out) | (go_at_call 32; with_reducible refine (N4.out _).mono ?_; rintro e w24 ⟨rfl, hb24⟩; have s24 : Hid (Own w No w24 (Asn.blk g 45 #[.int .i64 ak, .int .i64 ad, .int .i64 ap, .int .i64 an, .slice A1 pg.length m1, .int .i64 uk, .int .i64 ut, .string (ofL ky), .string (ofL vl), .slice A2 op.length m2, .slice A3 dt.length m3])) := rb_own hb24 (by assumption); have t24 := rb_of s24.out) | (go_at_call 32; with_reducible refine (N5.out _).mono ?_; rintro e w25 ⟨rfl, hb25⟩; have s25 : Hid (Own w No w25 (Asn.blk g 45 #[.int .i64 ak, .int .i64 ad, .int .i64 ap, .int .i64 an, .slice A1 pg.length m1, .int .i64 uk, .int .i64 ut, .string (ofL ky), .string (ofL vl), .slice A2 op.length m2, .slice A3 dt.length m3])) := rb_own hb25 (by assumption); have t25 := rb_of s25.out))
  rw [E1.out]
  have S1 := s25
  have hP0l : P0.length = 15 := by rw [HP0.out]; simp only [List.length_append, numI, numL_length]
  obtain ⟨P1, hP1⟩ : ∃ P, P = P0 ++ numL 1 ky.length ++ ky ++ numL 1 vl.length ++ vl ++ numL 1 pg.length := ⟨_, rfl⟩
  have hP1l : P1.length = 18 + ky.length + vl.length := by rw [hP1]; simp only [List.length_append, numL_length]; omega
  have E2 : Hid (ofL P0 ++ ofL (numL 1 (ofL ky).size) ++ ofL ky ++ ofL (numL 1 (ofL vl).size) ++ ofL vl ++ ofL (numL 1 pg.length) = ofL P1) := Lib.hid (by rw [hP1, ofL_sz, ofL_sz]; simp only [ofL_cat2])
  have HP1 := Lib.hid hP1
  have v0 : (ofL P0).size = 15 := hP0l
  have v1 : (ofL (numL 1 (ofL ky).size)).size = 1 := by rw [ofL_sz, numL_length]
  have v2 : (ofL ky).size ≤ 255 := g13
  have v3 : (ofL (numL 1 (ofL vl).size)).size = 1 := by rw [ofL_sz, numL_length]
  have v4 : (ofL vl).size ≤ 255 := g14
  have v5 : (ofL (numL 1 pg.length)).size = 1 := by rw [ofL_sz, numL_length]
  clear E1 hP1 hP0l K0 SD s20 s21 s22 s23 s24 s25 t20 t21 t22 t23 t24 t25 N0 N1 N2 N3 N4 N5 z0 z1 z2 z3 z4 z5 S hb20 hb21 hb22 hb23 hb24 hb25
  generalize ofL (numL 1 (ofL ky).size) = x6 at *
  generalize ofL (numL 1 (ofL vl).size) = x7 at *
  generalize ofL (numL 1 pg.length) = x8 at *
  generalize ofL P0 = y0 at *
  generalize hkb : ofL ky = kb at *
  generalize hvb : ofL vl = vb at *
  have HKB := Lib.hid hkb
  have HVB := Lib.hid hvb
  clear hkb hvb
  have q1 : ¬ 9223372036854775807 < y0.size + x6.size := by omega
  have q2 : ¬ 9223372036854775807 < y0.size + x6.size + kb.size := by omega
  have q3 : ¬ 9223372036854775807 < y0.size + x6.size + kb.size + x7.size := by omega
  have q4 : ¬ 9223372036854775807 < y0.size + x6.size + kb.size + x7.size + vb.size := by omega
  have q5 : ¬ 9223372036854775807 < y0.size + x6.size + kb.size + x7.size + vb.size + x8.size := by omega
  clear v0 v1 v2 v3 v4 v5
  generalize w25 = wa at *
  have SD := Lib.hid S1.out.drew
  have K0 := rb_of SD.out
  go_wp2_with fail
  go_region_held3 (fun W => W.cell? ⟨g, 0, none⟩ = some (.int .i64 ak) ∧ W.cell? ⟨g, 1, none⟩ = some (.int .i64 ad) ∧ W.cell? ⟨g, 2, none⟩ = some (.int .i64 ap) ∧ W.cell? ⟨g, 3, none⟩ = some (.int .i64 an) ∧ W.cell? ⟨g, 4, none⟩ = some (.slice A1 pg.length m1) ∧ W.cell? ⟨g, 5, none⟩ = some (.int .i64 uk) ∧ W.cell? ⟨g, 6, none⟩ = some (.int .i64 ut) ∧ W.cell? ⟨g, 7, none⟩ = some (.string kb) ∧ W.cell? ⟨g, 8, none⟩ = some (.string vb) ∧ W.cell? ⟨g, 9, none⟩ = some (.slice A2 op.length m2) ∧ W.cell? ⟨g, 10, none⟩ = some (.slice A3 dt.length m3) ∧ Hid (Own w No W (Asn.blk g 45 #[.int .i64 ak, .int .i64 ad, .int .i64 ap, .int .i64 an, .slice A1 pg.length m1, .int .i64 uk, .int .i64 ut, .string kb, .string vb, .slice A2 op.length m2, .slice A3 dt.length m3]))) (first | exact K0 | exact t30 | exact t31 | exact t32)
    (first | (go_at_call 32; with_reducible refine (N6.out _).mono ?_; rintro e w30 ⟨rfl, hb30⟩; have s30 : Hid (Own w No w30 (Asn.blk g 45 #[.int .i64 ak, .int .i64 ad, .int .i64 ap, .int .i64 an, .slice A1 pg.length m1, .int .i64 uk, .int .i64 ut, .string kb, .string vb, .slice A2 op.length m2, .slice A3 dt.length m3])) := rb_own hb30 (by assumption); have t30 := rb_of s30.out) | (go_at_call 32; with_reducible refine (N7.out _).mono ?_; rintro e w31 ⟨rfl, hb31⟩; have s31 : Hid (Own w No w31 (Asn.blk g 45 #[.int .i64 ak, .int .i64 ad, .int .i64 ap, .int .i64 an, .slice A1 pg.length m1, .int .i64 uk, .int .i64 ut, .string kb, .string vb, .slice A2 op.length m2, .slice A3 dt.length m3])) := rb_own hb31 (by assumption); have t31 := rb_of s31.out) | (go_at_call 32; with_reducible refine (N8.out _).mono ?_; rintro e w32 ⟨rfl, hb32⟩; have s32 : Hid (Own w No w32 (Asn.blk g 45 #[.int .i64 ak, .int .i64 ad, .int .i64 ap, .int .i64 an, .slice A1 pg.length m1, .int .i64 uk, .int .i64 ut, .string kb, .string vb, .slice A2 op.length m2, .slice A3 dt.length m3])) := rb_own hb32 (by assumption); have t32 := rb_of s32.out))
  rw [E2.out]
  have S2 := s32
  clear E2 K0 SD s30 s31 s32 t30 t31 t32 N6 N7 N8 S1 hb30 hb31 hb32 q1 q2 q3 q4 q5
  generalize w32 = wb at *
  go_wp2_with fail
  go_loopw [3, 4] (fun z i wr => ∃ k : Nat, k ≤ pg.length ∧ i = .int .i64 k ∧ z = .string (ofL (P1 ++ (pg.take k).flatMap bImg)) ∧ Hid (Own w No wr (Asn.blk g 45 #[.int .i64 ak, .int .i64 ad, .int .i64 ap, .int .i64 an, .slice A1 pg.length m1, .int .i64 uk, .int .i64 ut, .string kb, .string vb, .slice A2 op.length m2, .slice A3 dt.length m3]))) (fun _ i _ => pg.length - (intOf i).toNat)
  case atStart => exact ⟨0, Nat.zero_le _, rfl, by rw [List.take_zero, List.flatMap_nil, List.append_nil], S2⟩
  case round =>
    clear S2
    obtain ⟨k, hk, rfl, rfl, X⟩ := hrel
    obtain ⟨⟨c0, c1, c2, c3, c4, c5, c6, c7, c8, c9, c10⟩, -⟩ := eleven (X.out.has (has_blk _ _ _))
    by_cases hlt : k < pg.length
    · obtain ⟨x, hx⟩ : ∃ x, pg[k]? = some x := ⟨pg[k]'(by omega), List.getElem?_eq_getElem _⟩
      have hgx := HG.out.pg x (List.mem_of_getElem? hx)
      have hln := flat_len_take bImg 258 pg k hk (fun x hx => bImg_len (HG.out.pg x hx))
      have hft := flat_take bImg pg k x hx
      obtain ⟨b, ob, rfl, hbl, d0, d1⟩ := (HP.out).at hx
      obtain ⟨xa, xb⟩ := x
      unfold fImg at d0 d1
      dsimp only at d0 d1
      simp only [gImg, inN, Bool.and_eq_true, decide_eq_true_eq] at hgx
      obtain ⟨⟨h1, h2⟩, h3⟩ := hgx
      have M1 := Lib.hid (fun w => numI2 xa w h1 (by omega))
      have EE : Hid (ofL (P1 ++ (pg.take k).flatMap bImg) ++ ofL (numI 2 xa) ++ ofL xb = ofL (P1 ++ (pg.take (k + 1)).flatMap bImg)) := Lib.hid (by rw [hft, ofL_cat2, ofL_cat2, List.append_assoc, List.append_assoc]; rfl)
      have v1 : (ofL (P1 ++ (pg.take k).flatMap bImg)).size ≤ 100000 := by rw [ofL_sz, List.length_append, hln]; omega
      have v2 : (ofL (numI 2 xa)).size = 2 := by rw [ofL_sz, numI, numL_length]
      have v3 : (ofL xb).size = 256 := h3
      generalize ofL (P1 ++ (pg.take k).flatMap bImg) = q at *
      generalize hqq : ofL (P1 ++ (pg.take (k + 1)).flatMap bImg) = q' at *
      have HQ := Lib.hid hqq
      clear hqq
      generalize ofL (numI 2 xa) = x at *
      generalize ofL xb = y at *
      have q1 : ¬ 9223372036854775807 < q.size + x.size := by omega
      have q2 : ¬ 9223372036854775807 < q.size + x.size + y.size := by omega
      clear hft hln hx v1 v2 v3 h1 h2 h3
      have SD := Lib.hid X.out.drew
      have el : ∀ W, Own w No W (Asn.blk g 45 #[.int .i64 ak, .int .i64 ad, .int .i64 ap, .int .i64 an, .slice (some ⟨b, ob, none⟩) pg.length m1, .int .i64 uk, .int .i64 ut, .string kb, .string vb, .slice A2 op.length m2, .slice A3 dt.length m3]) → W.cell? ⟨b, ob + k * 2, none⟩ = some (.int .i64 xa) ∧ W.cell? ⟨b, ob + k * 2 + 1, none⟩ = some (.string y) := fun W h => ⟨((bcell h.bel).1 _ _ hbl).trans d0, ((bcell h.bel).1 _ _ hbl).trans d1⟩
      have EL := Lib.hid el
      clear el d0 d1
      have K0 := And.intro (EL.out _ SD.out).1 (And.intro (EL.out _ SD.out).2 (rb_of SD.out))
      go_wp2_with fail
      go_region_held3 (fun W => W.cell? ⟨b, ob + k * 2, none⟩ = some (.int .i64 xa) ∧ W.cell? ⟨b, ob + k * 2 + 1, none⟩ = some (.string y) ∧ W.cell? ⟨g, 0, none⟩ = some (.int .i64 ak) ∧ W.cell? ⟨g, 1, none⟩ = some (.int .i64 ad) ∧ W.cell? ⟨g, 2, none⟩ = some (.int .i64 ap) ∧ W.cell? ⟨g, 3, none⟩ = some (.int .i64 an) ∧ W.cell? ⟨g, 4, none⟩ = some (.slice (some ⟨b, ob, none⟩) pg.length m1) ∧ W.cell? ⟨g, 5, none⟩ = some (.int .i64 uk) ∧ W.cell? ⟨g, 6, none⟩ = some (.int .i64 ut) ∧ W.cell? ⟨g, 7, none⟩ = some (.string kb) ∧ W.cell? ⟨g, 8, none⟩ = some (.string vb) ∧ W.cell? ⟨g, 9, none⟩ = some (.slice A2 op.length m2) ∧ W.cell? ⟨g, 10, none⟩ = some (.slice A3 dt.length m3) ∧ Hid (Own w No W (Asn.blk g 45 #[.int .i64 ak, .int .i64 ad, .int .i64 ap, .int .i64 an, .slice (some ⟨b, ob, none⟩) pg.length m1, .int .i64 uk, .int .i64 ut, .string kb, .string vb, .slice A2 op.length m2, .slice A3 dt.length m3]))) (first | exact K0 | exact t40)
        (first | (go_at_call 32; with_reducible refine (M1.out _).mono ?_; rintro e w40 ⟨rfl, hb40⟩; have s40 : Hid (Own w No w40 (Asn.blk g 45 #[.int .i64 ak, .int .i64 ad, .int .i64 ap, .int .i64 an, .slice (some ⟨b, ob, none⟩) pg.length m1, .int .i64 uk, .int .i64 ut, .string kb, .string vb, .slice A2 op.length m2, .slice A3 dt.length m3])) := rb_own hb40 (by assumption); have t40 := And.intro (EL.out _ s40.out).1 (And.intro (EL.out _ s40.out).2 (rb_of s40.out))))
      rw [EE.out]
      have X2 := s40
      clear c0 c1 c2 c3 c4 c5 c6 c7 c8 c9 c10 EE K0 SD EL q1 q2 X M1 s40 t40 hb40
      go_wp2_with fail
      go_round
      case rel => exact ⟨k + 1, by omega, by go_num, by rw [HQ.out], X2⟩
      case measure => simp [intOf]; omega
    · have hke : k = pg.length := by omega
      rw [hke, List.take_length]
      clear hke hlt hk
      obtain ⟨P2, hP2⟩ : ∃ P, P = P1 ++ pg.flatMap bImg ++ numL 1 op.length := ⟨_, rfl⟩
      have hP2l : P2.length = P1.length + 258 * pg.length + 1 := by rw [hP2, List.length_append, List.length_append, numL_length, flat_len bImg 258 pg (fun x hx => bImg_len (HG.out.pg x hx))]
      have EE : Hid (ofL (P1 ++ pg.flatMap bImg) ++ ofL (numL 1 op.length) = ofL P2) := Lib.hid (by rw [hP2, ofL_cat2])
      have HP2 := Lib.hid hP2
      have v1 : (ofL (P1 ++ pg.flatMap bImg)).size ≤ 100000 := by rw [ofL_sz, List.length_append, flat_len bImg 258 pg (fun x hx => bImg_len (HG.out.pg x hx))]; omega
      have v2 : (ofL (numL 1 op.length)).size = 1 := by rw [ofL_sz, numL_length]
      clear hP2
      generalize ofL (P1 ++ pg.flatMap bImg) = q at *
      generalize ofL (numL 1 op.length) = x at *
      have q1 : ¬ 9223372036854775807 < q.size + x.size := by omega
      clear v1 v2
      go_wp2_with fail
      refine (N9.out _).mono ?_
      rintro e wc ⟨rfl, hX⟩
      have Swc := Lib.hid (X.out.below hX)
      clear hX X c0 c1 c2 c3 c4 c5 c6 c7 c8 c9 c10 N9
      obtain ⟨⟨c0, c1, c2, c3, c4, c5, c6, c7, c8, c9, c10⟩, -⟩ := eleven (Swc.out.has (has_blk _ _ _))
      go_upto_region 8 with fail
      rw [EE.out]
      clear EE q1
      go_wp2_with fail
      clear c0 c1 c2 c3 c4 c5 c6 c7 c8 c9 c10
      go_loopw [3, 5] (fun z i wr => ∃ k : Nat, k ≤ op.length ∧ i = .int .i64 k ∧ z = .string (ofL (P2 ++ (op.take k).flatMap bOpn)) ∧ Hid (Own w No wr (Asn.blk g 45 #[.int .i64 ak, .int .i64 ad, .int .i64 ap, .int .i64 an, .slice A1 pg.length m1, .int .i64 uk, .int .i64 ut, .string kb, .string vb, .slice A2 op.length m2, .slice A3 dt.length m3]))) (fun _ i _ => op.length - (intOf i).toNat)
      case atStart => exact ⟨0, Nat.zero_le _, rfl, by rw [List.take_zero, List.flatMap_nil, List.append_nil], Swc⟩
      case round =>
        clear Swc
        obtain ⟨k, hk, rfl, rfl, X⟩ := hrel
        obtain ⟨⟨c0, c1, c2, c3, c4, c5, c6, c7, c8, c9, c10⟩, -⟩ := eleven (X.out.has (has_blk _ _ _))
        by_cases hlt : k < op.length
        · obtain ⟨x, hx⟩ : ∃ x, op[k]? = some x := ⟨op[k]'(by omega), List.getElem?_eq_getElem _⟩
          have hgx := HG.out.og x (List.mem_of_getElem? hx)
          have hln := flat_len_take bOpn 8 op k hk (fun x _ => bOpn_len x)
          have hft := flat_take bOpn op k x hx
          obtain ⟨b, ob, rfl, hbl, d0, d1⟩ := (HO.out).at hx
          obtain ⟨xa, xb⟩ := x
          unfold fNum at d0 d1
          dsimp only at d0 d1
          simp only [gOpn, inN, Bool.and_eq_true, decide_eq_true_eq] at hgx
          obtain ⟨⟨h1, h2⟩, h3, h4⟩ := hgx
          have M1 := Lib.hid (fun w => numI4 xa w h1 (by omega))
          have M2 := Lib.hid (fun w => numI4 xb w h3 (by omega))
          have EE : Hid (ofL (P2 ++ (op.take k).flatMap bOpn) ++ ofL (numI 4 xa) ++ ofL (numI 4 xb) = ofL (P2 ++ (op.take (k + 1)).flatMap bOpn)) := Lib.hid (by rw [hft, ofL_cat2, ofL_cat2, List.append_assoc, List.append_assoc]; rfl)
          have v1 : (ofL (P2 ++ (op.take k).flatMap bOpn)).size ≤ 100000 := by rw [ofL_sz, List.length_append, hln]; omega
          have v2 : (ofL (numI 4 xa)).size = 4 := by rw [ofL_sz, numI, numL_length]
          have v3 : (ofL (numI 4 xb)).size = 4 := by rw [ofL_sz, numI, numL_length]
          generalize ofL (P2 ++ (op.take k).flatMap bOpn) = q at *
          generalize hqq : ofL (P2 ++ (op.take (k + 1)).flatMap bOpn) = q' at *
          have HQ := Lib.hid hqq
          clear hqq
          generalize ofL (numI 4 xa) = x at *
          generalize ofL (numI 4 xb) = y at *
          have q1 : ¬ 9223372036854775807 < q.size + x.size := by omega
          have q2 : ¬ 9223372036854775807 < q.size + x.size + y.size := by omega
          clear hft hln hx v1 v2 v3 h1 h2 h3
          have SD := Lib.hid X.out.drew
          have el : ∀ W, Own w No W (Asn.blk g 45 #[.int .i64 ak, .int .i64 ad, .int .i64 ap, .int .i64 an, .slice A1 pg.length m1, .int .i64 uk, .int .i64 ut, .string kb, .string vb, .slice (some ⟨b, ob, none⟩) op.length m2, .slice A3 dt.length m3]) → W.cell? ⟨b, ob + k * 2, none⟩ = some (.int .i64 xa) ∧ W.cell? ⟨b, ob + k * 2 + 1, none⟩ = some (.int .i64 xb) := fun W h => ⟨((bcell h.bel).1 _ _ hbl).trans d0, ((bcell h.bel).1 _ _ hbl).trans d1⟩
          have EL := Lib.hid el
          clear el d0 d1
          have K0 := And.intro (EL.out _ SD.out).1 (And.intro (EL.out _ SD.out).2 (rb_of SD.out))
          go_wp2_with fail
          go_region_held3 (fun W => W.cell? ⟨b, ob + k * 2, none⟩ = some (.int .i64 xa) ∧ W.cell? ⟨b, ob + k * 2 + 1, none⟩ = some (.int .i64 xb) ∧ W.cell? ⟨g, 0, none⟩ = some (.int .i64 ak) ∧ W.cell? ⟨g, 1, none⟩ = some (.int .i64 ad) ∧ W.cell? ⟨g, 2, none⟩ = some (.int .i64 ap) ∧ W.cell? ⟨g, 3, none⟩ = some (.int .i64 an) ∧ W.cell? ⟨g, 4, none⟩ = some (.slice A1 pg.length m1) ∧ W.cell? ⟨g, 5, none⟩ = some (.int .i64 uk) ∧ W.cell? ⟨g, 6, none⟩ = some (.int .i64 ut) ∧ W.cell? ⟨g, 7, none⟩ = some (.string kb) ∧ W.cell? ⟨g, 8, none⟩ = some (.string vb) ∧ W.cell? ⟨g, 9, none⟩ = some (.slice (some ⟨b, ob, none⟩) op.length m2) ∧ W.cell? ⟨g, 10, none⟩ = some (.slice A3 dt.length m3) ∧ Hid (Own w No W (Asn.blk g 45 #[.int .i64 ak, .int .i64 ad, .int .i64 ap, .int .i64 an, .slice A1 pg.length m1, .int .i64 uk, .int .i64 ut, .string kb, .string vb, .slice (some ⟨b, ob, none⟩) op.length m2, .slice A3 dt.length m3]))) (first | exact K0 | exact t42 | exact t43)
            (first | (go_at_call 32; with_reducible refine (M1.out _).mono ?_; rintro e w42 ⟨rfl, hb42⟩; have s42 : Hid (Own w No w42 (Asn.blk g 45 #[.int .i64 ak, .int .i64 ad, .int .i64 ap, .int .i64 an, .slice A1 pg.length m1, .int .i64 uk, .int .i64 ut, .string kb, .string vb, .slice (some ⟨b, ob, none⟩) op.length m2, .slice A3 dt.length m3])) := rb_own hb42 (by assumption); have t42 := And.intro (EL.out _ s42.out).1 (And.intro (EL.out _ s42.out).2 (rb_of s42.out))) | (go_at_call 32; with_reducible refine (M2.out _).mono ?_; rintro e w43 ⟨rfl, hb43⟩; have s43 : Hid (Own w No w43 (Asn.blk g 45 #[.int .i64 ak, .int .i64 ad, .int .i64 ap, .int .i64 an, .slice A1 pg.length m1, .int .i64 uk, .int .i64 ut, .string kb, .string vb, .slice (some ⟨b, ob, none⟩) op.length m2, .slice A3 dt.length m3])) := rb_own hb43 (by assumption); have t43 := And.intro (EL.out _ s43.out).1 (And.intro (EL.out _ s43.out).2 (rb_of s43.out))))
          rw [EE.out]
          have X2 := s43
          clear c0 c1 c2 c3 c4 c5 c6 c7 c8 c9 c10 EE K0 SD EL q1 q2 X M1 M2 s42 t42 hb42 s43 t43 hb43
          go_wp2_with fail
          go_round
          case rel => exact ⟨k + 1, by omega, by go_num, by rw [HQ.out], X2⟩
          case measure => simp [intOf]; omega
        · have hke : k = op.length := by omega
          rw [hke, List.take_length]
          clear hke hlt hk
          obtain ⟨P3, hP3⟩ : ∃ P, P = P2 ++ op.flatMap bOpn ++ numL 2 dt.length := ⟨_, rfl⟩
          have hP3l : P3.length = P2.length + 8 * op.length + 2 := by rw [hP3, List.length_append, List.length_append, numL_length, flat_len bOpn 8 op (fun x _ => bOpn_len x)]
          have EE : Hid (ofL (P2 ++ op.flatMap bOpn) ++ ofL (numL 2 dt.length) = ofL P3) := Lib.hid (by rw [hP3, ofL_cat2])
          have HP3 := Lib.hid hP3
          have v1 : (ofL (P2 ++ op.flatMap bOpn)).size ≤ 100000 := by rw [ofL_sz, List.length_append, flat_len bOpn 8 op (fun x _ => bOpn_len x)]; omega
          have v2 : (ofL (numL 2 dt.length)).size = 2 := by rw [ofL_sz, numL_length]
          clear hP3
          generalize ofL (P2 ++ op.flatMap bOpn) = q at *
          generalize ofL (numL 2 dt.length) = x at *
          have q1 : ¬ 9223372036854775807 < q.size + x.size := by omega
          clear v1 v2
          go_wp2_with fail
          refine (N10.out _).mono ?_
          rintro e wd ⟨rfl, hX⟩
          have Swd := Lib.hid (X.out.below hX)
          clear hX X c0 c1 c2 c3 c4 c5 c6 c7 c8 c9 c10 N10
          obtain ⟨⟨c0, c1, c2, c3, c4, c5, c6, c7, c8, c9, c10⟩, -⟩ := eleven (Swd.out.has (has_blk _ _ _))
          go_upto_region 13 with fail
          rw [EE.out]
          clear EE q1
          go_wp2_with fail
          clear c0 c1 c2 c3 c4 c5 c6 c7 c8 c9 c10
          go_loopw [3, 6] (fun z i wr => ∃ k : Nat, k ≤ dt.length ∧ i = .int .i64 k ∧ z = .string (ofL (P3 ++ (dt.take k).flatMap bDty)) ∧ Hid (Own w No wr (Asn.blk g 45 #[.int .i64 ak, .int .i64 ad, .int .i64 ap, .int .i64 an, .slice A1 pg.length m1, .int .i64 uk, .int .i64 ut, .string kb, .string vb, .slice A2 op.length m2, .slice A3 dt.length m3]))) (fun _ i _ => dt.length - (intOf i).toNat)
          case atStart => exact ⟨0, Nat.zero_le _, rfl, by rw [List.take_zero, List.flatMap_nil, List.append_nil], Swd⟩
          case round =>
            clear Swd
            obtain ⟨k, hk, rfl, rfl, X⟩ := hrel
            obtain ⟨⟨c0, c1, c2, c3, c4, c5, c6, c7, c8, c9, c10⟩, -⟩ := eleven (X.out.has (has_blk _ _ _))
            by_cases hlt : k < dt.length
            · obtain ⟨x, hx⟩ : ∃ x, dt[k]? = some x := ⟨dt[k]'(by omega), List.getElem?_eq_getElem _⟩
              have hgx := HG.out.dg x (List.mem_of_getElem? hx)
              have hln := flat_len_take bDty 6 dt k hk (fun x _ => bDty_len x)
              have hft := flat_take bDty dt k x hx
              obtain ⟨b, ob, rfl, hbl, d0, d1⟩ := (HD.out).at hx
              obtain ⟨xa, xb⟩ := x
              unfold fNum at d0 d1
              dsimp only at d0 d1
              simp only [gDty, inN, Bool.and_eq_true, decide_eq_true_eq] at hgx
              obtain ⟨⟨h1, h2⟩, h3, h4⟩ := hgx
              have M1 := Lib.hid (fun w => numI2 xa w h1 (by omega))
              have M2 := Lib.hid (fun w => numI4 xb w h3 (by omega))
              have EE : Hid (ofL (P3 ++ (dt.take k).flatMap bDty) ++ ofL (numI 2 xa) ++ ofL (numI 4 xb) = ofL (P3 ++ (dt.take (k + 1)).flatMap bDty)) := Lib.hid (by rw [hft, ofL_cat2, ofL_cat2, List.append_assoc, List.append_assoc]; rfl)
              have v1 : (ofL (P3 ++ (dt.take k).flatMap bDty)).size ≤ 100000 := by rw [ofL_sz, List.length_append, hln]; omega
              have v2 : (ofL (numI 2 xa)).size = 2 := by rw [ofL_sz, numI, numL_length]
              have v3 : (ofL (numI 4 xb)).size = 4 := by rw [ofL_sz, numI, numL_length]
              generalize ofL (P3 ++ (dt.take k).flatMap bDty) = q at *
              generalize hqq : ofL (P3 ++ (dt.take (k + 1)).flatMap bDty) = q' at *
              have HQ := Lib.hid hqq
              clear hqq
              generalize ofL (numI 2 xa) = x at *
              generalize ofL (numI 4 xb) = y at *
              have q1 : ¬ 9223372036854775807 < q.size + x.size := by omega
              have q2 : ¬ 9223372036854775807 < q.size + x.size + y.size := by omega
              clear hft hln hx v1 v2 v3 h1 h2 h3
              have SD := Lib.hid X.out.drew
              have el : ∀ W, Own w No W (Asn.blk g 45 #[.int .i64 ak, .int .i64 ad, .int .i64 ap, .int .i64 an, .slice A1 pg.length m1, .int .i64 uk, .int .i64 ut, .string kb, .string vb, .slice A2 op.length m2, .slice (some ⟨b, ob, none⟩) dt.length m3]) → W.cell? ⟨b, ob + k * 2, none⟩ = some (.int .i64 xa) ∧ W.cell? ⟨b, ob + k * 2 + 1, none⟩ = some (.int .i64 xb) := fun W h => ⟨((bcell h.bel).1 _ _ hbl).trans d0, ((bcell h.bel).1 _ _ hbl).trans d1⟩
              have EL := Lib.hid el
              clear el d0 d1
              have K0 := And.intro (EL.out _ SD.out).1 (And.intro (EL.out _ SD.out).2 (rb_of SD.out))
              go_wp2_with fail
              go_region_held3 (fun W => W.cell? ⟨b, ob + k * 2, none⟩ = some (.int .i64 xa) ∧ W.cell? ⟨b, ob + k * 2 + 1, none⟩ = some (.int .i64 xb) ∧ W.cell? ⟨g, 0, none⟩ = some (.int .i64 ak) ∧ W.cell? ⟨g, 1, none⟩ = some (.int .i64 ad) ∧ W.cell? ⟨g, 2, none⟩ = some (.int .i64 ap) ∧ W.cell? ⟨g, 3, none⟩ = some (.int .i64 an) ∧ W.cell? ⟨g, 4, none⟩ = some (.slice A1 pg.length m1) ∧ W.cell? ⟨g, 5, none⟩ = some (.int .i64 uk) ∧ W.cell? ⟨g, 6, none⟩ = some (.int .i64 ut) ∧ W.cell? ⟨g, 7, none⟩ = some (.string kb) ∧ W.cell? ⟨g, 8, none⟩ = some (.string vb) ∧ W.cell? ⟨g, 9, none⟩ = some (.slice A2 op.length m2) ∧ W.cell? ⟨g, 10, none⟩ = some (.slice (some ⟨b, ob, none⟩) dt.length m3) ∧ Hid (Own w No W (Asn.blk g 45 #[.int .i64 ak, .int .i64 ad, .int .i64 ap, .int .i64 an, .slice A1 pg.length m1, .int .i64 uk, .int .i64 ut, .string kb, .string vb, .slice A2 op.length m2, .slice (some ⟨b, ob, none⟩) dt.length m3]))) (first | exact K0 | exact t44 | exact t45)
                (first | (go_at_call 32; with_reducible refine (M1.out _).mono ?_; rintro e w44 ⟨rfl, hb44⟩; have s44 : Hid (Own w No w44 (Asn.blk g 45 #[.int .i64 ak, .int .i64 ad, .int .i64 ap, .int .i64 an, .slice A1 pg.length m1, .int .i64 uk, .int .i64 ut, .string kb, .string vb, .slice A2 op.length m2, .slice (some ⟨b, ob, none⟩) dt.length m3])) := rb_own hb44 (by assumption); have t44 := And.intro (EL.out _ s44.out).1 (And.intro (EL.out _ s44.out).2 (rb_of s44.out))) | (go_at_call 32; with_reducible refine (M2.out _).mono ?_; rintro e w45 ⟨rfl, hb45⟩; have s45 : Hid (Own w No w45 (Asn.blk g 45 #[.int .i64 ak, .int .i64 ad, .int .i64 ap, .int .i64 an, .slice A1 pg.length m1, .int .i64 uk, .int .i64 ut, .string kb, .string vb, .slice A2 op.length m2, .slice (some ⟨b, ob, none⟩) dt.length m3])) := rb_own hb45 (by assumption); have t45 := And.intro (EL.out _ s45.out).1 (And.intro (EL.out _ s45.out).2 (rb_of s45.out))))
              rw [EE.out]
              have X2 := s45
              clear c0 c1 c2 c3 c4 c5 c6 c7 c8 c9 c10 EE K0 SD EL q1 q2 X M1 M2 s44 t44 hb44 s45 t45 hb45
              go_wp2_with fail
              go_round
              case rel => exact ⟨k + 1, by omega, by go_num, by rw [HQ.out], X2⟩
              case measure => simp [intOf]; omega
            · have hke : k = dt.length := by omega
              rw [hke, List.take_length]
              clear hke hlt hk
              obtain ⟨B, hB⟩ : ∃ B, B = P3 ++ dt.flatMap bDty := ⟨_, rfl⟩
              have hBl : B.length ≤ 100000 := by rw [hB, List.length_append, flat_len bDty 6 dt (fun x _ => bDty_len x)]; omega
              rw [← hB]
              have hbody : B = body ⟨ak, ad, ap, an, pg, ⟨uk, ut, ky, vl⟩, op, dt⟩ := by
                rw [hB, HP3.out, HP2.out, HP1.out, HP0.out]
                simp only [body, bUnd, bText, List.append_assoc]
              have N11 := Lib.hid (fun w => numN4 (ofL B).size w (by rw [ofL_sz]; omega))
              have E4 : Hid (ofL (numL 4 (ofL B).size) ++ ofL B = ofL (numL 4 B.length ++ B)) := Lib.hid (by rw [ofL_cat2, ofL_sz])
              have v1 : (ofL (numL 4 (ofL B).size)).size = 4 := by rw [ofL_sz, numL_length]
              have v2 : (ofL B).size ≤ 100000 := hBl
              have v3 : (ofL (numL 4 B.length ++ B)).size ≤ 100004 := by rw [ofL_sz, List.length_append, numL_length]; omega
              have NS := Lib.hid (fun w => refSum_any (ofL (numL 4 B.length ++ B)) w (by unfold maxLen; omega))
              have NT := Lib.hid (fun w => refTail_any (crc (ofL (numL 4 B.length ++ B)).data.toList) w)
              have E5 : Hid (ofL (numL 4 B.length ++ B) ++ tailS (crc (ofL (numL 4 B.length ++ B)).data.toList) = Z) := Lib.hid (by rw [HZ.out, hbody]; rfl)
              have v4 : (tailS (crc (ofL (numL 4 B.length ++ B)).data.toList)).size = 4 := rfl
              clear hB hbody
              generalize tailS (crc (ofL (numL 4 B.length ++ B)).data.toList) = tl at *
              generalize crc (ofL (numL 4 B.length ++ B)).data.toList = cc at *
              generalize ofL (numL 4 B.length ++ B) = hh at *
              generalize ofL (numL 4 (ofL B).size) = x at *
              generalize ofL B = y at *
              have q1 : ¬ 9223372036854775807 < x.size + y.size := by omega
              have q2 : ¬ 9223372036854775807 < hh.size + tl.size := by omega
              clear v1 v2 v3 v4
              go_wp2_with fail
              refine (N11.out _).mono ?_
              rintro e we ⟨rfl, hX⟩
              have S3 := Lib.hid (X.out.below hX)
              clear hX X N11
              go_upto_region 18 with fail
              rw [E4.out]
              go_wp2_with fail
              refine (NS.out _).mono ?_
              rintro e wf ⟨rfl, hX⟩
              have S4 := Lib.hid (S3.out.below hX)
              clear hX S3 NS
              go_wp2_with fail
              refine (NT.out _).mono ?_
              rintro e wg ⟨rfl, hX⟩
              have S5 := Lib.hid (S4.out.below hX)
              clear hX S4 NT
              go_wp2_with fail
              go_returns
              exact ⟨ret_str E5.out, S5.out.bel⟩
end Go.Proofs.YtaacinhmgmmcaaaDoor.Nt
