/- NoteTorn, walked. -/
import Derived.Test.YtghbipojnniaoaaDoorNtK
import Derived.Test.YtghbipojnniaoaaDoorNtH
namespace Go.Proofs.YtghbipojnniaoaaDoor.Nt
open Go.ChangeShapes Go.WideShapes Go.ChangeAt Go.RowKit Go.PlainAid Aid Cr
set_option linter.unusedVariables false
set_option linter.unusedSimpArgs false
/-- Bytes that can be written, owned. -/
def aByt (g : Nat) (l : By) : Asn :=
  ⟨fun w O => Bytes w g l ∧ ∀ k, O k ↔ k = g, fun w O h k hk => by rw [(h.2 k).1 hk]; exact h.1.1, fun w w' O S h hc hS =>
    ⟨⟨Nat.lt_of_lt_of_le h.1.1 hc.size, fun i x hx => by rw [hc.cell h.1.1 (hS g ((h.2 g).2 rfl))]; exact h.1.2.1 i x hx, fun i hi => by rw [hc.frozen h.1.1 (hS g ((h.2 g).2 rfl))]; exact h.1.2.2 i hi⟩, h.2⟩⟩
section
variable {w0 w w' : World} {O0 : Nat → Prop} {A : Asn} {g : Nat} {l : By}
theorem byt_new (h : Own w0 O0 w A) (hb : Below w.heap.size w w') (hB : Bytes w' w.heap.size l) : Own w0 O0 w' (aByt w.heap.size l * A) := by
  refine h.then fun O hO => ?_
  have h2 : Own w (fun _ => False) w' (aByt w.heap.size l) := ⟨⟨(· = w.heap.size), ⟨hB, fun _ => Iff.rfl⟩, fun k hk => Or.inr (by rw [hk]; exact Nat.le_refl _)⟩, Chg.of_below hb⟩
  exact h2.frame hO (fun _ h => h.elim) (fun k => by simp)
theorem byt_of (h : Own w0 O0 w (aByt g l * A)) : Bytes w g l := by
  obtain ⟨O, ⟨X, Y, hV, -⟩, -⟩ := h.ex
  exact hV.1
theorem byt_set (h : Own w0 O0 w (aByt g l * A)) (i : Nat) (hi : i < l.length) (y : UInt8) : Own w0 O0 (w.setCell ⟨g, i, none⟩ (.int .u8 y.toNat)) (aByt g (l.set i y) * A) :=
  h.set (Sets.l (fun w O h => ⟨⟨h.1.set i hi y, h.2⟩, (h.2 g).2 rfl⟩))
end
theorem turnL_take (l : By) (K : Nat) (m : BitVec 32) (h : 4 ≤ K) (j : Nat) : (turnL l K m j).take 4 = l.take 4 := by
  induction j with
  | zero => rfl
  | succ j ih => rw [turnL, List.take_set, ih, List.set_eq_of_length_le (by rw [List.length_take]; omega)]
theorem turned_none (r : Rec) (h : goodB r = true) (K : Nat) (m : BitVec 32) (hK : 4 ≤ K) (hK2 : K + 4 ≤ (bytes r).length) (hm : m ≠ 0#32) : readR (turnL (bytes r) K m 4) = none := by
  have e : bytes r = (sealS (ofL (headed r))).data.toList := by rw [sealL]; rfl
  refine unsealed_none r h _ (turnL_length _ _ _ _) (turnL_take _ _ _ hK _) ?_
  have hl : (bytes r).length = (headed r).length + 4 := by rw [bytes_len, headed_len]; omega
  have := told (ofL (headed r)) K m (by rw [ofL_sz]; omega) hm
  rw [sealed_ofL, ← e] at this
  exact this
set_option maxRecDepth 100000 in
set_option maxHeartbeats 8000000 in
theorem torn_any (r : Rec) (v : Value) (cut at_ : Int) (m : BitVec 32) (w : World) (hv : RecAt w v r) (ht : Tab w) :
    Calls Tryd.prog 5 #[v, .int .i64 cut, .int .i64 at_, .int .u32 m.toNat] w fun e w' => e = .returned (.bool true) ∧ Below w.heap.size w w' := by
  have HT := Lib.hid ht
  have HA := Lib.hid (fun w ht => awake_any w ht)
  have EG : Hid (∀ w', Below w.heap.size w w' → _) := Lib.hid (fun w' (hb : Below w.heap.size w w') => great_any r v w' (hv.keep hb))
  have E1 : Hid (∀ w', Below w.heap.size w w' → _) := Lib.hid (fun w' (hb : Below w.heap.size w w') => Good_any r v w' (hv.keep hb))
  have HV := Lib.hid hv
  obtain ⟨p, o, d, rfl, -⟩ := hv
  have S := Lib.hid ((Own.none w).alloc (recCells r p o d) 28).left
  unfold recCells at *
  clear ht
  go_enter Tryd.func5, Tryd.ntmps5
  go_wp2_with fail
  obtain ⟨g0, hgz⟩ : ∃ g, g = w.heap.size := ⟨_, rfl⟩
  rw [← hgz] at S ⊢
  clear hgz
  generalize w.alloc _ = w1 at *
  refine (HA.out _ (Tab.own HT.out S.out)).mono ?_
  rintro e w2 ⟨rfl, hX⟩
  have S1 := Lib.hid (S.out.below hX)
  clear hX S
  obtain ⟨⟨c0, c1, c2, c3, c4, c5, c6, c7, c8, c9, c10⟩, -⟩ := eleven (S1.out.has (has_blk _ _ _))
  go_wp2_with fail
  refine (EG.out _ S1.out.bel).mono ?_
  rintro e w3 ⟨⟨b, rfl⟩, hX⟩
  have S2 := Lib.hid (S1.out.below hX)
  clear hX S1 c0 c1 c2 c3 c4 c5 c6 c7 c8 c9 c10
  cases b with
  | true =>
    go_wp2_with fail
    go_returns
    exact ⟨rfl, S2.out.bel⟩
  | false =>
  obtain ⟨⟨c0, c1, c2, c3, c4, c5, c6, c7, c8, c9, c10⟩, -⟩ := eleven (S2.out.has (has_blk _ _ _))
  go_wp2_with fail
  refine (E1.out _ S2.out.bel).mono ?_
  rintro e w4 ⟨rfl, hX⟩
  have S3 := Lib.hid (S2.out.below hX)
  clear hX S2 c0 c1 c2 c3 c4 c5 c6 c7 c8 c9 c10
  cases hg : goodB r with
  | false =>
    go_wp2_with fail
    go_returns
    exact ⟨rfl, S3.out.bel⟩
  | true =>
  have g := goods hg
  have hlen := bytes_len r
  have hsz := size_small g
  have hbs := body_size r g.pg
  have hge : 29 ≤ sizeR r := by unfold sizeR; omega
  have E2 : Hid (∀ w', Below w.heap.size w w' → Tab w' → _) := Lib.hid (fun w' (hb : Below w.heap.size w w') (ht : Tab w') => Bytes_good r _ w' (HV.out.keep hb) hg ht)
  obtain ⟨L, hL⟩ : ∃ L, L = (bytes r).length := ⟨_, rfl⟩
  have l1 : 29 ≤ L := by omega
  have l2 : L ≤ 4271 := by omega
  have hLs : (ofL (bytes r)).size = L := by rw [ofL_sz, hL]
  obtain ⟨K1, hK1, hk1⟩ := mod_u cut L (by omega) (by omega)
  obtain ⟨K2, hK2, hk2⟩ := mod_u at_ ((L : Int) - 7) (by omega) (by omega)
  have hs1 := slice_to (P := Tryd.prog) Tryd.underlying9 (ofL (bytes r)) K1 K1 rfl (by omega)
  rw [ofL_take] at hs1
  have E3 := Lib.hid (fun w' ht => Read_any ((bytes r).take K1) w' (by rw [List.length_take]; omega) ht)
  rw [cut_none r hg K1 (by omega)] at E3
  have HRB := Lib.hid (fun K hK hK2 (hm : m ≠ 0#32) => turned_none r hg K m hK hK2 hm)
  have HRW := read_bytes r hg []
  rw [List.append_nil] at HRW
  have HRW := Lib.hid HRW
  have HL := Lib.hid hL
  have HGG := Lib.hid hg
  clear g hlen hsz hbs hge hg
  obtain ⟨⟨c0, c1, c2, c3, c4, c5, c6, c7, c8, c9, c10⟩, -⟩ := eleven (S3.out.has (has_blk _ _ _))
  go_wp2_with fail
  refine (E2.out _ S3.out.bel (Tab.own HT.out S3.out)).mono ?_
  rintro e w5 ⟨rfl, hX⟩
  have S4 := Lib.hid (S3.out.below hX)
  clear hX S3 c0 c1 c2 c3 c4 c5 c6 c7 c8 c9 c10
  generalize hx : ofL (bytes r) = x at *
  have HX := Lib.hid hx
  clear hx
  generalize ofL ((bytes r).take K1) = x1 at *
  clear hL
  go_wp2_with fail
  refine (E3.out _ (Tab.own HT.out S4.out)).mono ?_
  rintro e w6 ⟨⟨v1, rfl, hv1⟩, hX⟩
  have S5 := Lib.hid (S4.out.below hX)
  obtain ⟨B1, n1, B2, n2, B3, n3, rfl⟩ := hv1.form
  have S6 := Lib.hid (S5.out.alloc (recCells Rec.none (.slice B1 Rec.none.pages.length n1) (.slice B2 Rec.none.opn.length n2) (.slice B3 Rec.none.dty.length n3)) 28).right
  clear hX hv1 S4 S5 E3
  rw [rV_none]
  unfold rR at *
  dsimp only at *
  unfold recCells at *
  go_upto_region 10 with fail
  generalize w6.alloc _ = w7 at *
  obtain ⟨cap, w8, hcv, hb8, hby⟩ := to_bytes (P := Tryd.prog) Tryd.underlying9 Tryd.underlying45 Tryd.underlying5 w7 x
  have S7 := byt_new S6.out hb8 hby
  obtain ⟨gb, hgb⟩ : ∃ g, g = w7.heap.size := ⟨_, rfl⟩
  rw [← hgb] at S7 hcv
  have S8 := Lib.hid S7
  have hxl : x.data.toList = bytes r := by rw [← HX.out]; rfl
  rw [hxl] at S8
  clear S6 S7 hb8 hby hgb hxl
  have hKL : 4 + K2 + 4 ≤ L := by omega
  clear hK1 hk1 hK2 hk2 hs1
  go_wp2_with fail
  go_loopw [16] (fun i wr => ∃ j : Nat, j ≤ 4 ∧ i = .int .i64 j ∧ Hid (Own w No wr (aByt gb (turnL (bytes r) (4 + K2) m j) * Asn.blk g0 28 #[.int .i64 r.kind, .int .i64 r.deal, .int .i64 r.prev, .int .i64 r.next, p, .int .i64 r.und.kind, .int .i64 r.und.tree, .string (ofL r.und.key), .string (ofL r.und.val), o, d]))) (fun i _ => 4 - (intOf i).toNat)
  case atStart => exact ⟨0, by omega, rfl, S8⟩
  case round =>
    clear S8 hcv
    obtain ⟨j, hj, rfl, X⟩ := hrel
    by_cases hlt : j < 4
    · have hl : 4 + K2 + j < (turnL (bytes r) (4 + K2) m j).length := by rw [turnL_length, ← HL.out]; omega
      have hx := List.getElem?_eq_getElem hl
      have hst : turnL (bytes r) (4 + K2) m (j + 1) = (turnL (bytes r) (4 + K2) m j).set (4 + K2 + j) ((turnL (bytes r) (4 + K2) m j)[4 + K2 + j] ^^^ Cr.byteOf m j) := by
        rw [turnL, List.getD, hx]; rfl
      generalize (turnL (bytes r) (4 + K2) m j)[4 + K2 + j] = xx at *
      have hY := byt_of X.out
      have hcell := hY.2.1 _ _ hx
      have hfr := hY.2.2 _ hl
      have hbx := bx8 xx (Cr.byteOf m j)
      have hsh := ns m (8 * j)
      have hbo : IntKind.u8.wrap ((m >>> (8 * j)).toNat : Int) = ((Cr.byteOf m j).toNat : Int) := by
        rw [IntKind.wrap_u8]; unfold Cr.byteOf; rw [UInt8.toNat_ofNat']; omega
      generalize Cr.byteOf m j = y at *
      have HST := Lib.hid hst
      have X2 := Lib.hid (byt_set (X.out.drew) (4 + K2 + j) hl (xx ^^^ y))
      have HLL := Lib.hid hl
      clear hx hst hl hY
      generalize xx ^^^ y = z at *
      generalize m >>> (8 * j) = m8 at *
      have k0 : (0 : Int) ≤ 4 + (K2 : Int) + (j : Int) := by omega
      have k1 : 4 + (K2 : Int) + (j : Int) < (L : Int) := by omega
      have k2 : (4 + (K2 : Int) + (j : Int)).toNat = 4 + K2 + j := by omega
      have k3 : IntKind.i64.wrap (4 + (K2 : Int) + (j : Int)) = 4 + (K2 : Int) + (j : Int) := by rw [IntKind.wrap_i64]; omega
      have k4 : IntKind.i64.wrap (8 * (j : Int)) = 8 * (j : Int) := by rw [IntKind.wrap_i64]; omega
      have k5 : (0 : Int) ≤ 8 * (j : Int) := by omega
      have k6 : (8 * (j : Int)).toNat = 8 * j := by omega
      go_wp2_with fail
      refine wp_region_still_tail 17 (by kernel_rfl) (by kernel_rfl) ?_
      simp only [List.take_succ_cons, List.take_zero, List.drop_succ_cons, List.drop_zero]
      change wpStill _ _ wr.drew _ _ _
      repeat still_step
      refine wpStill_nil ?_
      change wpList _ _ _ _ _ wr.drew
      go_wp2_with fail
      have X3 : Hid (Own w No (wr.drew.setCell ⟨gb, 4 + K2 + j, none⟩ (.int .u8 (z.toNat : Int))) (aByt gb (turnL (bytes r) (4 + K2) m (j + 1)) * Asn.blk g0 28 #[.int .i64 r.kind, .int .i64 r.deal, .int .i64 r.prev, .int .i64 r.next, p, .int .i64 r.und.kind, .int .i64 r.und.tree, .string (ofL r.und.key), .string (ofL r.und.val), o, d])) := by
        rw [HST.out]; exact X2
      go_roundw
      case rel => exact ⟨j + 1, by omega, by go_num, X3⟩
      case measure => simp [intOf]; omega
    · obtain rfl : j = 4 := by omega
      have hlen : (turnL (bytes r) (4 + K2) m 4).length = L := by rw [turnL_length, HL.out]
      have HC := Lib.hid ((byt_of X.out).conv (P := Tryd.prog) (src := 45) (dst := 9) Tryd.underlying45 Tryd.underlying5 Tryd.underlying9 cap L hlen)
      have E4 := Lib.hid (fun w' ht => Read_any (turnL (bytes r) (4 + K2) m 4) w' (by rw [hlen]; omega) ht)
      by_cases hm : m = 0#32
      · have hno : turnL (bytes r) (4 + K2) m 4 = bytes r := by rw [hm, turn_none _ _ (by rw [← HL.out]; omega)]
        rw [hno, HRW.out, ← HL.out] at E4
        rw [hno] at HC X
        rw [HX.out] at HC E4
        have hcv2 := HC.out
        have hm0 : ((m.toNat : Int) == 0) = true := by rw [hm]; rfl
        clear hno hm hlen HC
        generalize (m.toNat : Int) = mm at *
        go_wp2_with fail
        refine (E4.out _ (Tab.own HT.out X.out)).mono ?_
        rintro e w9 ⟨⟨v1, rfl, hv1⟩, hX⟩
        have S9 := Lib.hid (X.out.below hX)
        have HV1 := Lib.hid hv1
        obtain ⟨C1, q1, C2, q2, C3, q3, rfl⟩ := hv1.form
        have S10 := Lib.hid (S9.out.alloc (recCells r (.slice C1 r.pages.length q1) (.slice C2 r.opn.length q2) (.slice C3 r.dty.length q3)) 28)
        have hb9 : Below w9.heap.size w9 (w9.alloc (.cells (recCells r (.slice C1 r.pages.length q1) (.slice C2 r.opn.length q2) (.slice C3 r.dty.length q3)) 28)) := blA (Below.refl _ _) _
        have HV2 := Lib.hid (HV1.out.keep hb9)
        clear hX hv1 X S9 E4 HV1 hb9
        rw [rV_some]
        unfold rR at *
        dsimp only at *
        unfold recCells at *
        go_upto_region 16 with fail
        obtain ⟨gz, hgz⟩ : ∃ g, g = w9.heap.size := ⟨_, rfl⟩
        rw [← hgz] at S10 ⊢
        clear hgz
        generalize w9.alloc _ = w10 at *
        obtain ⟨⟨c0, c1, c2, c3, c4, c5, c6, c7, c8, c9, c10⟩, -⟩ := eleven (S10.out.has (Has.r (Has.r (has_blk _ _ _))))
        obtain ⟨⟨d0, d1, d2, d3, d4, d5, d6, d7, d8, d9, d10⟩, -⟩ := eleven (S10.out.has (Has.l (has_blk _ _ _)))
        have ES := Lib.hid (Same_any r r _ _ w10 HV2.out (HV.out.keep S10.out.bel))
        rw [decide_eq_true rfl] at ES
        go_wp2_with fail
        refine ES.out.mono ?_
        rintro e w11 ⟨rfl, hX⟩
        have S11 := Lib.hid (S10.out.below hX)
        clear hX S10
        go_wp2_with fail
        go_returns
        exact ⟨rfl, S11.out.bel⟩
      · rw [HRB.out (4 + K2) (by omega) (by rw [← HL.out]; omega) hm] at E4
        have hcv2 := HC.out
        have hm0 : ((m.toNat : Int) == 0) = false := beq_eq_false_iff_ne.2 (fun e => hm (BitVec.eq_of_toNat_eq (by simpa using e)))
        clear hlen HC
        generalize ofL (turnL (bytes r) (4 + K2) m 4) = tt at *
        generalize (m.toNat : Int) = mm at *
        go_wp2_with fail
        refine (E4.out _ (Tab.own HT.out X.out)).mono ?_
        rintro e w9 ⟨⟨v1, rfl, hv1⟩, hX⟩
        have S9 := Lib.hid (X.out.below hX)
        obtain ⟨C1, q1, C2, q2, C3, q3, rfl⟩ := hv1.form
        have S10 := Lib.hid (S9.out.alloc (recCells Rec.none (.slice C1 Rec.none.pages.length q1) (.slice C2 Rec.none.opn.length q2) (.slice C3 Rec.none.dty.length q3)) 28)
        clear hX hv1 X S9 E4
        rw [rV_none]
        unfold rR at *
        dsimp only at *
        unfold recCells at *
        go_wp2_with fail
        go_returns
        exact ⟨rfl, S10.out.bel⟩
end Go.Proofs.YtghbipojnniaoaaDoor.Nt
