/- NodeTurned, walked. -/
import Derived.Test.YtmibcodobicmnaaDoorNdK
namespace Go.Proofs.YtmibcodobicmnaaDoor.Nd
open Go.ChangeShapes Go.WideShapes Go.ChangeAt Go.RowKit Go.PlainAid Aid Cr Nt
set_option linter.unusedVariables false
set_option linter.unusedSimpArgs false
/-- Bytes that can be written, owned. -/
def aByt (g : Nat) (l : By) : Asn :=
  ⟨fun w O => Bytes w g l ∧ ∀ k, O k ↔ k = g, fun w O h k hk => by rw [(h.2 k).1 hk]; exact h.1.1, fun w w' O S h hc hS =>
    ⟨⟨Nat.lt_of_lt_of_le h.1.1 hc.size, fun i x hx => by rw [hc.cell h.1.1 (hS g ((h.2 g).2 rfl))]; exact h.1.2.1 i x hx, fun i hi => by rw [hc.frozen h.1.1 (hS g ((h.2 g).2 rfl))]; exact h.1.2.2 i hi⟩, h.2⟩⟩
section
variable {w0 w w' : World} {O0 : Nat → Prop} {A : Asn} {g : Nat} {l : By}
theorem byt_new (h : Own w0 O0 w A) (hb : Below w.heap.size w w') (hB : Bytes w' w.heap.size l) : Own w0 O0 w' (aByt w.heap.size l * A) := by
  refine h.then fun O hO => ?_
  have h2 : Own w (fun _ => False) w' (aByt w.heap.size l) := ⟨⟨(· = w.heap.size), ⟨hB, fun _ => Iff.rfl⟩, fun k hk => Or.inr (by rw [hk]; exact Nat.le_refl _)⟩, Chg.of_below hb⟩
  exact h2.frame hO (fun _ h => h.elim) (fun k => by simp)
theorem byt_of (h : Own w0 O0 w (aByt g l * A)) : Bytes w g l := by
  obtain ⟨O, ⟨X, Y, hV, -⟩, -⟩ := h.ex
  exact hV.1
theorem byt_set (h : Own w0 O0 w (aByt g l * A)) (i : Nat) (hi : i < l.length) (y : UInt8) : Own w0 O0 (w.setCell ⟨g, i, none⟩ (.int .u8 y.toNat)) (aByt g (l.set i y) * A) :=
  h.set (Sets.l (fun w O h => ⟨⟨h.1.set i hi y, h.2⟩, (h.2 g).2 rfl⟩))
end
theorem turned_none (n : Nod) (h : fitsB n = true) (K : Nat) (m : BitVec 32) (hK2 : K + 4 ≤ 256) (hm : m ≠ 0#32) : readN (turnL (bytes n) K m 4) = none := by
  refine unsealed_none _ ?_
  have e : bytes n = (sealS (ofL (page n))).data.toList := by rw [sealS_ofL]; rfl
  have := told (ofL (page n)) K m (by show K ≤ (page n).length; rw [page_len h]; omega) hm
  rw [sealed_ofL, ← e] at this
  exact this
theorem rV_some (n : Nod) (v : Value) : rV (some n) v = .tuple #[v, .int .i64 0] := rfl
theorem rV_none (v : Value) : rV none v = .tuple #[v, .int .i64 3] := rfl
set_option maxRecDepth 100000 in
set_option maxHeartbeats 8000000 in
theorem turned_any (n : Nod) (v : Value) (at_ : Int) (m : BitVec 32) (w : World) (hv : NodAt w v n) (ht : Tab w) :
    Calls Tryd.prog 7 #[v, .int .i64 at_, .int .u32 m.toNat] w fun e w' => e = .returned (.bool true) ∧ Below w.heap.size w w' := by
  have HT := Lib.hid ht
  have HA := Lib.hid (fun w ht => awake_any w ht)
  have EG : Hid (∀ w', Below w.heap.size w w' → _) := Lib.hid (fun w' (hb : Below w.heap.size w w') => great_any n v w' (hv.keep hb))
  have E1 : Hid (∀ w', Below w.heap.size w w' → Tab w' → _) := Lib.hid (fun w' (hb : Below w.heap.size w w') ht => Bytes_any n v w' (hv.keep hb) ht)
  have HV := Lib.hid hv
  obtain ⟨p, rfl, hp⟩ := hv
  obtain ⟨A1, m1, rfl⟩ := hp.slice
  have S := Lib.hid ((Own.none w).alloc (nodCells n (.slice A1 n.list.length m1)) 64).left
  have HE := Lib.hid (show bytesV n = if fitsB n then .tuple #[.string (ofL (bytes n)), .int .i64 0] else if goodB n then .tuple #[.string ⟨#[]⟩, .int .i64 5] else .tuple #[.string ⟨#[]⟩, .int .i64 1] from rfl)
  generalize bytesV n = bv at *
  unfold nodCells at *
  clear ht hp
  go_enter Tryd.func7, Tryd.ntmps7
  go_wp2_with fail
  obtain ⟨g0, hgz⟩ : ∃ g, g = w.heap.size := ⟨_, rfl⟩
  rw [← hgz] at S ⊢
  clear hgz
  generalize w.alloc _ = w1 at *
  refine (HA.out _ (Tab.own HT.out S.out)).mono ?_
  rintro e w2 ⟨rfl, hX⟩
  have S1 := Lib.hid (S.out.below hX)
  clear hX S
  obtain ⟨⟨c0, c1, c2, c3, c4, c5, c6⟩, -⟩ := seven (S1.out.has (has_blk _ _ _))
  go_wp2_with fail
  refine (EG.out _ S1.out.bel).mono ?_
  rintro e w3 ⟨hE, hX⟩
  have S2 := Lib.hid (S1.out.below hX)
  clear hX S1 c0 c1 c2 c3 c4 c5 c6
  rcases hE with rfl | ⟨rfl, -⟩
  · go_wp2_with fail
    go_returns
    exact ⟨rfl, S2.out.bel⟩
  obtain ⟨⟨c0, c1, c2, c3, c4, c5, c6⟩, -⟩ := seven (S2.out.has (has_blk _ _ _))
  go_wp2_with fail
  refine (E1.out _ S2.out.bel (Tab.own HT.out S2.out)).mono ?_
  rintro e w4 ⟨rfl, hX⟩
  have S3 := Lib.hid (S2.out.below hX)
  clear hX S2 c0 c1 c2 c3 c4 c5 c6
  have he := HE.out
  cases hf : fitsB n with
  | false =>
    rw [hf, if_neg (by decide)] at he
    have hb : ∃ i : Int, bv = .tuple #[.string ⟨#[]⟩, .int .i64 i] ∧ ((i == 0) = false) := by
      rw [he]; cases goodB n
      · exact ⟨1, rfl, rfl⟩
      · exact ⟨5, rfl, rfl⟩
    clear he hf
    obtain ⟨i, rfl, hi⟩ := hb
    have hi2 : ¬ i = 0 := by simpa using hi
    go_wp2_with fail
    go_returns
    exact ⟨rfl, S3.out.bel⟩
  | true =>
  rw [hf, if_pos rfl] at he
  subst he
  have hlen := bytes_fits hf
  have hLs : (ofL (bytes n)).size = 256 := hlen
  obtain ⟨K, hK, hk⟩ := mod_u at_ 253 (by omega) (by omega)
  have HRB := Lib.hid (fun (hm : m ≠ 0#32) => turned_none n hf K m (by omega) hm)
  have HRW := Lib.hid (read_bytes n hf)
  have HL := Lib.hid hlen
  generalize hx : ofL (bytes n) = x at *
  have HX := Lib.hid hx
  clear hx hf hlen
  have S4 := S3
  clear S3
  obtain ⟨cap, w8, hcv, hb8, hby⟩ := to_bytes (P := Tryd.prog) Tryd.underlying9 Tryd.underlying82 Tryd.underlying5 w4 x
  have S7 := byt_new S4.out hb8 hby
  obtain ⟨gb, hgb⟩ : ∃ g, g = w4.heap.size := ⟨_, rfl⟩
  rw [← hgb] at S7 hcv
  have S8 := Lib.hid S7
  have hxl : x.data.toList = bytes n := by rw [← HX.out]; rfl
  rw [hxl] at S8
  clear S4 S7 hb8 hby hgb hxl
  have hKL : K + 4 ≤ 256 := by omega
  go_wp2_with fail
  rw [hK]
  clear hK hk
  go_loopw [11] (fun i wr => ∃ j : Nat, j ≤ 4 ∧ i = .int .i64 j ∧ Hid (Own w No wr (aByt gb (turnL (bytes n) K m j) * Asn.blk g0 64 #[.int .i64 n.tree, .int .i64 n.level, .int .i64 n.stamp, .bool n.has, .string (ofL n.high), .int .i64 n.right, .slice A1 n.list.length m1]))) (fun i _ => 4 - (intOf i).toNat)
  case atStart => exact ⟨0, by omega, rfl, S8⟩
  case round =>
    clear S8 hcv
    obtain ⟨j, hj, rfl, X⟩ := hrel
    by_cases hlt : j < 4
    · have hl : K + j < (turnL (bytes n) K m j).length := by rw [turnL_length, HL.out]; omega
      have hx := List.getElem?_eq_getElem hl
      have hst : turnL (bytes n) K m (j + 1) = (turnL (bytes n) K m j).set (K + j) ((turnL (bytes n) K m j)[K + j] ^^^ Cr.byteOf m j) := by
        rw [turnL, List.getD, hx]; rfl
      generalize (turnL (bytes n) K m j)[K + j] = xx at *
      have hY := byt_of X.out
      have hcell := hY.2.1 _ _ hx
      have hfr := hY.2.2 _ hl
      have hbx := bx8 xx (Cr.byteOf m j)
      have hsh := ns m (8 * j)
      have hbo : IntKind.u8.wrap ((m >>> (8 * j)).toNat : Int) = ((Cr.byteOf m j).toNat : Int) := by
        rw [IntKind.wrap_u8]; unfold Cr.byteOf; rw [UInt8.toNat_ofNat']; omega
      generalize Cr.byteOf m j = y at *
      have HST := Lib.hid hst
      have X2 := Lib.hid (byt_set (X.out.drew) (K + j) hl (xx ^^^ y))
      have HLL := Lib.hid hl
      clear hx hst hl hY
      generalize xx ^^^ y = z at *
      generalize m >>> (8 * j) = m8 at *
      have k0 : (0 : Int) ≤ (K : Int) + (j : Int) := by omega
      have k1 : (K : Int) + (j : Int) < 256 := by omega
      have k2 : ((K : Int) + (j : Int)).toNat = K + j := by omega
      have k3 : IntKind.i64.wrap ((K : Int) + (j : Int)) = (K : Int) + (j : Int) := by rw [IntKind.wrap_i64]; omega
      have k4 : IntKind.i64.wrap (8 * (j : Int)) = 8 * (j : Int) := by rw [IntKind.wrap_i64]; omega
      have k5 : (0 : Int) ≤ 8 * (j : Int) := by omega
      have k6 : (8 * (j : Int)).toNat = 8 * j := by omega
      go_wp2_with fail
      refine wp_region_still_tail 17 (by kernel_rfl) (by kernel_rfl) ?_
      simp only [List.take_succ_cons, List.take_zero, List.drop_succ_cons, List.drop_zero]
      change wpStill _ _ wr.drew _ _ _
      repeat still_step
      refine wpStill_nil ?_
      change wpList _ _ _ _ _ wr.drew
      go_wp2_with fail
      have X3 : Hid (Own w No (wr.drew.setCell ⟨gb, K + j, none⟩ (.int .u8 (z.toNat : Int))) (aByt gb (turnL (bytes n) K m (j + 1)) * Asn.blk g0 64 #[.int .i64 n.tree, .int .i64 n.level, .int .i64 n.stamp, .bool n.has, .string (ofL n.high), .int .i64 n.right, .slice A1 n.list.length m1])) := by
        rw [HST.out]; exact X2
      go_roundw
      case rel => exact ⟨j + 1, by omega, by go_num, X3⟩
      case measure => simp [intOf]; omega
    · obtain rfl : j = 4 := by omega
      have hlen : (turnL (bytes n) K m 4).length = 256 := by rw [turnL_length, HL.out]
      have HC := Lib.hid ((byt_of X.out).conv (P := Tryd.prog) (src := 82) (dst := 9) Tryd.underlying82 Tryd.underlying5 Tryd.underlying9 cap 256 hlen)
      have E4 := Lib.hid (fun w' ht => Read_own (turnL (bytes n) K m 4) w' ht)
      by_cases hm : m = 0#32
      · have hno : turnL (bytes n) K m 4 = bytes n := by rw [hm, turn_none _ _ (by rw [HL.out]; omega)]
        rw [hno, HRW.out] at E4
        rw [hno] at HC X
        rw [HX.out] at HC E4
        have hcv2 := HC.out
        have hm0 : ((m.toNat : Int) == 0) = true := by rw [hm]; rfl
        clear hno hm hlen HC
        generalize (m.toNat : Int) = mm at *
        go_wp2_with fail
        refine (E4.out _ (Tab.own HT.out X.out)).mono ?_
        rintro e w9 ⟨v1, rfl, ho⟩
        obtain ⟨C1, q1, rfl⟩ := ho.addEmp.vec.slice
        have HV1 := ents_at ho
        have S9 := X.out.below ho.bel
        have S10 := Lib.hid (S9.alloc (nodCells n (.slice C1 n.list.length q1)) 64)
        have hb9 : Below w9.heap.size w9 (w9.alloc (.cells (nodCells n (.slice C1 n.list.length q1)) 64)) := blA (Below.refl _ _) _
        have HV2 : Hid (NodAt (w9.alloc (.cells (nodCells n (.slice C1 n.list.length q1)) 64)) (.agg (nodCells n (.slice C1 n.list.length q1))) n) := Lib.hid (HV1.keep hb9)
        clear ho X S9 E4 HV1 hb9
        rw [rV_some]
        unfold rN at *
        dsimp only at *
        unfold nodCells at *
        go_upto_region 15 with fail
        obtain ⟨gz, hgz⟩ : ∃ g, g = w9.heap.size := ⟨_, rfl⟩
        rw [← hgz] at S10 ⊢
        clear hgz
        generalize w9.alloc _ = w10 at *
        obtain ⟨⟨c0, c1, c2, c3, c4, c5, c6⟩, -⟩ := seven (S10.out.has (Has.r (Has.r (has_blk _ _ _))))
        obtain ⟨⟨d0, d1, d2, d3, d4, d5, d6⟩, -⟩ := seven (S10.out.has (Has.l (has_blk _ _ _)))
        have ES := Lib.hid (refSame_any n n _ _ w10 HV2.out (HV.out.keep S10.out.bel))
        rw [decide_eq_true rfl] at ES
        go_wp2_with fail
        refine ES.out.mono ?_
        rintro e w11 ⟨rfl, hX⟩
        have S11 := Lib.hid (S10.out.below hX)
        clear hX S10
        go_wp2_with fail
        go_returns
        exact ⟨rfl, S11.out.bel⟩
      · rw [HRB.out hm] at E4
        have hcv2 := HC.out
        have hm0 : ((m.toNat : Int) == 0) = false := beq_eq_false_iff_ne.2 (fun e => hm (BitVec.eq_of_toNat_eq (by simpa using e)))
        clear hlen HC
        generalize ofL (turnL (bytes n) K m 4) = tt at *
        generalize (m.toNat : Int) = mm at *
        go_wp2_with fail
        refine (E4.out _ (Tab.own HT.out X.out)).mono ?_
        rintro e w9 ⟨v1, rfl, ho⟩
        obtain ⟨C1, q1, rfl⟩ := ho.addEmp.vec.slice
        have S10 := Lib.hid ((X.out.below ho.bel).alloc (nodCells Nod.none (.slice C1 Nod.none.list.length q1)) 64)
        clear ho X E4
        rw [rV_none]
        unfold rN at *
        dsimp only at *
        unfold nodCells at *
        go_wp2_with fail
        go_returns
        exact ⟨rfl, S10.out.bel⟩
end Go.Proofs.YtmibcodobicmnaaDoor.Nd
