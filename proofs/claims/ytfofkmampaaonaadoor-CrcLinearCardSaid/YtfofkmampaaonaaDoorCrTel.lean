import Derived.Test.YtfofkmampaaonaaDoorCrLin
namespace Go.Proofs.YtfofkmampaaonaaDoor.Cr
open Go.ChangeShapes Go.WideShapes Go.ChangeAt Go.RowKit Go.PlainAid Aid
set_option linter.unusedVariables false
set_option linter.unusedSimpArgs false

theorem bodyL (s : ByteArray) : (bodyS s).data.toList = s.data.toList.take (s.size - 4) := by unfold bodyS; rw [Lib.extract_data, List.drop_zero, Nat.sub_zero]
theorem endL (s : ByteArray) (h : 4 ≤ s.size) : (endS s).data.toList = s.data.toList.drop (s.size - 4) := by
  unfold endS; rw [Lib.extract_data, List.take_of_length_le]
  rw [List.length_drop, ← Lib.size_eq]; omega
theorem sealL (s : ByteArray) : (sealS s).data.toList = s.data.toList ++ tailL (crc s.data.toList) := by
  unfold sealS; rw [ByteArray.data_append, Array.toList_append]; rfl
theorem body_seal (s : ByteArray) : bodyS (sealS s) = s := by
  apply list_inj
  rw [bodyL, sealS_size, sealL, Nat.add_sub_cancel, List.take_append_of_le_length (by rw [← Lib.size_eq]; exact Nat.le_refl _), List.take_of_length_le (by rw [← Lib.size_eq]; exact Nat.le_refl _)]
theorem end_seal (s : ByteArray) : endS (sealS s) = tailS (crc s.data.toList) := by
  apply list_inj
  rw [endL _ (by rw [sealS_size]; omega), sealS_size, sealL, Nat.add_sub_cancel, List.drop_append_of_le_length (by rw [← Lib.size_eq]; exact Nat.le_refl _), List.drop_of_length_le (by rw [← Lib.size_eq]; exact Nat.le_refl _)]
  rfl
theorem open_seal (s : ByteArray) : openV (sealS s) = .tuple #[.string s, .bool true] := by
  unfold openV isSealed
  rw [body_seal, end_seal, decide_eq_true rfl, sealS_size, decide_eq_true (by omega)]
  rfl
/-- Where bytes are opened, their state is the one of all sealed bytes. -/
theorem sealed_st (t : ByteArray) (h : isSealed t = true) : st ones t.data.toList = advs 32 ones := by
  unfold isSealed at h
  rw [Bool.and_eq_true, decide_eq_true_eq, decide_eq_true_eq] at h
  have hb := bodyL t
  have he := endL t h.1
  rw [h.2] at he
  have : t.data.toList = (bodyS t).data.toList ++ tailL (crc (bodyS t).data.toList) := by
    rw [show tailL (crc (bodyS t).data.toList) = (tailS (crc (bodyS t).data.toList)).data.toList from rfl, he, hb, List.take_append_drop]
  rw [this, st_seal]

/-- Bytes of which the bits of a mask are turned, one after another. -/
def turnL (l : List UInt8) (K : Nat) (m : BitVec 32) : Nat → List UInt8
  | 0 => l
  | j + 1 => (turnL l K m j).set (K + j) ((turnL l K m j).getD (K + j) 0 ^^^ byteOf m j)
theorem turnL_length (l : List UInt8) (K : Nat) (m : BitVec 32) (j : Nat) : (turnL l K m j).length = l.length := by
  induction j with
  | zero => rfl
  | succ j ih => rw [turnL, List.length_set, ih]
theorem turnL_four (p q : List UInt8) (a0 a1 a2 a3 : UInt8) (m : BitVec 32) : turnL (p ++ [a0, a1, a2, a3] ++ q) p.length m 4 = p ++ List.zipWith (· ^^^ ·) [a0, a1, a2, a3] (tailL m) ++ q := by
  have g : ∀ (x : List UInt8) (j : Nat), (p ++ x).getD (p.length + j) 0 = x.getD j 0 := fun x j => by
    simp only [List.getD]; rw [List.getElem?_append_right (by omega)]; congr 2; omega
  have s : ∀ (x : List UInt8) (j : Nat) (u : UInt8), (p ++ x).set (p.length + j) u = p ++ x.set j u := fun x j u => by
    rw [List.set_append_right _ _ (by omega)]; congr 2; omega
  rw [List.append_assoc, List.append_assoc]
  simp only [turnL, g, s]
  rfl
theorem four (l : List UInt8) (K : Nat) (h : K + 4 ≤ l.length) : ∃ p q a0 a1 a2 a3, l = p ++ [a0, a1, a2, a3] ++ q ∧ p.length = K := by
  have hd : (l.drop K).length ≥ 4 := by rw [List.length_drop]; omega
  match hm : l.drop K, hd with
  | a0 :: a1 :: a2 :: a3 :: q, _ =>
    refine ⟨l.take K, q, a0, a1, a2, a3, ?_, by rw [List.length_take]; omega⟩
    conv => lhs; rw [← List.take_append_drop K l, hm]
    simp
/-- WHAT WAS TURNED ISN'T OPENED. -/
theorem told (s : ByteArray) (K : Nat) (m : BitVec 32) (hK : K ≤ s.size) (hm : m ≠ 0#32) : isSealed (ofL (turnL (sealS s).data.toList K m 4)) = false := by
  cases hq : isSealed (ofL (turnL (sealS s).data.toList K m 4)) with
  | false => rfl
  | true =>
    have h1 := sealed_st _ hq
    have h2 := st_seal s.data.toList
    rw [← sealL] at h2
    obtain ⟨p, q, a0, a1, a2, a3, hl, hp⟩ := four (sealS s).data.toList K (by rw [← Lib.size_eq, sealS_size]; omega)
    rw [ofL_list, hl, ← hp, turnL_four] at h1
    rw [hl] at h2
    exact absurd (turned_told p q [a0, a1, a2, a3] [] m _ (zip_turn _ _ _ m rfl rfl) (h1.trans h2.symm)) hm
theorem turn_none (l : List UInt8) (K : Nat) (h : K + 4 ≤ l.length) : turnL l K 0#32 4 = l := by
  obtain ⟨p, q, a0, a1, a2, a3, rfl, rfl⟩ := four l K h
  rw [turnL_four]
  have : tailL 0#32 = [0, 0, 0, 0] := by decide
  rw [this]
  simp

set_option maxHeartbeats 1000000 in
theorem tell_any (s : ByteArray) (at_ : Int) (m : BitVec 32) (w : World) (ht : Tab w) (h0 : -9223372036854775808 ≤ at_) (h1 : at_ ≤ 9223372036854775807) (h : s.size ≤ 512) :
    Calls Tryd.prog 4 #[.string s, .int .i64 at_, .int .u32 m.toNat] w fun e w' => e = .returned (.bool true) ∧ Below w.heap.size w w' := by
  have HT := Lib.hid ht
  clear ht
  have hd : decide ((512 : Int) < (s.size : Int)) = false := decide_eq_false (by omega)
  obtain ⟨q, hq⟩ : ∃ q : Int, (s.size : Int) + 4 - 3 = q := ⟨_, rfl⟩
  have q0 : 1 ≤ q := by omega
  have q1 : q ≤ 513 := by omega
  obtain ⟨K, hK, hKs⟩ : ∃ K : Nat, wrap64 ((IntKind.u64.wrap at_).tmod q) = (K : Int) ∧ K ≤ s.size := by
    have g0 : 0 ≤ IntKind.u64.wrap at_ := by rw [IntKind.wrap_u64]; omega
    have a1 := Int.tmod_nonneg q g0
    have a2 := Int.tmod_lt_of_pos (IntKind.u64.wrap at_) (show (0 : Int) < q by omega)
    refine ⟨((IntKind.u64.wrap at_).tmod q).toNat, ?_, ?_⟩
    · unfold wrap64
      omega
    · omega
  have H0 := Lib.hid (fun w ht => awake_any w ht)
  have H1 := Lib.hid (fun w ht => Seal_any s w (by omega) ht)
  have O := fun w ht => Open_any (sealS s) w (by rw [sealS_size]; omega) ht
  rw [open_seal] at O
  have H2 := Lib.hid O
  have hz := sealS_size s
  have hz1 : ((sealS s).size : Int) = (s.size : Int) + 4 := by omega
  have HZ := Lib.hid hz
  clear O hz
  generalize hT : sealS s = t at *
  have HTT := Lib.hid hT
  clear hT
  go_enter Tryd.func4, Tryd.ntmps4
  go_wp2_with fail
  refine (H0.out _ HT.out).mono ?_
  rintro e w1 ⟨rfl, hb1⟩
  have T1 := Lib.hid (HT.out.keep hb1)
  go_wp2_with fail
  refine (H1.out _ T1.out).mono ?_
  rintro e w2 ⟨rfl, hb2⟩
  have T2 := Lib.hid (T1.out.keep hb2)
  go_wp2_with fail
  refine (H2.out _ T2.out).mono ?_
  rintro e w3 ⟨rfl, hb3⟩
  have T3 := Lib.hid (T2.out.keep hb3)
  obtain ⟨cap, w4, hcv, hb4, hby⟩ := to_bytes (P := Tryd.prog) Tryd.underlying9 Tryd.underlying31 Tryd.underlying5 w3 t
  have B4 : Hid (Below w.heap.size w w4) := bl (bl (bl hb1 hb2) hb3) hb4
  have HY := Lib.hid hby
  have hg : w.heap.size ≤ w3.heap.size := (bl (bl hb1 hb2) hb3).size
  generalize w3.heap.size = g at *
  clear hb1 hb2 hb3 hb4 hby
  go_wp2_with fail
  clear hz1
  rw [hK]
  go_loopw [12] (fun i wr => ∃ j : Nat, j ≤ 4 ∧ i = .int .i64 j ∧ Hid (Bytes wr g (turnL t.data.toList K m j)) ∧ Hid (Below w.heap.size w wr)) (fun i _ => 4 - (intOf i).toNat)
  case atStart => exact ⟨0, by omega, rfl, HY, B4⟩
  case round =>
    obtain ⟨j, hj, rfl, hY, hB⟩ := hrel
    by_cases hlt : j < 4
    · have hl : K + j < (turnL t.data.toList K m j).length := by rw [turnL_length, ← Lib.size_eq, HZ.out]; omega
      have hx := List.getElem?_eq_getElem hl
      have hst : turnL t.data.toList K m (j + 1) = (turnL t.data.toList K m j).set (K + j) ((turnL t.data.toList K m j)[K + j] ^^^ byteOf m j) := by
        rw [turnL, List.getD, hx]; rfl
      generalize (turnL t.data.toList K m j)[K + j] = x at *
      have hcell := hY.out.2.1 _ _ hx
      have hfr := hY.out.2.2 _ hl
      have hbx := bx8 x (byteOf m j)
      have hsh := ns m (8 * j)
      have hbo : IntKind.u8.wrap ((m >>> (8 * j)).toNat : Int) = ((byteOf m j).toNat : Int) := by
        rw [IntKind.wrap_u8]; unfold byteOf; rw [UInt8.toNat_ofNat']; omega
      generalize byteOf m j = y at *
      have HST := Lib.hid hst
      have hY2 := Lib.hid (hY.out.set (K + j) hl (x ^^^ y))
      have HL := Lib.hid hl
      clear hx hst hl
      generalize x ^^^ y = z at *
      generalize m >>> (8 * j) = m8 at *
      have k0 : (0 : Int) ≤ (K : Int) + (j : Int) := by omega
      have k1 : (K : Int) + (j : Int) < (t.size : Int) := by have := HZ.out; omega
      have k2 : ((K : Int) + (j : Int)).toNat = K + j := by omega
      have k3 : IntKind.i64.wrap ((K : Int) + (j : Int)) = (K : Int) + (j : Int) := by rw [IntKind.wrap_i64]; omega
      have k4 : IntKind.i64.wrap (8 * (j : Int)) = 8 * (j : Int) := by rw [IntKind.wrap_i64]; omega
      have k5 : (0 : Int) ≤ 8 * (j : Int) := by omega
      have k6 : (8 * (j : Int)).toNat = 8 * j := by omega
      go_wp2_with fail
      refine wp_region_still_tail 17 (by kernel_rfl) (by kernel_rfl) ?_
      simp only [List.take_succ_cons, List.take_zero, List.drop_succ_cons, List.drop_zero]
      change wpStill _ _ wr.drew _ _ _
      repeat still_step
      refine wpStill_nil ?_
      change wpList _ _ _ _ _ wr.drew
      go_wp2_with fail
      have hlg : g < wr.heap.size := hY.out.1
      have hY3 : Hid (Bytes (wr.setCell ⟨g, K + j, none⟩ (.int .u8 (z.toNat : Int))).drew g (turnL t.data.toList K m (j + 1))) := by
        rw [HST.out]; exact hY2.out.keep (Below.refl _ _).drew
      have hB3 : Hid (Below w.heap.size w (wr.setCell ⟨g, K + j, none⟩ (.int .u8 (z.toNat : Int))).drew) := (blC hB.out hg _).drew
      go_roundw
      case rel => exact ⟨j + 1, by omega, by go_num, hY3, hB3⟩
      case measure => simp [intOf]; omega
    · obtain rfl : j = 4 := by omega
      have hlen : (turnL t.data.toList K m 4).length = t.size := by rw [turnL_length, ← Lib.size_eq]
      have HC := Lib.hid (hY.out.conv (P := Tryd.prog) (src := 31) (dst := 9) Tryd.underlying31 Tryd.underlying5 Tryd.underlying9 cap t.size hlen)
      have TR : Hid (Tab wr) := HT.out.keep hB.out
      by_cases hm : m = 0#32
      · have hno : ofL (turnL t.data.toList K m 4) = t := by rw [hm, turn_none _ _ (by rw [← Lib.size_eq, HZ.out]; omega), ofL_back]
        rw [hno] at HC
        have hcv2 := HC.out
        have hm0 : ((m.toNat : Int) == 0) = true := by rw [hm]; rfl
        clear hno hm hlen HC hcv
        generalize (m.toNat : Int) = mm at *
        go_wp2_with fail
        refine (H2.out _ TR.out).mono ?_
        rintro e w5 ⟨rfl, hb5⟩
        go_wp2_with fail
        go_returns
        exact ⟨rfl, bl hB.out hb5⟩
      · have hto := told s K m hKs hm
        rw [HTT.out] at hto
        have O := fun w ht => Open_any (ofL (turnL t.data.toList K m 4)) w (by rw [ofL_size, hlen, HZ.out]; omega) ht
        have ho : openV (ofL (turnL t.data.toList K m 4)) = .tuple #[.string ⟨#[]⟩, .bool false] := by unfold openV; rw [hto]; rfl
        rw [ho] at O
        have HO := Lib.hid O
        have hcv2 := HC.out
        have hm0 : ((m.toNat : Int) == 0) = false := beq_eq_false_iff_ne.2 (fun e => hm (BitVec.eq_of_toNat_eq (by simpa using e)))
        clear O ho hto hlen HC hcv
        generalize ofL (turnL t.data.toList K m 4) = tt at *
        generalize (m.toNat : Int) = mm at *
        go_wp2_with fail
        refine (HO.out _ TR.out).mono ?_
        rintro e w5 ⟨rfl, hb5⟩
        go_wp2_with fail
        go_returns
        exact ⟨rfl, bl hB.out hb5⟩
set_option maxHeartbeats 400000 in
theorem tell_long (s : ByteArray) (at_ : Int) (m : Int) (w : World) (ht : Tab w) (hs : s.size ≤ maxLen) (h : 512 < s.size) :
    Calls Tryd.prog 4 #[.string s, .int .i64 at_, .int .u32 m] w fun e w' => e = .returned (.bool true) ∧ Below w.heap.size w w' := by
  unfold maxLen at hs
  have H0 := Lib.hid (awake_any w ht)
  clear ht
  go_enter Tryd.func4, Tryd.ntmps4
  go_wp2_with fail
  refine H0.out.mono ?_
  rintro e w1 ⟨rfl, hb1⟩
  go_wp2_with fail
  go_returns
  exact ⟨rfl, hb1⟩
end Go.Proofs.YtfofkmampaaonaaDoor.Cr
