import Derived.Test.YtmnfoafpjmlbfaaGreatDoorSlC
namespace Go.Proofs.YtmnfoafpjmlbfaaGreatDoor.Sl
open Go.ChangeShapes Go.WideShapes Go.ChangeAt Go.RowKit Go.PlainAid Aid Mn
set_option linter.unusedVariables false
set_option linter.unusedSimpArgs false

/-- The numbers below k whose pages aren't safe. -/
def freshL (P : Nat → Pg) (k : Nat) : List Nat := (List.range k).filter fun i => (P i).fresh
def intsV (l : List Nat) : List Value := l.map fun i : Nat => Value.int .i64 (i : Int)
theorem freshL_le (P : Nat → Pg) (k : Nat) : (freshL P k).length ≤ k := by unfold freshL; exact Nat.le_trans (List.length_filter_le _ _) (by simp)
theorem freshL_yes (P : Nat → Pg) (k : Nat) (h : (P k).fresh = true) : freshL P (k + 1) = freshL P k ++ [k] := by simp [freshL, List.range_succ, List.filter_append, h]
theorem freshL_no (P : Nat → Pg) (k : Nat) (h : (P k).fresh = false) : freshL P (k + 1) = freshL P k := by simp [freshL, List.range_succ, List.filter_append, h]
theorem intInfo : (Tryz.prog.info? 3).map (fun i => (i.zero, i.size, i.bytes)) = some (some (.int .i64 0), 1, 8) := by kernel_rfl
def FreshP (w : World) (P : Nat → Pg) (n : Nat) (e : Ending) (w' : World) : Prop := ∃ v, e = .returned v ∧ w'.ownsRow w.heap.size 3 1 v (freshL P n).length (intsV (freshL P n)) ∧ Below w.heap.size w w'
set_option maxHeartbeats 1000000 in
theorem Fresh_any (g m b n : Nat) (P : Nat → Pg) (q : Pw) (w : World) (h : Dk w g m b n P q) :
    Calls Tryz.prog 61 #[.pointer (some ⟨g, 0, Option.none⟩)] w (FreshP w P n) := by
  obtain ⟨c0, c1⟩ := h.facts
  have H := Lib.hid h
  have hsm := h.small
  have HL := Lib.hid (freshL_le P)
  clear h
  go_enter Tryz.func61, Tryz.ntmps61
  go_wp2_with fail
  go_loopw [3, 13] (fun r i wr => ∃ (k j : Nat) (l : List Nat), k ≤ n ∧ j ≤ k ∧ i = .int .i64 k ∧ Hid (l = freshL P k) ∧ Hid (l.length = j) ∧ Hid (wr.ownsRow w.heap.size 3 1 r j (intsV l)) ∧ Hid (Below w.heap.size w wr)) (fun _ i _ => n - (intOf i).toNat)
  case atStart => exact ⟨0, 0, [], Nat.zero_le _, Nat.zero_le _, rfl, rfl, rfl, World.ownsRow_nil w w.heap.size 3 1, Below.refl _ _⟩
  case round =>
    obtain ⟨k, j, l, hk, hj, rfl, hl, hjl, hO, hB⟩ := hrel
    by_cases hlt : k < n
    · obtain ⟨d0, d1, d2⟩ := (H.out.below hB.out).pages.cell hlt
      cases hf : (P k).fresh <;> rw [hf] at d2
      · have HF := Lib.hid (freshL_no P k hf)
        clear hf
        go_wp2_with fail
        go_roundw
        case rel => exact ⟨k + 1, j, l, by omega, by omega, by go_num, by rw [HF.out]; exact hl.out, hjl, ownB hO.out (blA (Below.refl _ _) _), blA hB.out _⟩
        case measure => simp [intOf]; omega
      · have HF := Lib.hid (freshL_yes P k hf)
        clear hf
        have hbs := hB.out.size
        go_wp2_with (with_reducible refine append1_own _ rfl (.tmp 20) (.tmp 22) 57 rfl w.heap.size 3 (.int .i64 0) 8 Tryz.underlying57 intInfo ?c4 _ j (intsV l) rfl (hO.out.alloc _) ?c1 (.int .i64 k) ?c5 1 3 _ ?c6 rfl ?c2 ?c3 ?_)
        case c1 => simp; omega
        case c2 => unfold maxLen; omega
        case c3 => omega
        case c4 => rfl
        case c5 => rfl
        case c6 => simp
        intro v' w2 hown hch
        have hown' : w2.ownsRow w.heap.size 3 1 v' (j + 1) (intsV (l ++ [k])) := by unfold intsV at *; rw [List.map_append]; exact hown
        have hB2 := Lib.hid (blS (blA hB.out _) hch (blA hB.out _).size (fun i _ hi => own_base hO.out i hi))
        have HO2 := Lib.hid hown'
        clear hown hch hown'
        go_wp2_with fail
        go_roundw
        case rel => exact ⟨k + 1, j + 1, l ++ [k], by omega, by omega, by go_num, by rw [HF.out, hl.out]; rfl, by show _ = _; rw [List.length_append, hjl.out]; rfl, HO2, hB2⟩
        case measure => simp [intOf]; omega
    · obtain rfl : k = n := by omega
      go_wp2_with fail
      go_returns
      exact ⟨_, rfl, by rw [← hl.out, hjl.out]; exact hO.out, hB.out⟩

/-! Settle. -/
theorem freshL_mono (P : Nat → Pg) (i j : Nat) (h : i ≤ j) : (freshL P i).length ≤ (freshL P j).length := by
  induction j with
  | zero => obtain rfl : i = 0 := by omega
            exact Nat.le_refl _
  | succ j ih =>
    by_cases he : i = j + 1
    · subst he; exact Nat.le_refl _
    · refine Nat.le_trans (ih (by omega)) ?_
      cases hf : (P j).fresh
      · rw [freshL_no _ _ hf]; exact Nat.le_refl _
      · rw [freshL_yes _ _ hf]; simp
theorem freshL_at (P : Nat → Pg) (n j i : Nat) (h : (freshL P n)[j]? = some i) : i < n ∧ (P i).fresh = true ∧ (freshL P i).length = j := by
  induction n with
  | zero => simp [freshL] at h
  | succ n ih =>
    cases hf : (P n).fresh
    · rw [freshL_no _ _ hf] at h
      have := ih h
      exact ⟨by omega, this.2⟩
    · rw [freshL_yes _ _ hf] at h
      by_cases hj : j < (freshL P n).length
      · rw [List.getElem?_append_left hj] at h
        have := ih h
        exact ⟨by omega, this.2⟩
      · rw [List.getElem?_append_right (by omega)] at h
        have hz : j - (freshL P n).length = 0 := by
          have := (List.getElem?_eq_some_iff.1 h).1
          simp at this; omega
        rw [hz] at h
        simp at h
        subst h
        exact ⟨by omega, hf, by omega⟩
theorem fresh_inj (P : Nat → Pg) (i j : Nat) (hi : (P i).fresh = true) (hj : (P j).fresh = true) (h : (freshL P i).length = (freshL P j).length) : i = j := by
  rcases Nat.lt_trichotomy i j with hl | hl | hl
  · have := freshL_mono P (i + 1) j (by omega); rw [freshL_yes _ _ hi] at this; simp at this; omega
  · exact hl
  · have := freshL_mono P (j + 1) i (by omega); rw [freshL_yes _ _ hj] at this; simp at this; omega
/-- The bit k modulo 62 of keep. -/
def bitK (keep : Int) (k : Nat) : Bool := (keep / 2 ^ (k % 62)) % 2 == 1
def Pg.settle (p : Pg) (stay : Bool) : Pg := if stay then p.secure else ⟨p.safe, p.safe, false⟩
theorem bits_and1 (x : Int) : bits BinOp.and IntKind.i64 x 1 = x % 2 := by
  have e : ((BitVec.ofInt 64 x) &&& (BitVec.ofInt 64 1)).toNat = (x % 2).toNat := by
    rw [BitVec.toNat_and, BitVec.toNat_ofInt, BitVec.toNat_ofInt]
    have h3 : ((1 : Int) % ((2 ^ 64 : Nat) : Int)).toNat = 1 := by decide
    rw [h3, Nat.and_one_is_mod]
    omega
  show IntKind.i64.wrap (((BitVec.ofInt 64 x) &&& (BitVec.ofInt 64 1)).toNat : Int) = _
  rw [e, IntKind.wrap_i64]
  omega
theorem bits_and1u (x : Int) : bits BinOp.and IntKind.u64 x 1 = x % 2 := by
  have e : ((BitVec.ofInt 64 x) &&& (BitVec.ofInt 64 1)).toNat = (x % 2).toNat := by
    rw [BitVec.toNat_and, BitVec.toNat_ofInt, BitVec.toNat_ofInt]
    have h3 : ((1 : Int) % ((2 ^ 64 : Nat) : Int)).toNat = 1 := by decide
    rw [h3, Nat.and_one_is_mod]
    omega
  show IntKind.u64.wrap (((BitVec.ofInt 64 x) &&& (BitVec.ofInt 64 1)).toNat : Int) = _
  rw [e, IntKind.wrap_u64]
  omega
theorem and_bitK (keep : Int) (k : Nat) : (bits BinOp.and IntKind.i64 (keep / 2 ^ (k % 62)) 1 == 0) = !bitK keep k := by
  rw [bits_and1]; unfold bitK
  have : keep / 2 ^ (k % 62) % 2 = 0 ∨ keep / 2 ^ (k % 62) % 2 = 1 := by omega
  rcases this with h | h <;> rw [h] <;> rfl
theorem and_bitKu (keep : Int) (k : Nat) : (bits BinOp.and IntKind.u64 (IntKind.u64.wrap keep / 2 ^ (k % 62)) 1 == 0) = !bitK keep k := by
  rw [bits_and1u, IntKind.wrap_u64]; unfold bitK
  have hj : k % 62 < 62 := by omega
  generalize k % 62 = j at *
  have e : keep / 2 ^ j % 2 = keep % 18446744073709551616 / 2 ^ j % 2 := by
    have h1 : keep = keep % 18446744073709551616 + (keep / 18446744073709551616) * 2 ^ (63 - j) * 2 * 2 ^ j := by
      have : (2 : Int) ^ (63 - j) * 2 * 2 ^ j = 18446744073709551616 := by
        rw [show (2 : Int) ^ (63 - j) * 2 = 2 ^ (63 - j + 1) by rw [Int.pow_succ], ← Int.pow_add, show 63 - j + 1 + j = 64 by omega]; rfl
      rw [Int.mul_assoc, Int.mul_assoc, ← Int.mul_assoc (2 ^ (63 - j)), this]
      omega
    have hp : (2 : Int) ^ j ≠ 0 := Int.ne_of_gt (Int.pow_pos (by decide))
    generalize hr : keep % 18446744073709551616 = r at *
    generalize keep / 18446744073709551616 = t at *
    rw [h1, Int.add_mul_ediv_right _ _ hp, Int.add_mul_emod_self_right]
  rw [← e]
  have : keep / 2 ^ j % 2 = 0 ∨ keep / 2 ^ j % 2 = 1 := by omega
  rcases this with h | h <;> rw [h] <;> rfl
/-- The first j of the pages that aren't safe are settled. -/
def settled (P : Nat → Pg) (keep : Int) (j : Nat) : Nat → Pg := fun i => if (P i).fresh = true ∧ (freshL P i).length < j then (P i).settle (bitK keep (freshL P i).length) else P i
theorem settled_same (P : Nat → Pg) (keep : Int) (j i : Nat) (h : (freshL P i).length = j) : settled P keep j i = P i := by unfold settled; rw [if_neg (by omega)]
theorem settled_step (P : Nat → Pg) (keep : Int) (j i : Nat) (hf : (P i).fresh = true) (h : (freshL P i).length = j) : upd (settled P keep j) i ((P i).settle (bitK keep j)) = settled P keep (j + 1) := by
  funext k
  by_cases hk : k = i
  · subst hk; rw [upd_same]; unfold settled; rw [if_pos ⟨hf, by omega⟩, h]
  · rw [upd_other _ _ _ _ hk]
    unfold settled
    by_cases hfk : (P k).fresh = true
    · have hne : (freshL P k).length ≠ j := fun e => hk (fresh_inj P k i hfk hf (by omega))
      by_cases hl : (freshL P k).length < j
      · rw [if_pos ⟨hfk, hl⟩, if_pos ⟨hfk, by omega⟩]
      · rw [if_neg (by omega), if_neg (by omega)]
    · rw [if_neg (fun h => hfk h.1), if_neg (fun h => hfk h.1)]
theorem settled_zero (P : Nat → Pg) (keep : Int) : settled P keep 0 = P := by funext i; unfold settled; rw [if_neg (by omega)]

set_option maxHeartbeats 400000 in
theorem Settle_on (g m b n : Nat) (P : Nat → Pg) (q : Pw) (keep : Int) (w : World) (h : Dk w g m b n P q) (hq : q.on = true) :
    Calls Tryz.prog 24 #[.pointer (some ⟨g, 0, Option.none⟩), .int .i64 keep] w fun e w' => e = .returned (.int .i64 13) ∧ w = w' := by
  have ho := Lib.hid (IsOn_any m q w h.power)
  rw [hq] at ho
  obtain ⟨c0, c1⟩ := h.facts
  clear h hq
  go_enter Tryz.func24, Tryz.ntmps24
  go_wp2_with fail
  refine ho.out.mono ?_
  rintro e w' ⟨rfl, rfl⟩
  go_wp2_with fail
  go_returns
  exact ⟨rfl, rfl⟩
set_option maxHeartbeats 1000000 in
theorem Settle_off (g m b n : Nat) (P : Nat → Pg) (q : Pw) (keep : Int) (w : World) (h : Dk w g m b n P q) (hq : q.on = false) :
    Calls Tryz.prog 24 #[.pointer (some ⟨g, 0, Option.none⟩), .int .i64 keep] w fun e w' => e = .returned (.int .i64 0) ∧ Dk w' g m b n (settled P keep n) q ∧ Chg (· = b) w w' := by
  have ho := Lib.hid (IsOn_any m q w h.power)
  rw [hq] at ho
  obtain ⟨c0, c1⟩ := h.facts
  have H := Lib.hid h
  have hsm := h.small
  have HL := Lib.hid (freshL_le P)
  have HBl := Lib.hid (Pgs.lt h.pages)
  clear h hq
  go_enter Tryz.func24, Tryz.ntmps24
  go_wp2_with fail
  refine ho.out.mono ?_
  rintro e w' ⟨rfl, rfl⟩
  go_wp2_with fail
  refine (Fresh_any g m b n P q _ H.out).mono ?_
  rintro e w1 ⟨v, rfl, hown, hb1⟩
  have H1 := Lib.hid (H.out.below hb1)
  have B1 := Lib.hid (Chg.of_below (S := (· = b)) hb1)
  obtain ⟨A, cap, rfl, hml, hA⟩ := own_open hown
  have hln := HL.out n
  have HO := Lib.hid hown
  have HA := Lib.hid hA
  have HE := Lib.hid (show (freshL P n).length = (freshL P n).length from rfl)
  clear hown hb1 hml H hA
  generalize hN : (freshL P n).length = N at *
  have HN := Lib.hid hN
  clear hN c0 c1
  go_wp2_with fail
  go_loopw [18] (fun i wr => ∃ k : Nat, k ≤ N ∧ i = .int .i64 k ∧ Hid (Dk wr g m b n (settled P keep k) q) ∧ Hid (wr.ownsRow w.heap.size 3 1 (.slice A N cap) N (intsV (freshL P n))) ∧ Hid (Chg (· = b) w wr)) (fun i _ => N - (intOf i).toNat)
  case atStart => exact ⟨0, Nat.zero_le _, rfl, by rw [settled_zero]; exact H1, HO, B1⟩
  case round =>
    clear H1 B1 HO
    obtain ⟨k, hk, rfl, hD, hO, hB⟩ := hrel
    by_cases hlt : k < N
    · obtain ⟨gl, rfl, hg0, hg1⟩ := HA.out (by omega)
      have hc0 := hO.out.cellAt k (by omega)
      obtain ⟨i, hi⟩ : ∃ i, (freshL P n)[k]? = some i := by
        have := HN.out
        exact ⟨_, List.getElem?_eq_getElem (by omega)⟩
      have hc1 : wr.cell? ⟨gl, k, Option.none⟩ = some (.int .i64 (i : Int)) := by rw [hc0]; simp [intsV, hi]
      obtain ⟨hin, hif, hir⟩ := freshL_at P n k i hi
      obtain ⟨c0, c1⟩ := hD.out.facts
      obtain ⟨d0, d1, d2⟩ := hD.out.pages.cell hin
      rw [settled_same P keep k i hir] at d0 d1 d2
      have f0 : wr.frozen? ⟨b, i * 3, Option.none⟩ = false := Tab.free hD.out.pages _
      clear hc0 hi
      have HIF := Lib.hid hif
      have HIR := Lib.hid hir
      clear hif hir
      have hbit := and_bitK keep k
      have HST := Lib.hid (settled_step P keep k i HIF.out HIR.out)
      have HSM := Lib.hid (settled_same P keep k i HIR.out)
      cases hbk : bitK keep k <;> rw [hbk] at hbit HST
      · clear hbk
        simp only [Bool.not_false] at hbit
        go_wp2_with fail
        have hc1 : Chg (· = b) wr (wr.setCell ⟨b, i * 3, Option.none⟩ (.string (P i).safe)) := (Chg.refl _ _).set1 _ _
        have hp1 := hD.out.pages.set i 0 (by omega) ⟨(P i).safe, (P i).safe, (P i).fresh⟩ (.string (P i).safe) (by rw [HSM.out]; intro k hk; rcases (show k = 0 ∨ k = 1 ∨ k = 2 by omega) with rfl | rfl | rfl <;> rfl)
        refine (secure_any b n i _ _ hp1 hin).mono ?_
        rintro e w3 ⟨rfl, hp3, hb3⟩
        have hc3 := hc1.trans hb3 (fun _ _ e => e)
        have hp4 : Pgs w3 b n (settled P keep (k + 1)) := hp3.congr (fun x _ => by
          rw [← HST.out]
          by_cases hx : x = i <;> simp [upd, hx, Pg.settle, Pg.secure])
        have D3 : Hid (Dk w3 g m b n (settled P keep (k + 1)) q) := ⟨hD.out.disk.keep hc3 hD.out.gb, hp4, hD.out.power.keep hc3 hD.out.mb, hD.out.small, hD.out.gm, hD.out.gb, hD.out.mb⟩
        have O3 := Lib.hid (ownC hO.out hc3 (fun j hj hjb => by have := HBl.out; omega))
        have B3 := Lib.hid (hB.out.trans hc3 (fun _ _ e => e))
        clear hc1 hp1 hp3 hb3 hc3 hp4 hD hO hB c0 c1 d0 d1 d2 f0 hbit
        go_wp2_with fail
        go_roundw
        case rel => exact ⟨k + 1, by omega, by go_num, D3, O3, B3⟩
        case measure => simp [intOf]; omega
      · clear hbk
        simp only [Bool.not_true] at hbit
        go_wp2_with fail
        refine (secure_any b n i _ _ hD.out.pages hin).mono ?_
        rintro e w3 ⟨rfl, hp3, hc3⟩
        have hp4 : Pgs w3 b n (settled P keep (k + 1)) := hp3.congr (fun x _ => by
          rw [← HST.out]
          by_cases hx : x = i
          · subst hx; simp [upd, Pg.settle, Pg.secure, HSM.out]
          · simp [upd, hx])
        have D3 : Hid (Dk w3 g m b n (settled P keep (k + 1)) q) := ⟨hD.out.disk.keep hc3 hD.out.gb, hp4, hD.out.power.keep hc3 hD.out.mb, hD.out.small, hD.out.gm, hD.out.gb, hD.out.mb⟩
        have O3 := Lib.hid (ownC hO.out hc3 (fun j hj hjb => by have := HBl.out; omega))
        have B3 := Lib.hid (hB.out.trans hc3 (fun _ _ e => e))
        clear hp3 hc3 hp4 hD hO hB c0 c1 d0 d1 d2 f0 hbit
        go_wp2_with fail
        go_roundw
        case rel => exact ⟨k + 1, by omega, by go_num, D3, O3, B3⟩
        case measure => simp [intOf]; omega
    · obtain rfl : N = k := by omega
      go_wp2_with fail
      go_returns
      have D := hD.out
      refine ⟨rfl, ⟨D.disk, D.pages.congr (fun i hi => ?_), D.power, D.small, D.gm, D.gb, D.mb⟩, hB.out⟩
      unfold settled
      by_cases hf : (P i).fresh = true
      · have h1 := freshL_mono P (i + 1) n (by omega)
        rw [freshL_yes _ _ hf] at h1
        simp only [List.length_append, List.length_cons, List.length_nil] at h1
        have h2 := HN.out
        have h3 := HL.out n
        rw [if_pos ⟨hf, by omega⟩, if_pos ⟨hf, by omega⟩]
      · rw [if_neg (fun h => hf h.1), if_neg (fun h => hf h.1)]
end Go.Proofs.YtmnfoafpjmlbfaaGreatDoor.Sl
