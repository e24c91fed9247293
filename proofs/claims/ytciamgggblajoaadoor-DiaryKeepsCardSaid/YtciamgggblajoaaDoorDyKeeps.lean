/- DiaryKeeps, walked. -/
import Derived.Test.YtciamgggblajoaaDoorDyQ
import Derived.Test.YtciamgggblajoaaDoorDyT
import Derived.Test.YtciamgggblajoaaDoorDyOpen
namespace Go.Proofs.YtciamgggblajoaaDoor.Nt
open Go.ChangeShapes Go.WideShapes Go.ChangeAt Go.RowKit Go.PlainAid Aid Cr
set_option linter.unusedVariables false
set_option linter.unusedSimpArgs false
theorem RecRow.all {w : World} {A : Option Addr} {m : Nat} {L : List Rec} (h : RecRow w A m L) (k : Nat) (hk : k < m) :
    ∃ r b o A1 m1 A2 m2 A3 m3, L[k]? = some r ∧ A = some ⟨b, o, none⟩ ∧ (∀ W, Below w.heap.size w W → W.cell? ⟨b, o + k * 11, none⟩ = some (.int .i64 r.kind) ∧ W.cell? ⟨b, o + k * 11 + 1, none⟩ = some (.int .i64 r.deal) ∧ W.cell? ⟨b, o + k * 11 + 2, none⟩ = some (.int .i64 r.prev) ∧ W.cell? ⟨b, o + k * 11 + 3, none⟩ = some (.int .i64 r.next) ∧ W.cell? ⟨b, o + k * 11 + 4, none⟩ = some (.slice A1 r.pages.length m1) ∧ W.cell? ⟨b, o + k * 11 + 5, none⟩ = some (.int .i64 r.und.kind) ∧ W.cell? ⟨b, o + k * 11 + 6, none⟩ = some (.int .i64 r.und.tree) ∧ W.cell? ⟨b, o + k * 11 + 7, none⟩ = some (.string (ofL r.und.key)) ∧ W.cell? ⟨b, o + k * 11 + 8, none⟩ = some (.string (ofL r.und.val)) ∧ W.cell? ⟨b, o + k * 11 + 9, none⟩ = some (.slice A2 r.opn.length m2) ∧ W.cell? ⟨b, o + k * 11 + 10, none⟩ = some (.slice A3 r.dty.length m3)) ∧
      RecAt w (.agg (recCells r (.slice A1 r.pages.length m1) (.slice A2 r.opn.length m2) (.slice A3 r.dty.length m3))) r := by
  obtain ⟨hl, h⟩ := h
  have hr : L[k]? = some (L[k]'(by omega)) := List.getElem?_eq_getElem _
  obtain ⟨b, o, p, q, d, hA, hlt, hc, h1, h2, h3⟩ := h k _ hr
  obtain ⟨A1, m1, rfl⟩ := h1.slice
  obtain ⟨A2, m2, rfl⟩ := h2.slice
  obtain ⟨A3, m3, rfl⟩ := h3.slice
  refine ⟨_, b, o, A1, m1, A2, m2, A3, m3, hr, hA, fun W hb => ?_, _, _, _, rfl, h1, h2, h3⟩
  have hc' : ∀ j v, (recCells (L[k]'(by omega)) (.slice A1 (L[k]'(by omega)).pages.length m1) (.slice A2 (L[k]'(by omega)).opn.length m2) (.slice A3 (L[k]'(by omega)).dty.length m3))[j]? = some v → W.cell? ⟨b, o + k * 11 + j, none⟩ = some v := fun j v hv => by rw [(bcell hb).1 _ _ hlt]; exact hc j v hv
  exact ⟨hc' 0 _ rfl, hc' 1 _ rfl, hc' 2 _ rfl, hc' 3 _ rfl, hc' 4 _ rfl, hc' 5 _ rfl, hc' 6 _ rfl, hc' 7 _ rfl, hc' 8 _ rfl, hc' 9 _ rfl, hc' 10 _ rfl⟩
set_option maxRecDepth 100000 in
set_option maxHeartbeats 1000000 in
theorem dkeeps_big (A : Option Addr) (m c : Nat) (n h : Int) (w : World) (ht : Tab w) (hm : 20 < m) (hl : m ≤ maxLen) :
    Calls Tryd.prog 6 #[.slice A m c, .int .i64 n, .int .i64 h] w fun e w' => e = .returned (.bool true) ∧ Below w.heap.size w w' := by
  unfold maxLen at hl
  have HA := Lib.hid (fun w ht => dawake_any w ht)
  have HT := Lib.hid ht
  clear ht
  go_enter Tryd.func6, Tryd.ntmps6
  go_wp2_with fail
  refine (HA.out _ HT.out).mono ?_
  rintro e w0 ⟨rfl, hb⟩
  have B0 := Lib.hid (hb)
  clear hb 
  go_wp2_with fail
  go_returns
  exact ⟨rfl, B0.out⟩
set_option maxRecDepth 100000 in
set_option maxHeartbeats 8000000 in
theorem dkeeps_any (A : Option Addr) (m1 c : Nat) (force keep : Int) (L : List Rec) (w : World) (ht : Tab w) (hm : m1 ≤ 20) (x1 : RecRow w A m1 L) :
    Calls Tryd.prog 6 #[.slice A m1 c, .int .i64 force, .int .i64 keep] w fun e w' => e = .returned (.bool true) ∧ Below w.heap.size w w' := by
  obtain ⟨K, hK, hK2⟩ := mod_u force 20 (by decide) (by decide)
  have hLm : L.length = m1 := x1.1
  have HT := Lib.hid ht
  have X1 := Lib.hid x1
  have HA := Lib.hid (fun w ht => dawake_any w ht)
  have HD := Lib.hid (fun m q => Rl.tNew m q 131072)
  rw [show Rl.nearR 131072 = 131072 by decide] at HD
  have HO := Lib.hid (fun gr m w1 C h => Open_whole gr m 131072 0 Rl.idle [] rfl (fun _ h => by cases h) w w1 C ht h)
  rw [flat_nil] at HO
  clear ht x1
  unfold lPtr at *
  go_enter Tryd.func6, Tryd.ntmps6
  go_wp2_with fail
  refine (HA.out _ HT.out).mono ?_
  rintro e w0 ⟨rfl, hb⟩
  have B0 := Lib.hid (hb)
  clear hb 
  have S0 := Lib.hid (Own.of_below B0.out)
  clear B0 HA
  go_wp2_with fail
  refine (S0.out.callE Mn.tNew).mono ?_
  rintro e w1 ⟨m, rfl, h1⟩
  have S1 := Lib.hid h1
  clear h1 S0
  go_wp2_with fail
  refine (S1.out.callE (HD.out _ _)).mono ?_
  rintro e w2 ⟨gr, rfl, h1⟩
  have S2 := Lib.hid (h1.addEmp.assoc)
  clear h1 S1 HD
  go_wp2_with fail
  refine (HO.out _ _ _ _ S2.out).mono ?_
  rintro e w3 ⟨⟨g, v1, v2, M⟩, ⟨hM, rfl⟩, hX⟩
  dsimp only at *
  obtain ⟨A2, c2, hv2⟩ := hX.left.right.vec.slice
  rw [List.length_nil] at hv2
  subst hv2
  have S3 := Lib.hid (open_log hX)
  clear hX S2 HO
  dsimp only at S3
  generalize Asn.vec 73 12 (.slice A2 0 c2) ([] : List Rec).length (told 0 M) * aRecs M * Asn.emp = Y at *
  go_wp2_with fail
  go_loopw [12, 13, 14, 15] (fun fo i _ _ wr => ∃ (r f safe : Nat) (v : Value), r ≤ m1 ∧ f ≤ r ∧ fo = .int .i64 f ∧ i = .int .i64 r ∧ Hid (∀ x, x ∈ L.take r → goodB x = true) ∧ Hid ((flat (L.take f)).length ≤ safe) ∧ Hid (Own w No wr (aLg g gr m 131072 v (L.take r) safe 0 * (Mn.aMn m Rl.idle * Y)))) (fun _ i _ _ _ => m1 - (intOf i).toNat)
  case atStart => exact ⟨0, 0, 0, v1, Nat.zero_le _, Nat.le_refl _, rfl, rfl, Lib.hid (fun x hx => by cases hx), Lib.hid (Nat.le_refl _), S3⟩
  case round =>
    clear S3
    obtain ⟨r, f, safe, v, hr, hfr, rfl, rfl, hG, hF, hS⟩ := hrel
    by_cases hlt : r < m1
    · obtain ⟨x, ba, oa, B1, n1, B2, n2, B3, n3, hx, rfl, hcells, hrec⟩ := X1.out.all r hlt
      have HC := Lib.hid hcells
      have HX := Lib.hid hx
      have HREC := Lib.hid hrec
      have HGr := Lib.hid (fun W (hb : Below w.heap.size w W) => dgreat_any x _ W (hrec.keep hb))
      have HGo := Lib.hid (fun W (hb : Below w.heap.size w W) => Good_any x _ W (hrec.keep hb))
      clear hrec hx hcells
      unfold recCells at *
      obtain ⟨c0, c1, c2, c3, c4, c5, c6, c7, c8, c9, c10⟩ := HC.out _ hS.out.bel
      go_wp2_with fail
      refine (HGr.out _ hS.out.bel).mono ?_
      rintro e w4 ⟨⟨b1, rfl⟩, hX⟩
      have S4 := Lib.hid (hS.out.below hX)
      clear hX hS HGr c0 c1 c2 c3 c4 c5 c6 c7 c8 c9 c10
      cases b1 with
      | true =>
        go_wp2_with fail
        go_returns
        exact ⟨rfl, S4.out.bel⟩
      | false =>
      obtain ⟨c0, c1, c2, c3, c4, c5, c6, c7, c8, c9, c10⟩ := HC.out _ S4.out.bel
      go_wp2_with fail
      refine (HGo.out _ S4.out.bel).mono ?_
      rintro e w5 ⟨rfl, hX⟩
      have S5 := Lib.hid (S4.out.below hX)
      clear hX S4 HGo c0 c1 c2 c3 c4 c5 c6 c7 c8 c9 c10
      cases hgx : goodB x with
      | false =>
        go_wp2_with fail
        go_returns
        exact ⟨rfl, S5.out.bel⟩
      | true =>
      have htk : L.take (r + 1) = L.take r ++ [x] := by rw [List.take_add_one, HX.out]; rfl
      have hsm := flat_small (L.take r) hG.out
      have htl : (L.take r).length = r := by rw [List.length_take]; omega
      rw [htl] at hsm
      have hxb := (small_bytes hgx).1
      have HAd := Lib.hid (fun W C h (hb : Below w.heap.size w W) => Add_ok g gr m 131072 v (L.take r) safe 0 (by omega) Rl.idle rfl x _ hgx (by omega) w W C HT.out (HREC.out.keep hb) h)
      have hat : at_ (L.take (r + 1)) r = (flat (L.take r)).length + 1 := by rw [htk]; have := at_last (L.take r) x; rwa [htl] at this
      have hxr : (L.take (r + 1))[r]? = some x := by rw [htk, List.getElem?_append_right (by omega), htl, Nat.sub_self]; rfl
      rw [← htk, ← hat] at HAd
      have HG2 : Hid (∀ y, y ∈ L.take (r + 1) → goodB y = true) := Lib.hid (fun y hy => by
        rw [htk] at hy
        rcases List.mem_append.1 hy with hy | hy
        · exact hG.out y hy
        · rw [List.mem_singleton.1 hy]; exact hgx)
      obtain ⟨k1, k2, k3⟩ := lg_fits S5.out.left
      have hnosafe : ¬ at_ (L.take (r + 1)) r + (bytes x).length ≤ safe + 1 := by have := bytes_pos x; omega
      have HFo := Lib.hid (fun v => tForce_sync g gr m 131072 v (L.take (r + 1)) safe 0 Rl.idle rfl r x hxr hnosafe)
      clear hsm htk htl hxb hat hxr hnosafe k1 k2 k3 hgx
      generalize at_ (L.take (r + 1)) r = st at *
      unfold recCells lPtr at *
      obtain ⟨c0, c1, c2, c3, c4, c5, c6, c7, c8, c9, c10⟩ := HC.out _ S5.out.bel
      go_wp2_with fail
      refine (HAd.out _ _ S5.out S5.out.bel).mono ?_
      rintro e w6 ⟨v', rfl, hX⟩
      have S6 := Lib.hid hX
      clear hX S5 HAd c0 c1 c2 c3 c4 c5 c6 c7 c8 c9 c10
      by_cases hrK : r = K
      · go_wp2_with fail
        refine (S6.out.assoc'.call (HFo.out _).l).mono ?_
        rintro e w7 ⟨rfl, hX⟩
        have S7 := Lib.hid hX.assoc
        clear hX S6 HFo
        go_wp2_with fail
        go_roundw
        case rel => exact ⟨r + 1, r + 1, (flat (L.take (r + 1))).length, v', by omega, Nat.le_refl _, by go_num, by go_num, HG2, Lib.hid (Nat.le_refl _), S7⟩
        case measure => simp [intOf]; omega
      · have hrKI : ¬ ((r : Int) = (K : Int)) := by omega
        have hrKb : ((r : Int) == (K : Int)) = false := by simpa using hrKI
        go_wp2_with fail
        go_roundw
        case rel => exact ⟨r + 1, f, safe, v', by omega, by omega, rfl, by go_num, HG2, hF, S6⟩
        case measure => simp [intOf]; omega
    · obtain rfl : r = m1 := by omega
      have hLL : L.take r = L := by rw [← hLm, List.take_length]
      rw [hLL] at hS hG
      obtain ⟨k1, k2, k3⟩ := lg_fits hS.out.left
      have HOf := Lib.hid (Mn.tOff m Rl.idle)
      obtain ⟨kk, hkk⟩ : ∃ kk, kk = safe + Rl.stayK keep ((flat L).length - safe) := ⟨_, rfl⟩
      have hkk2 : safe ≤ kk := by omega
      have HSe := Lib.hid (Rl.tSettle_off gr m 131072 (ofL (flat L)) safe ⟨false, -1, 1⟩ keep rfl)
      rw [ofL_sz, ← hkk, ofL_take] at HSe
      have hon := Mn.tOn m ⟨false, -1, 1⟩
      rw [show (⟨false, -1, 1⟩ : Mn.Pw).come = ⟨true, -1, 2⟩ by kernel_rfl] at hon
      have HOn := Lib.hid hon
      clear hon
      obtain ⟨j, t, hj, hcut, htn, hall⟩ := split_take L kk hG.out
      have hfj : f ≤ j := hall f (by omega) (Nat.le_trans hF.out hkk2)
      rw [hcut] at HSe
      have HJ : Hid (∀ w1 (h : Own w No w1 (Rl.aRl gr m 131072 (ofL (flat (L.take j) ++ t)) kk * (Mn.aMn m ⟨true, -1, 2⟩ * ((Asn.blk g 120 (lgRow gr v 0) * Asn.vec 127 2 v L.length (rows 0 L)) * Y)))), Calls Tryd.prog 19 #[lPtr gr] w1 fun e w' => ∃ (p : Nat × Value × Value × List (Rec × Q3)) (s2 : Nat), (recsOf p.2.2.2 = L.take j ∧ e = .returned (.tuple #[lPtr p.1, p.2.2.1, .int .i64 0])) ∧ Own w No w' (aOpen gr m 131072 s2 (L.take j) p * (Mn.aMn m ⟨true, -1, 2⟩ * ((Asn.blk g 120 (lgRow gr v 0) * Asn.vec 127 2 v L.length (rows 0 L)) * Y)))) := by
        refine Lib.hid fun w1 h => ?_
        have hgj : ∀ y, y ∈ L.take j → goodB y = true := fun y hy => hG.out y (List.mem_of_mem_take hy)
        by_cases ht : t = []
        · subst ht
          rw [List.append_nil] at h
          exact (Open_whole gr m 131072 kk ⟨true, -1, 2⟩ (L.take j) rfl hgj w w1 _ HT.out h).mono fun e w' ⟨p, a, b⟩ => ⟨p, _, a, b⟩
        · exact (Open_torn gr m 131072 kk ⟨true, -1, 2⟩ (L.take j) t htn ht rfl rfl hgj w w1 _ HT.out h).mono fun e w' ⟨p, a, b⟩ => ⟨p, _, a, b⟩
      have S4 := Lib.hid (own_rm hS.out)
      clear hS hcut htn hall hkk hkk2 k1 k2 k3 hF hG
      generalize (Asn.blk g 120 (lgRow gr v 0) * Asn.vec 127 2 v L.length (rows 0 L)) * Y = Z at *
      unfold lPtr at HJ
      go_wp2_with fail
      refine (S4.out.call HOf.out.r.l).mono ?_
      rintro e w4 ⟨rfl, hX⟩
      have S5 := Lib.hid hX
      clear hX S4 HOf
      go_wp2_with fail
      refine (S5.out.call HSe.out.l).mono ?_
      rintro e w5 ⟨rfl, hX⟩
      have S6 := Lib.hid hX
      clear hX S5 HSe
      go_wp2_with fail
      refine (S6.out.call HOn.out.r.l).mono ?_
      rintro e w6 ⟨rfl, hX⟩
      have S7 := Lib.hid hX.assoc
      clear hX S6 HOn
      have htj : (L.take j).length = j := by rw [List.length_take]; omega
      go_wp2_with fail
      refine (HJ.out _ S7.out).mono ?_
      rintro e w7 ⟨⟨g2, v3, v4, M2⟩, s2, ⟨hM2, rfl⟩, hX⟩
      dsimp only at hM2 hX
      obtain ⟨A4, c4, hv4⟩ := hX.left.right.vec.slice
      rw [htj] at hv4
      subst hv4
      have S8 := Lib.hid (own_front hX.assoc).assoc
      clear S7 HJ hX
      dsimp only at S8
      generalize (aLg g2 gr m 131072 v3 (L.take j) s2 0 * (Mn.aMn m ⟨true, -1, 2⟩ * Z)) = Q at *
      dsimp only
      have hfj2 : ¬ (j : Int) < (f : Int) := by omega
      have hjm : ¬ (r : Int) < (j : Int) := by omega
      go_wp2_with fail
      go_loopw [19] (fun i wr => ∃ k : Nat, k ≤ j ∧ i = .int .i64 k ∧ Hid (Own w No wr (Asn.vec 73 12 (.slice A4 j c4) (L.take j).length (told 0 M2) * (aRecs M2 * Q)))) (fun i _ => j - (intOf i).toNat)
      case atStart => exact ⟨0, Nat.zero_le _, rfl, S8⟩
      case round =>
        clear S8
        obtain ⟨k, hk, rfl, hS⟩ := hrel
        by_cases hkj : k < j
        · have hv := hS.out.vec
          rcases hv.forms with ⟨-, hz⟩ | ⟨b, cap, hvv, hb, hnc, hcm⟩
          · omega
          rw [htj] at hvv
          simp only [Value.slice.injEq, true_and] at hvv
          obtain ⟨rfl, rfl⟩ := hvv
          clear hv hb hnc hcm
          obtain ⟨x, ba, oa, B1, n1, B2, n2, B3, n3, hx, rfl, hcells, hrec⟩ := X1.out.all k (by omega)
          have hxj : (L.take j)[k]? = some x := by rw [List.getElem?_take, if_pos hkj]; exact hx
          have hS' := hS.out
          rw [show (Value.slice (some ⟨b, 0, none⟩) j c4) = Value.slice (some ⟨b, 0, none⟩) (L.take j).length c4 by rw [htj]] at hS'
          obtain ⟨D1, m1, D2, m2, D3, m3, hrec2, d0, d1, d2, d3, d4, d5, d6, d7, d8, d9, d10⟩ := told_cells hM2 hS' k x hxj
          have hbd : Below wr.heap.size wr wr.drew := ⟨rfl, rfl, rfl, Nat.le_refl _, fun _ _ => rfl⟩
          have HSm := Lib.hid (Same_any x x _ _ wr.drew (hrec2.keep hbd) ((hrec.keep hS.out.bel).keep hbd))
          rw [decide_eq_true rfl] at HSm
          obtain ⟨b0, b1, b2, b3, b4, b5, b6, b7, b8, b9, b10⟩ := hcells _ hS.out.bel
          clear hS' hrec hrec2 hcells hbd hx hxj
          unfold recCells at *
          have hkr : k < r := by omega
          have hkrI : (k : Int) < (r : Int) := by omega
          have hkjI : (k : Int) < (j : Int) := by omega
          go_upto_region 33 with fail
          go_wp2_with fail
          refine wp_region_still_tail 9 (by kernel_rfl) (by kernel_rfl) ?_
          simp only [List.take_succ_cons, List.take_zero, List.drop_succ_cons, List.drop_zero]
          change wpStill _ _ wr.drew _ _ _
          repeat still_step
          refine wpStill_nil ?_
          change wpList _ _ _ _ _ wr.drew
          have S9 := Lib.hid hS.out.drew
          clear hS b0 b1 b2 b3 b4 b5 b6 b7 b8 b9 b10 d0 d1 d2 d3 d4 d5 d6 d7 d8 d9 d10
          go_wp2_with fail
          refine HSm.out.mono ?_
          rintro e w8 ⟨rfl, hX⟩
          have S10 := Lib.hid (S9.out.below hX)
          clear hX S9 HSm
          go_wp2_with fail
          go_roundw
          case rel => exact ⟨k + 1, by omega, by go_num, S10⟩
          case measure => simp [intOf]; omega
        · obtain rfl : k = j := by omega
          go_wp2_with fail
          go_returns
          exact ⟨rfl, hS.out.bel⟩
end Go.Proofs.YtciamgggblajoaaDoor.Nt
