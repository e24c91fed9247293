/- The walk of BlinkBroken. -/
import Derived.Test.YtapdpdhibpblgaaBkAw
import Derived.Test.YtapdpdhibpblgaaBkEr
import Derived.Test.YtapdpdhibpblgaaBkZ
import Derived.Test.YtapdpdhibpblgaaNdOpen
import Derived.Test.YtapdpdhibpblgaaNdT
namespace Go.Proofs.Ytapdpdhibpblgaa.Bk
open Go.ChangeShapes Go.WideShapes Go.ChangeAt Go.RowKit Go.PlainAid Aid Nt Nd Tr
open Ky (keyZ key_any)
set_option linter.unusedVariables false
set_option linter.unusedSimpArgs false
set_option linter.unusedSectionVars false
/-- The changes by which the first nodes come onto a shelf. -/
def chs (L : List Nod) (k : Nat) : List (Int × Nod) := (List.range k).map fun (i : Nat) => ((i : Int), L.getD i Nod.none)
theorem chs_succ (L : List Nod) (k : Nat) : chs L (k + 1) = chs L k ++ [((k : Int), L.getD k Nod.none)] := by
  unfold chs
  rw [List.range_succ, List.map_append]; rfl
theorem chs_at (L : List Nod) : ∀ k, k ≤ 256 → ∀ i, puts T0 (chs L k) i = if i < k then L.getD i Nod.none else Nod.none := by
  intro k
  induction k with
  | zero => intro _ i; rw [if_neg (by omega)]; rfl
  | succ k ih =>
    intro hk i
    rw [chs_succ, puts_snoc]
    unfold putS
    rw [if_pos ⟨by omega, by omega⟩]
    unfold up
    rw [ih (by omega), show ((k : Int)).toNat = k from rfl]
    by_cases e : i = k
    · subst e; rw [if_pos rfl, if_pos (by omega)]
    · rw [if_neg e]
      by_cases h : i < k
      · rw [if_pos h, if_pos (by omega)]
      · rw [if_neg h, if_neg (by omega)]
theorem chs_P {q : Nod → Prop} (h0 : q Nod.none) (L : List Nod) (k : Nat) (hk : k ≤ 256) (h : ∀ i, i < k → q (L.getD i Nod.none)) : ∀ p, p < 256 → q (puts T0 (chs L k) p) := by
  intro p hp
  rw [chs_at L k hk]
  split
  · rename_i x; exact h p x
  · exact h0
theorem chs_node (L : List Nod) (k : Nat) (hk : k ≤ 256) (i : Nat) (hi : i < k) : nodeR (puts T0 (chs L k)) (i : Int) = (0, L.getD i Nod.none) := by
  unfold nodeR at_
  rw [if_pos ⟨by omega, by omega⟩]
  dsimp only
  rw [chs_at L k hk, show ((i : Int)).toNat = i from rfl, if_pos hi]
set_option maxRecDepth 100000 in
set_option maxHeartbeats 32000000 in
theorem broken_walk (A : Option Addr) (m c : Nat) (L : List Nod) (kk page : Int) (w : World) (hm : m ≤ maxLen) (hR : NodRow w A m L) (hk1 : -9223372036854775808 ≤ kk) (hk2 : kk ≤ 9223372036854775807) :
    Calls Try.prog 7 #[.slice A m c, .int .i64 kk, .int .i64 page] w fun e w' => e = .returned (.bool true) ∧ Below w.heap.size w w' := by
  have HR := Lib.hid hR
  have hL : L.length = m := hR.1
  clear hR
  go_enter Try.func7, Try.ntmps7
  go_wp2_with fail
  refine (awake_any w).mono ?_
  rintro e w1 ⟨rfl, hX⟩
  have S1 := Lib.hid (Own.of_below hX)
  clear hX
  by_cases hm12 : 12 < m
  · go_wp2_with fail
    go_returns
    exact ⟨rfl, S1.out.bel⟩
  go_wp2_with fail
  refine (New_any w1).mono ?_
  rintro e w2 ⟨gs, V0, rfl, hX⟩
  have S2 := Lib.hid (show Own w No w2 (aSf gs (puts T0 (chs L 0)) V0 * Asn.emp) from own_join S1.out hX)
  clear hX S1
  unfold sPtr
  go_wp2_with fail
  go_loopw [8] (fun i wr => ∃ k : Nat, k ≤ m ∧ i = .int .i64 k ∧ (∀ j, j < k → (L.getD j Nod.none).list.length ≤ 12) ∧ ∃ V', Hid (Own w No wr (aSf gs (puts T0 (chs L k)) V' * Asn.emp))) (fun i _ => m - (intOf i).toNat)
  case atStart => exact ⟨0, Nat.zero_le _, rfl, fun j hj => by omega, V0, S2⟩
  case round =>
    clear S2
    obtain ⟨k, hk, rfl, hall, V', S1⟩ := hrel
    by_cases hlt : k < m
    · obtain ⟨n, b, o, A1, m1, hn, hlv, rfl, ⟨c0, c1, c2, c3, c4, c5, c6⟩, hrow⟩ := HR.out.at k hlt wr S1.out.bel
      have hgd : L.getD k Nod.none = n := by rw [List.getD, hn]; rfl
      have HGD := Lib.hid hgd
      have HAL := Lib.hid hall
      have hrl : n.list.length ≤ 9223372036854775807 := by have := hrow.len.2; unfold maxLen at this; omega
      have hhs : (ofL n.high).size = (ofL n.high).size := rfl
      have HRow := Lib.hid hrow
      clear hgd hall hrow hhs hn
      by_cases h12 : 12 < n.list.length
      · go_wp2_with fail
        go_returns
        exact ⟨rfl, S1.out.bel⟩
      by_cases h100 : 100 < (ofL n.high).size
      · go_wp2_with fail
        go_returns
        exact ⟨rfl, S1.out.bel⟩
      go_wp2_with fail
      go_loop [9] (fun i => ∃ j : Nat, j ≤ n.list.length ∧ i = .int .i64 j) (fun i => n.list.length - (intOf i).toNat)
      case atStart => exact ⟨0, Nat.zero_le _, rfl⟩
      case round =>
        obtain ⟨j, hj, rfl⟩ := hrel
        by_cases hjl : j < n.list.length
        · obtain ⟨e, he⟩ : ∃ e, n.list[j]? = some e := ⟨_, List.getElem?_eq_getElem hjl⟩
          obtain ⟨b1, o1, rfl, -, d0, d1, d2⟩ := (HRow.out.keep S1.out.bel).at he
          by_cases h1 : 100 < (ofL e.key).size
          · go_wp2_with fail
            go_returns
            exact ⟨rfl, S1.out.bel⟩
          by_cases h2 : 200 < (ofL e.val).size
          · go_wp2_with fail
            go_returns
            exact ⟨rfl, S1.out.bel⟩
          go_wp2_with fail
          exact ⟨⟨j + 1, by omega, rfl⟩, by simp only [intOf]; omega⟩
        · obtain rfl : j = n.list.length := by omega
          have S3 := Lib.hid (S1.out.alloc #[.int .i64 k, .int .i64 n.tree, .int .i64 n.level, .int .i64 n.stamp, .bool n.has, .string (ofL n.high), .int .i64 n.right, .slice A1 n.list.length m1] 73)
          go_wp2_with fail
          obtain ⟨g5, hgz⟩ : ∃ g, g = wr.heap.size := ⟨_, rfl⟩
          rw [← hgz] at S3 ⊢
          clear hgz c0 c1 c2 c3 c4 c5 c6 S1
          generalize World.alloc _ _ = w3 at *
          have HPu := Lib.hid (ShPut_any gs _ V' [⟨(k : Int), n, .slice A1 n.list.length m1⟩] (.slice (some ⟨g5, 0, none⟩) 1 1) w w3 (Asn.blk g5 73 #[.int .i64 k, .int .i64 n.tree, .int .i64 n.level, .int .i64 n.stamp, .bool n.has, .string (ofL n.high), .int .i64 n.right, .slice A1 n.list.length m1] * Asn.emp) (fun W S' V' h => by
            refine ⟨some ⟨g5, 0, none⟩, 1, rfl, by simp, Or.inr ⟨g5, rfl, fun j u hu => ?_⟩, fun x hx => ?_⟩
            · rw [(h.has (Has.r (Has.l (has_blk g5 _ _)))).cell j, ← hu, ← Array.getElem?_toList]; rfl
            · obtain rfl := List.mem_singleton.1 hx
              exact HRow.out.keep h.bel) (fun x hx => by obtain rfl := List.mem_singleton.1 hx; show n.list.length ≤ 100000; omega) (S3.out.re (by ac_rfl)))
          unfold sPtr at HPu
          clear S3
          refine HPu.out.mono ?_
          rintro e w4 ⟨rfl, V2, hX⟩
          have S4 := Lib.hid ((hX.re (show _ = Asn.blk g5 73 #[.int .i64 k, .int .i64 n.tree, .int .i64 n.level, .int .i64 n.stamp, .bool n.has, .string (ofL n.high), .int .i64 n.right, .slice A1 n.list.length m1] * (aSf gs (puts (puts T0 (chs L k)) (plain [⟨(k : Int), n, .slice A1 n.list.length m1⟩])) V2 * Asn.emp) by ac_rfl)).right)
          clear hX HPu
          go_wp2_with fail
          go_round
          case rel =>
            refine ⟨k + 1, by omega, by go_num, fun j hj => ?_, V2, by rw [chs_succ, puts_snoc, HGD.out]; exact S4⟩
            by_cases h : j < k
            · exact HAL.out j h
            · obtain rfl : j = k := by omega
              rw [HGD.out]; omega
          case measure => simp only [intOf]; omega
    · obtain rfl : k = m := by omega
      have hs : Sm (puts T0 (chs L k)) := chs_P (q := fun n => n.list.length ≤ 99999) (by decide) L k (by omega) (fun i hi => by have := hall i hi; omega)
      have hv : LvOk (puts T0 (chs L k)) := chs_P (q := Low63) (show (0 : Int) ≤ 9223372036854775807 by decide) L k (by omega) (fun i hi => by
        have e : L[i]? = some (L[i]'(by omega)) := List.getElem?_eq_getElem _
        rw [List.getD, e]
        exact (HR.out.2 i _ e).1)
      have HND := Lib.hid (fun i (hi : i < k) => chs_node L k (by omega) i hi)
      generalize puts T0 (chs L k) = S at *
      have HBad : Hid ((seek S 256 page 0 (keyZ kk)).2.1 ≠ 0 → (pagesR S page 0 (keyZ kk)).length = 0 ∧ (getR S page (keyZ kk)).1 = (seek S 256 page 0 (keyZ kk)).2.1 ∧ (getR S page (keyZ kk)).2.1 = false ∧ (putR S page ⟨keyZ kk, [], false⟩).1 = (seek S 256 page 0 (keyZ kk)).2.1 ∧ (dropR S page (keyZ kk)).1 = (seek S 256 page 0 (keyZ kk)).2.1 ∧ (splitR S page 0 (keyZ kk) 20 21).1 = (seek S 256 page 0 (keyZ kk)).2.1 ∧ (shrR S page (keyZ kk)).1 = (seek S 256 page 0 (keyZ kk)).2.1) := Lib.hid fun h => by
        obtain ⟨a1, a2, a3, a4, a5, a6, a7⟩ := bad_all S page (keyZ kk) h
        exact ⟨a1, a2, a3, a4 _ _, a5, a6 _ _, a7⟩
      have HOk : Hid ((seek S 256 page 0 (keyZ kk)).2.1 = 0 → 0 < (pagesR S page 0 (keyZ kk)).length ∧ (getR S page (keyZ kk)).1 = 0 ∧ ((putR S page ⟨keyZ kk, [], false⟩).1 = 0 ∨ (putR S page ⟨keyZ kk, [], false⟩).1 = 12 ∨ (putR S page ⟨keyZ kk, [], false⟩).1 = 1) ∧
          (((dropR S page (keyZ kk)).1 = 0 ∧ (getR S page (keyZ kk)).2.1 = true) ∨ ((dropR S page (keyZ kk)).1 = 7 ∧ (getR S page (keyZ kk)).2.1 = false)) ∧ ((splitR S page 0 (keyZ kk) 20 21).1 = 0 ∨ (splitR S page 0 (keyZ kk) 20 21).1 = 1 ∨ (splitR S page 0 (keyZ kk) 20 21).1 = 5) ∧ (shrR S page (keyZ kk)).1 ≠ 7) := Lib.hid fun h => by
        obtain ⟨a1, a2, a3, a4, a5, a6⟩ := ok_all S page (keyZ kk) h
        exact ⟨a1, a2, a3 _ _, a4, a5 _ _, a6⟩
      have HSk := Lib.hid (fun W h => Seek_any gs S V' hs hv page 0 (keyZ kk) w W Asn.emp h)
      have HGe := Lib.hid (fun W h => Get_any gs S V' hs hv page (keyZ kk) w W Asn.emp h)
      have HPt := Lib.hid (fun W h => Put_any gs S V' hs hv page ⟨keyZ kk, [], false⟩ w W Asn.emp h)
      have HDr := Lib.hid (fun W h => Drop_any gs S V' hs hv page (keyZ kk) w W Asn.emp h)
      have HSp := Lib.hid (fun W h => Split_any gs S V' hs hv page 0 (keyZ kk) 20 21 w W Asn.emp h)
      have HHa := Lib.hid (fun W h => Hang_any gs S V' hs hv page 0 1 20 (keyZ kk) w W Asn.emp h)
      have HSh := Lib.hid (fun W h => Shrink_any gs S V' hs hv page (keyZ kk) w W Asn.emp h)
      have HLi := Lib.hid (fun W h => List_any gs S V' hs hv page w W Asn.emp h)
      have HHe := Lib.hid (fun W h => Height_any gs S V' hs hv page w W Asn.emp h)
      have HNo := Lib.hid (fun p W h => Node_any gs S V' hs.small p w W Asn.emp h)
      have HHN := Lib.hid (hang_ne S page (keyZ kk) 1 20)
      have HVP := Lib.hid (vis_page S page)
      have HPg := Lib.hid (fun h => seek_page S page (keyZ kk) h)
      rw [show entCells (⟨keyZ kk, [], false⟩ : Ent) = #[.string (ofL (keyZ kk)), .string ⟨#[]⟩, .bool false] from rfl] at HPt
      unfold pgs at HSk HPt HDr HHa HSh HLi HHe
      unfold pgs entCells at HGe
      unfold pgs poC at HSp
      unfold sPtr nodCells at HNo
      generalize getR S page (keyZ kk) = rG at *
      generalize putR S page ⟨keyZ kk, [], false⟩ = rP at *
      generalize dropR S page (keyZ kk) = rD at *
      generalize splitR S page 0 (keyZ kk) 20 21 = rS at *
      generalize hangR S page 1 (keyZ kk) 20 = rH at *
      generalize shrR S page (keyZ kk) = rZ at *
      generalize (pagesR S page 0 (keyZ kk)) = pL at *
      generalize (seek S 256 page 0 (keyZ kk)).2.1 = eS at *
      generalize vis S 256 page = rV at *
      clear hall hs hv
      obtain ⟨fG, isG, eG⟩ := rG
      obtain ⟨gP, lP⟩ := rP
      obtain ⟨hD, lD⟩ := rD
      obtain ⟨iS, lS, ⟨q0, q1, q2, q3⟩⟩ := rS
      obtain ⟨jH, lH⟩ := rH
      obtain ⟨lZ, sZ, zZ⟩ := rZ
      dsimp only at HBad HOk HSk HGe HPt HDr HSp HHa HSh HHN
      go_wp2_with fail
      refine (key_any kk _ hk1 hk2).mono ?_
      rintro e w2 ⟨rfl, hX⟩
      have S2 := Lib.hid (S1.out.below hX)
      clear hX S1 
      go_wp2_with fail
      refine (HSk.out _ S2.out).mono ?_
      rintro e w3 ⟨v11, rfl, hX⟩
      obtain ⟨A11, c11, rfl⟩ := hX.vec.slice
      have S3 := Lib.hid hX.right
      clear hX S2 HSk
      go_wp2_with fail
      refine (HGe.out _ S3.out).mono ?_
      rintro e w4 ⟨rfl, hX⟩
      have S4 := Lib.hid hX
      clear hX S3 HGe
      have S5 := Lib.hid (S4.out.alloc #[.string (ofL eG.key), .string (ofL eG.val), .bool eG.ghost] 44).right
      clear S4
      go_wp2_with fail
      generalize World.alloc _ _ = w5 at *
      refine (HPt.out _ S5.out).mono ?_
      rintro e w6 ⟨v16, _, rfl, -, hX⟩
      have S6 := Lib.hid (hX.re (show _ = (Asn.vec _ _ _ _ _ * aLs _) * (aSf gs S V' * Asn.emp) by ac_rfl)).right
      clear hX S5 HPt
      go_wp2_with fail
      refine (HDr.out _ S6.out).mono ?_
      rintro e w7 ⟨v18, _, rfl, -, hX⟩
      have S7 := Lib.hid (hX.re (show _ = (Asn.vec _ _ _ _ _ * aLs _) * (aSf gs S V' * Asn.emp) by ac_rfl)).right
      clear hX S6 HDr
      go_wp2_with fail
      refine (HSp.out _ S7.out).mono ?_
      rintro e w8 ⟨v20, _, rfl, -, hX⟩
      have S8 := Lib.hid (hX.re (show _ = (Asn.vec _ _ _ _ _ * aLs _) * (aSf gs S V' * Asn.emp) by ac_rfl)).right
      clear hX S7 HSp
      have S9 := Lib.hid (S8.out.alloc #[.int .i64 q0, .int .i64 q1, .string (ofL q2), .int .i64 q3] 80).right
      clear S8
      go_wp2_with fail
      generalize World.alloc _ _ = w9 at *
      refine (HHa.out _ S9.out).mono ?_
      rintro e w10 ⟨v23, _, rfl, -, hX⟩
      have S10 := Lib.hid (hX.re (show _ = (Asn.vec _ _ _ _ _ * aLs _) * (aSf gs S V' * Asn.emp) by ac_rfl)).right
      clear hX S9 HHa
      go_wp2_with fail
      refine (HSh.out _ S10.out).mono ?_
      rintro e w11 ⟨v25, _, rfl, -, hX⟩
      have S11 := Lib.hid (hX.re (show _ = (Asn.vec _ _ _ _ _ * aLs _) * (aSf gs S V' * Asn.emp) by ac_rfl)).right
      clear hX S10 HSh
      go_wp2_with fail
      refine (HLi.out _ S11.out).mono ?_
      rintro e w12 ⟨v26, rfl, hX⟩
      have S12 := Lib.hid hX.right
      clear hX S11 HLi
      go_wp2_with fail
      refine (HHe.out _ S12.out).mono ?_
      rintro e w13 ⟨v28, rfl, -, hX⟩
      have S13 := Lib.hid hX
      clear hX S12 HHe
      go_wp2_with fail
      generalize w4.heap.size = z13 at *
      generalize w8.heap.size = z21 at *
      go_loopw [30] (fun i wr => ∃ q : Nat, q ≤ k ∧ i = .int .i64 q ∧ Hid (Own w No wr (aSf gs S V' * Asn.emp))) (fun i _ => k - (intOf i).toNat)
      case atStart => exact ⟨0, Nat.zero_le _, rfl, S13⟩
      case round =>
        clear S13
        obtain ⟨q, hq, rfl, S1⟩ := hrel
        by_cases hlq : q < k
        · obtain ⟨n, b, o, A1, m1, hn, hlv, rfl, hcw, hrow⟩ := HR.out.at q hlq w (Below.refl _ _)
          have hbl : b < w.heap.size := World.block_lt_of_cell? w _ hcw.1
          have hgd : L.getD q Nod.none = n := by rw [List.getD, hn]; rfl
          have HNo2 := Lib.hid (HNo.out q _ S1.out)
          rw [HND.out q hlq, hgd] at HNo2
          dsimp only at HNo2
          have HArg : Hid (∀ W, Own w No W (aSf gs S V' * Asn.emp) → (W.cell? ⟨b, o + q * 7, none⟩ = some (.int .i64 n.tree) ∧ W.cell? ⟨b, o + q * 7 + 1, none⟩ = some (.int .i64 n.level) ∧ W.cell? ⟨b, o + q * 7 + 2, none⟩ = some (.int .i64 n.stamp) ∧ W.cell? ⟨b, o + q * 7 + 3, none⟩ = some (.bool n.has) ∧ W.cell? ⟨b, o + q * 7 + 4, none⟩ = some (.string (ofL n.high)) ∧ W.cell? ⟨b, o + q * 7 + 5, none⟩ = some (.int .i64 n.right) ∧ W.cell? ⟨b, o + q * 7 + 6, none⟩ = some (.slice A1 n.list.length m1))) := Lib.hid fun W h => by
            simp only [(bcell h.bel).1 _ _ hbl]
            exact hcw
          clear hcw
          go_wp2_with fail
          refine HNo2.out.mono ?_
          rintro e wn ⟨v3, rfl, hX⟩
          obtain ⟨A3, c3, rfl⟩ := (show Own w No wn (Asn.vec 44 3 v3 n.list.length (cells3 n.list) * _) from hX).vec.slice
          have S2 := Lib.hid (hX.alloc #[.int .i64 n.tree, .int .i64 n.level, .int .i64 n.stamp, .bool n.has, .string (ofL n.high), .int .i64 n.right, .slice A3 n.list.length c3] 52)
          clear hX HNo2
          go_upto_region 31 with fail
          obtain ⟨g31, hgz⟩ : ∃ g, g = wn.heap.size := ⟨_, rfl⟩
          rw [← hgz] at S2 ⊢
          clear hgz
          generalize World.alloc _ _ = w14 at *
          have S3 := Lib.hid S2.out.drew
          clear S2
          have F := Lib.hid (fun W (h : Own w No W (Asn.blk g31 52 #[.int .i64 n.tree, .int .i64 n.level, .int .i64 n.stamp, .bool n.has, .string (ofL n.high), .int .i64 n.right, .slice A3 n.list.length c3] * (aEnts n (.slice A3 n.list.length c3) * (aSf gs S V' * Asn.emp)))) => (⟨(seven7 (h.has (Has.l (has_blk g31 _ _)))).1, HArg.out W h.right.right⟩ : (W.cell? ⟨g31, 0, none⟩ = some (.int .i64 n.tree) ∧ W.cell? ⟨g31, 1, none⟩ = some (.int .i64 n.level) ∧ W.cell? ⟨g31, 2, none⟩ = some (.int .i64 n.stamp) ∧ W.cell? ⟨g31, 3, none⟩ = some (.bool n.has) ∧ W.cell? ⟨g31, 4, none⟩ = some (.string (ofL n.high)) ∧ W.cell? ⟨g31, 5, none⟩ = some (.int .i64 n.right) ∧ W.cell? ⟨g31, 6, none⟩ = some (.slice A3 n.list.length c3)) ∧ (W.cell? ⟨b, o + q * 7, none⟩ = some (.int .i64 n.tree) ∧ W.cell? ⟨b, o + q * 7 + 1, none⟩ = some (.int .i64 n.level) ∧ W.cell? ⟨b, o + q * 7 + 2, none⟩ = some (.int .i64 n.stamp) ∧ W.cell? ⟨b, o + q * 7 + 3, none⟩ = some (.bool n.has) ∧ W.cell? ⟨b, o + q * 7 + 4, none⟩ = some (.string (ofL n.high)) ∧ W.cell? ⟨b, o + q * 7 + 5, none⟩ = some (.int .i64 n.right) ∧ W.cell? ⟨b, o + q * 7 + 6, none⟩ = some (.slice A1 n.list.length m1))))
          have HSa := Lib.hid (fun W (h : Own w No W (Asn.blk g31 52 #[.int .i64 n.tree, .int .i64 n.level, .int .i64 n.stamp, .bool n.has, .string (ofL n.high), .int .i64 n.right, .slice A3 n.list.length c3] * (aEnts n (.slice A3 n.list.length c3) * (aSf gs S V' * Asn.emp)))) => refSame_any n n (.agg (nodCells n (.slice A3 n.list.length c3))) (.agg (nodCells n (.slice A1 n.list.length m1))) W (ents_at h.right.left) ⟨_, rfl, hrow.keep h.bel⟩)
          unfold nodCells at HSa
          have tA := F.out _ S3.out
          go_region_held3 (fun W : World => (W.cell? ⟨g31, 0, none⟩ = some (.int .i64 n.tree) ∧ W.cell? ⟨g31, 1, none⟩ = some (.int .i64 n.level) ∧ W.cell? ⟨g31, 2, none⟩ = some (.int .i64 n.stamp) ∧ W.cell? ⟨g31, 3, none⟩ = some (.bool n.has) ∧ W.cell? ⟨g31, 4, none⟩ = some (.string (ofL n.high)) ∧ W.cell? ⟨g31, 5, none⟩ = some (.int .i64 n.right) ∧ W.cell? ⟨g31, 6, none⟩ = some (.slice A3 n.list.length c3)) ∧ (W.cell? ⟨b, o + q * 7, none⟩ = some (.int .i64 n.tree) ∧ W.cell? ⟨b, o + q * 7 + 1, none⟩ = some (.int .i64 n.level) ∧ W.cell? ⟨b, o + q * 7 + 2, none⟩ = some (.int .i64 n.stamp) ∧ W.cell? ⟨b, o + q * 7 + 3, none⟩ = some (.bool n.has) ∧ W.cell? ⟨b, o + q * 7 + 4, none⟩ = some (.string (ofL n.high)) ∧ W.cell? ⟨b, o + q * 7 + 5, none⟩ = some (.int .i64 n.right) ∧ W.cell? ⟨b, o + q * 7 + 6, none⟩ = some (.slice A1 n.list.length m1))) (first | exact tA | exact tB) (first | (go_at_call 30; refine (HSa.out _ S3.out).mono ?_; rintro r w15 ⟨rfl, hX⟩; have S4 := Lib.hid (S3.out.below hX); have tB := F.out _ S4.out))
          clear tA tB F HSa HArg S3
          go_wp2_with fail
          go_round
          case rel => exact ⟨q + 1, by omega, by go_num, Lib.hid S4.out.right.right⟩
          case measure => simp only [intOf]; omega
        · obtain rfl : q = k := by omega
          by_cases hpg : 0 ≤ page ∧ page < 256
          · have hv := HVP.out
            rw [if_pos hpg] at hv
            obtain ⟨hp1, hp2⟩ := hpg
            rw [hv]
            by_cases he : eS = 0
            · subst he
              obtain ⟨x1, x2, x3, x4, x5, x6⟩ := HOk.out rfl
              subst x2
              have x1' : (0 : Int) < (pL.length : Int) := by omega
              have x6' : ((lZ : Nat) : Int) ≠ 7 := by omega
              clear HBad HOk HND HNo HHN HVP HPg
              go_upto_region 37 with fail
              rcases x4 with ⟨rfl, rfl⟩ | ⟨rfl, rfl⟩
              · rcases x3 with rfl | rfl | rfl
                · rcases x5 with rfl | rfl | rfl
                  · as_aux_lemma => (go_wp2_with fail; go_returns; exact ⟨by simp [x6'], S1.out.bel⟩)
                  · as_aux_lemma => (go_wp2_with fail; go_returns; exact ⟨by simp [x6'], S1.out.bel⟩)
                  · as_aux_lemma => (go_wp2_with fail; go_returns; exact ⟨by simp [x6'], S1.out.bel⟩)
                · rcases x5 with rfl | rfl | rfl
                  · as_aux_lemma => (go_wp2_with fail; go_returns; exact ⟨by simp [x6'], S1.out.bel⟩)
                  · as_aux_lemma => (go_wp2_with fail; go_returns; exact ⟨by simp [x6'], S1.out.bel⟩)
                  · as_aux_lemma => (go_wp2_with fail; go_returns; exact ⟨by simp [x6'], S1.out.bel⟩)
                · rcases x5 with rfl | rfl | rfl
                  · as_aux_lemma => (go_wp2_with fail; go_returns; exact ⟨by simp [x6'], S1.out.bel⟩)
                  · as_aux_lemma => (go_wp2_with fail; go_returns; exact ⟨by simp [x6'], S1.out.bel⟩)
                  · as_aux_lemma => (go_wp2_with fail; go_returns; exact ⟨by simp [x6'], S1.out.bel⟩)
              · rcases x3 with rfl | rfl | rfl
                · rcases x5 with rfl | rfl | rfl
                  · as_aux_lemma => (go_wp2_with fail; go_returns; exact ⟨by simp [x6'], S1.out.bel⟩)
                  · as_aux_lemma => (go_wp2_with fail; go_returns; exact ⟨by simp [x6'], S1.out.bel⟩)
                  · as_aux_lemma => (go_wp2_with fail; go_returns; exact ⟨by simp [x6'], S1.out.bel⟩)
                · rcases x5 with rfl | rfl | rfl
                  · as_aux_lemma => (go_wp2_with fail; go_returns; exact ⟨by simp [x6'], S1.out.bel⟩)
                  · as_aux_lemma => (go_wp2_with fail; go_returns; exact ⟨by simp [x6'], S1.out.bel⟩)
                  · as_aux_lemma => (go_wp2_with fail; go_returns; exact ⟨by simp [x6'], S1.out.bel⟩)
                · rcases x5 with rfl | rfl | rfl
                  · as_aux_lemma => (go_wp2_with fail; go_returns; exact ⟨by simp [x6'], S1.out.bel⟩)
                  · as_aux_lemma => (go_wp2_with fail; go_returns; exact ⟨by simp [x6'], S1.out.bel⟩)
                  · as_aux_lemma => (go_wp2_with fail; go_returns; exact ⟨by simp [x6'], S1.out.bel⟩)
            · as_aux_lemma => (obtain ⟨x1, x2, x3, x4, x5, x6, x7⟩ := HBad.out he; have x8 : ((jH : Nat) : Int) ≠ 7 := (by have := HHN.out; omega); have x9 : ((eS : Nat) : Int) ≠ 0 := (by omega); rw [x1, x2, x3, x4, x5, x6, x7]; clear HBad HOk HND HNo HHN HVP HPg x1 x2 x3 x4 x5 x6 x7; go_wp2_with fail; go_returns; exact ⟨by simp [x8], S1.out.bel⟩)
          · have hv := HVP.out
            rw [if_neg hpg] at hv
            have he := HPg.out hpg
            rw [hv]
            by_cases hp0 : page < 0
            · as_aux_lemma => (obtain ⟨x1, x2, x3, x4, x5, x6, x7⟩ := HBad.out he; have x8 : ((jH : Nat) : Int) ≠ 7 := (by have := HHN.out; omega); have x9 : ((eS : Nat) : Int) ≠ 0 := (by omega); rw [x1, x2, x3, x4, x5, x6, x7]; clear HBad HOk HND HNo HHN HVP HPg x1 x2 x3 x4 x5 x6 x7; go_wp2_with fail; go_returns; exact ⟨by simp [x8], S1.out.bel⟩)
            · have hp3 : 256 ≤ page := by omega
              (obtain ⟨x1, x2, x3, x4, x5, x6, x7⟩ := HBad.out he; have x8 : ((jH : Nat) : Int) ≠ 7 := (by have := HHN.out; omega); have x9 : ((eS : Nat) : Int) ≠ 0 := (by omega); rw [x1, x2, x3, x4, x5, x6, x7]; clear HBad HOk HND HNo HHN HVP HPg x1 x2 x3 x4 x5 x6 x7; go_wp2_with fail; go_returns; exact ⟨by simp [x8], S1.out.bel⟩)
end Go.Proofs.Ytapdpdhibpblgaa.Bk
