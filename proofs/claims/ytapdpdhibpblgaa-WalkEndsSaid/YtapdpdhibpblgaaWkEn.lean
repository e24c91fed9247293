/- The walk of WalkEnds, behind its awake. -/
import Derived.Test.YtapdpdhibpblgaaWkE
import Derived.Test.YtapdpdhibpblgaaNdOpen
namespace Go.Proofs.Ytapdpdhibpblgaa.Wk
open Go.ChangeShapes Go.WideShapes Go.ChangeAt Go.RowKit Go.PlainAid Aid Nt Nd Tr Bk
open Ky (keyZ)
set_option linter.unusedVariables false
set_option linter.unusedSimpArgs false
set_option linter.unusedSectionVars false
theorem key11_any (n : Int) (w : World) (hn : -9223372036854775808 ≤ n) (hn2 : n ≤ 9223372036854775807) :
    Calls Try.prog 41 #[.int .i64 n] w fun e w' => e = .returned (.string (ofL (keyZ n))) ∧ Below w.heap.size w w' := by
  have h := Ky.refCode_num n ⟨#[]⟩ w (by decide) hn hn2
  go_enter Try.func41, Try.ntmps41
  go_wp2_with fail
  refine h.mono ?_
  rintro e w2 ⟨rfl, hX⟩
  have B := Lib.hid hX
  clear hX h
  go_wp2_with fail
  go_returns
  exact ⟨by unfold keyZ; rw [ofL_back]; rfl, B.out⟩
set_option maxRecDepth 100000 in
set_option maxHeartbeats 32000000 in
theorem ends_walk (HA : ∀ w, Calls Try.prog 39 #[] w fun e w' => e = .returned (.bool true) ∧ Below w.heap.size w w')
    (A : Option Addr) (m c : Nat) (L : List Nod) (kk page : Int) (w : World) (hm : m ≤ maxLen) (hR : NodRow w A m L) (hk1 : -9223372036854775808 ≤ kk) (hk2 : kk ≤ 9223372036854775807) :
    Calls Try.prog 11 #[.slice A m c, .int .i64 kk, .int .i64 page] w fun e w' => e = .returned (.bool true) ∧ Below w.heap.size w w' := by
  have HR := Lib.hid hR
  have hL : L.length = m := hR.1
  have HAw := Lib.hid (HA w)
  clear hR HA
  go_enter Try.func11, Try.ntmps11
  go_wp2_with fail
  refine HAw.out.mono ?_
  rintro e w1 ⟨rfl, hX⟩
  have S1 := Lib.hid (Own.of_below hX)
  clear hX HAw
  by_cases hm12 : 12 < m
  · go_wp2_with fail
    go_returns
    exact ⟨rfl, S1.out.bel⟩
  go_wp2_with fail
  refine (New_any w1).mono ?_
  rintro e w2 ⟨gs, V0, rfl, hX⟩
  have S2 := Lib.hid (show Own w No w2 (aSf gs (puts T0 (chs L 0)) V0 * Asn.emp) from own_join S1.out hX)
  clear hX S1
  unfold sPtr
  go_wp2_with fail
  go_loopw [8] (fun i wr => ∃ k : Nat, k ≤ m ∧ i = .int .i64 k ∧ (∀ j, j < k → (L.getD j Nod.none).list.length ≤ 12) ∧ ∃ V', Hid (Own w No wr (aSf gs (puts T0 (chs L k)) V' * Asn.emp))) (fun i _ => m - (intOf i).toNat)
  case atStart => exact ⟨0, Nat.zero_le _, rfl, fun j hj => by omega, V0, S2⟩
  case round =>
    clear S2
    obtain ⟨k, hk, rfl, hall, V', S1⟩ := hrel
    by_cases hlt : k < m
    · obtain ⟨n, b, o, A1, m1, hn, hlv, rfl, ⟨c0, c1, c2, c3, c4, c5, c6⟩, hrow⟩ := HR.out.at k hlt wr S1.out.bel
      have hgd : L.getD k Nod.none = n := by rw [List.getD, hn]; rfl
      have HGD := Lib.hid hgd
      have HAL := Lib.hid hall
      have hrl : n.list.length ≤ 9223372036854775807 := by have := hrow.len.2; unfold maxLen at this; omega
      have HRow := Lib.hid hrow
      clear hgd hall hrow hn
      by_cases h12 : 12 < n.list.length
      · go_wp2_with fail
        go_returns
        exact ⟨rfl, S1.out.bel⟩
      by_cases h100 : 100 < (ofL n.high).size
      · go_wp2_with fail
        go_returns
        exact ⟨rfl, S1.out.bel⟩
      have S3 := Lib.hid (S1.out.alloc #[.int .i64 k, .int .i64 n.tree, .int .i64 n.level, .int .i64 n.stamp, .bool n.has, .string (ofL n.high), .int .i64 n.right, .slice A1 n.list.length m1] 73)
      go_wp2_with fail
      obtain ⟨g5, hgz⟩ : ∃ g, g = wr.heap.size := ⟨_, rfl⟩
      rw [← hgz] at S3 ⊢
      clear hgz c0 c1 c2 c3 c4 c5 c6 S1
      generalize World.alloc _ _ = w3 at *
      have HPu := Lib.hid (ShPut_any gs _ V' [⟨(k : Int), n, .slice A1 n.list.length m1⟩] (.slice (some ⟨g5, 0, none⟩) 1 1) w w3 (Asn.blk g5 73 #[.int .i64 k, .int .i64 n.tree, .int .i64 n.level, .int .i64 n.stamp, .bool n.has, .string (ofL n.high), .int .i64 n.right, .slice A1 n.list.length m1] * Asn.emp) (fun W S' V' h => by
        refine ⟨some ⟨g5, 0, none⟩, 1, rfl, by simp, Or.inr ⟨g5, rfl, fun j u hu => ?_⟩, fun x hx => ?_⟩
        · rw [(h.has (Has.r (Has.l (has_blk g5 _ _)))).cell j, ← hu, ← Array.getElem?_toList]; rfl
        · obtain rfl := List.mem_singleton.1 hx
          exact HRow.out.keep h.bel) (fun x hx => by obtain rfl := List.mem_singleton.1 hx; show n.list.length ≤ 100000; omega) (S3.out.re (by ac_rfl)))
      unfold sPtr at HPu
      clear S3
      refine HPu.out.mono ?_
      rintro e w4 ⟨rfl, V2, hX⟩
      have S4 := Lib.hid ((hX.re (show _ = Asn.blk g5 73 #[.int .i64 k, .int .i64 n.tree, .int .i64 n.level, .int .i64 n.stamp, .bool n.has, .string (ofL n.high), .int .i64 n.right, .slice A1 n.list.length m1] * (aSf gs (puts (puts T0 (chs L k)) (plain [⟨(k : Int), n, .slice A1 n.list.length m1⟩])) V2 * Asn.emp) by ac_rfl)).right)
      clear hX HPu
      go_wp2_with fail
      go_round
      case rel =>
        refine ⟨k + 1, by omega, by go_num, fun j hj => ?_, V2, by rw [chs_succ, puts_snoc, HGD.out]; exact S4⟩
        by_cases h : j < k
        · exact HAL.out j h
        · obtain rfl : j = k := by omega
          rw [HGD.out]; omega
      case measure => simp only [intOf]; omega
    · obtain rfl : k = m := by omega
      have hs : Sm (puts T0 (chs L k)) := chs_P (q := fun n => n.list.length ≤ 99999) (by decide) L k (by omega) (fun i hi => by have := hall i hi; omega)
      have hv : LvOk (puts T0 (chs L k)) := chs_P (q := Low63) (show (0 : Int) ≤ 9223372036854775807 by decide) L k (by omega) (fun i hi => by
        have e : L[i]? = some (L[i]'(by omega)) := List.getElem?_eq_getElem _
        rw [List.getD, e]
        exact (HR.out.2 i _ e).1)
      generalize puts T0 (chs L k) = S at *
      have HBad := Lib.hid (ends_bad S page (keyZ kk))
      have HOk := Lib.hid (ends_ok S page (keyZ kk))
      have hge := gap_err S page (keyZ kk)
      have HSk := Lib.hid (fun W h => Seek_any gs S V' hs hv page 0 (keyZ kk) w W Asn.emp h)
      have HNx := Lib.hid (fun W h => Next_any gs S V' hs hv page (keyZ kk) w W Asn.emp h)
      have HAf := Lib.hid (fun W h => After_any gs S V' hs hv page (keyZ kk) w W Asn.emp h)
      have HGa := Lib.hid (fun W h => Gap_any gs S V' hs hv page (keyZ kk) w W Asn.emp h)
      have HRa := Lib.hid (fun W h => Range_any gs S V' hs hv page (keyZ kk) (keyZ kk) w W Asn.emp h)
      unfold pgs at HSk HGa HRa
      unfold pgs entCells at HNx HAf
      generalize firR S page (keyZ kk) (nxtQ (keyZ kk)) = rN at *
      generalize firR S page (keyZ kk) (aftQ (keyZ kk)) = rA at *
      generalize gapR S page (keyZ kk) = rG at *
      generalize ranR S page (keyZ kk) (keyZ kk) = rR at *
      generalize (pagesR S page 0 (keyZ kk)) = pL at *
      generalize (seek S 256 page 0 (keyZ kk)).2.1 = eS at *
      obtain ⟨eN, sN⟩ := rN
      obtain ⟨eA, sA⟩ := rA
      obtain ⟨eG, kG⟩ := rG
      obtain ⟨eR, lR, kR⟩ := rR
      dsimp only at HBad HOk HNx HAf HGa HRa hge
      have HGE := Lib.hid hge
      clear hall hs hv hge
      go_wp2_with fail
      refine (key11_any kk _ hk1 hk2).mono ?_
      rintro e w2 ⟨rfl, hX⟩
      have S2 := Lib.hid (S1.out.below hX)
      clear hX S1 
      go_wp2_with fail
      refine (HSk.out _ S2.out).mono ?_
      rintro e w3 ⟨v11, rfl, hX⟩
      have S3 := Lib.hid hX.right
      clear hX S2 HSk
      go_wp2_with fail
      refine (HNx.out _ S3.out).mono ?_
      rintro e w4 ⟨rfl, hX⟩
      have S4 := Lib.hid (hX.alloc #[.string (ofL (fE sN).key), .string (ofL (fE sN).val), .bool (fE sN).ghost] 44).right
      clear hX S3 HNx
      go_wp2_with fail
      generalize World.alloc _ _ = w5 at *
      refine (HAf.out _ S4.out).mono ?_
      rintro e w6 ⟨rfl, hX⟩
      have S6 := Lib.hid (hX.alloc #[.string (ofL (fE sA).key), .string (ofL (fE sA).val), .bool (fE sA).ghost] 44).right
      clear hX S4 HAf
      go_wp2_with fail
      generalize World.alloc _ _ = w7 at *
      refine (HGa.out _ S6.out).mono ?_
      rintro e w8 ⟨rfl, hX⟩
      have S8 := Lib.hid hX
      clear hX S6 HGa
      go_wp2_with fail
      refine (HRa.out _ S8.out).mono ?_
      rintro e w9 ⟨v20, rfl, hX⟩
      obtain ⟨A20, c20, rfl⟩ := hX.vec.slice
      have S9 := Lib.hid hX.right
      clear hX S8 HRa
      go_upto_region 18 with fail
      have hge := HGE.out
      by_cases he : eS = 0
      · subst he
        by_cases ha : eA = 0
        · obtain ⟨n0, r0⟩ := HOk.out rfl ha
          subst ha
          subst hge n0 r0
          clear HOk HBad HGE
          as_aux_lemma => (go_wp2_with fail; go_returns; exact ⟨by first | (simp; done) | (simp [ha]; done), S9.out.bel⟩)
        · have ha2 : ((eA : Nat) : Int) ≠ 0 := by omega
          subst hge
          clear HOk HBad HGE
          by_cases hn : eN = 0
          · subst hn
            as_aux_lemma => (go_wp2_with fail; go_returns; exact ⟨by first | (simp; done) | (simp [ha]; done), S9.out.bel⟩)
          · have hn2 : ((eN : Nat) : Int) ≠ 0 := by omega
            as_aux_lemma => (go_wp2_with fail; go_returns; exact ⟨by first | (simp; done) | (simp [ha]; done), S9.out.bel⟩)
      · obtain ⟨x1, x2, x3, x4, x5, x6, x7, x8⟩ := HBad.out he
        have x9 : ((eS : Nat) : Int) ≠ 0 := by omega
        rw [x1, x2, x3, x4, x5, x6, x7, x8]
        clear HOk HBad HGE hge x1 x2 x3 x4 x5 x6 x7 x8
        as_aux_lemma => (go_wp2_with fail; go_returns; exact ⟨by simp, S9.out.bel⟩)
end Go.Proofs.Ytapdpdhibpblgaa.Wk
