/- Read. -/
import Derived.Test.YtaacinhmgmmcaaaDoorNtS
namespace Go.Proofs.YtaacinhmgmmcaaaDoor.Nt
open Go.ChangeShapes Go.WideShapes Go.ChangeAt Go.RowKit Go.PlainAid Aid Cr
set_option linter.unusedVariables false
set_option linter.unusedSimpArgs false
theorem body_ofL (l : By) : bodyS (ofL l) = ofL (l.take (l.length - 4)) := by unfold bodyS; rw [ofL_sz, ofL_take]
theorem sealed_ofL (l : By) : isSealed (ofL l) = sealedL l := by
  unfold isSealed sealedL endS
  rw [body_ofL]
  by_cases h : 4 ≤ l.length
  · have e : (ofL l).extract ((ofL l).size - 4) (ofL l).size = ofL (l.drop (l.length - 4)) := by rw [← ofL_drop]; rfl
    rw [e, ofL_sz, decide_eq_true h, Bool.true_and, Bool.true_and]
    congr 1
    apply propext
    constructor
    · intro h; exact ofL_inj h
    · intro h; rw [h]; rfl
  · rw [ofL_sz, decide_eq_false h]; rfl
theorem pnum_few (s : By) (h : s.length < 4) : pnum 4 ⟨s, false⟩ = (0, ⟨s, true⟩) := by unfold pnum tk; rw [if_pos h]; rfl
theorem pnum_hd (s : By) (h : ¬ s.length < 4) : pnum 4 ⟨s, false⟩ = (hd s, ⟨s.drop 4, false⟩) := by unfold hd pnum tk; rw [if_neg h]
theorem Tab.own {w0 w : World} {A : Asn} (ht : Tab w0) (h : Own w0 No w A) : Tab w := by
  obtain ⟨h1, h2⟩ := ht
  have hb := h.bel
  exact ⟨by have := hb.size; omega, fun i hi => by rw [(bcell hb).1 _ _ h1]; exact h2 i hi⟩
def openN (s : By) : Value := if few s = true then .tuple #[.string ⟨#[]⟩, .bool false] else if sealedL (s.take (hd s + 8)) = false then .tuple #[.string ⟨#[]⟩, .bool false] else .tuple #[.string (ofL (inner s)), .bool true]
set_option maxRecDepth 100000 in
set_option maxHeartbeats 2000000 in
theorem open_any (s : By) (w : World) (hs : s.length ≤ 140737488355328) (ht : Tab w) :
    Calls Tryd.prog 55 #[.string (ofL s)] w fun e w' => e = .returned (openN s) ∧ Below w.heap.size w w' := by
  have HT := Lib.hid ht
  have HN := Lib.hid (fun g => tPnum g 4 ⟨s, false⟩ (by omega))
  have S := Lib.hid ((Own.none w).alloc #[.string (ofL s), .bool false] 114).left
  unfold openN
  have hz : (ofL s).size = s.length := rfl
  by_cases h4 : s.length < 4
  · rw [pnum_few s h4] at HN
    rw [if_pos (by unfold few; rw [decide_eq_true h4]; rfl)]
    unfold aR aSt at HN
    dsimp only at HN
    clear ht h4 hz hs
    generalize ofL s = x at *
    unfold bPtr at *
    go_enter Tryd.func55, Tryd.ntmps55
    go_wp2_with fail
    obtain ⟨g, hgz⟩ : ∃ g, g = w.heap.size := ⟨_, rfl⟩
    rw [← hgz] at S ⊢
    clear hgz
    generalize w.alloc _ = w1 at *
    refine (S.out.call (HN.out g)).mono ?_
    rintro e w2 ⟨rfl, hX⟩
    have S1 := Lib.hid hX
    clear hX S HN
    obtain ⟨c0, c1, -, -⟩ := st_cells (S1.out.has (has_blk _ _ _))
    go_wp2_with fail
    go_returns
    exact ⟨rfl, S1.out.bel⟩
  rw [pnum_hd s h4] at HN
  have hd4 : (ofL (s.drop 4)).size = s.length - 4 := by rw [ofL_sz, List.length_drop]
  have hhd : hd s < 4294967296 := pnum_le 4 ⟨s, false⟩
  by_cases h8 : s.length < hd s + 8
  · rw [if_pos (by unfold few; rw [decide_eq_true h8, Bool.or_true])]
    unfold aR aSt at HN
    dsimp only at HN
    have hlt : ((ofL (s.drop 4)).size : Int) - 4 < (hd s : Int) := by omega
    clear ht h4 hz h8 hd4
    generalize ofL (s.drop 4) = y at *
    generalize ofL s = x at *
    generalize hd s = n at *
    unfold bPtr at *
    go_enter Tryd.func55, Tryd.ntmps55
    go_wp2_with fail
    obtain ⟨g, hgz⟩ : ∃ g, g = w.heap.size := ⟨_, rfl⟩
    rw [← hgz] at S ⊢
    clear hgz
    generalize w.alloc _ = w1 at *
    refine (S.out.call (HN.out g)).mono ?_
    rintro e w2 ⟨rfl, hX⟩
    have S1 := Lib.hid hX
    clear hX S HN
    obtain ⟨c0, c1, -, -⟩ := st_cells (S1.out.has (has_blk _ _ _))
    go_wp2_with fail
    go_returns
    exact ⟨rfl, S1.out.bel⟩
  rw [if_neg (by simp only [few, Bool.or_eq_true, decide_eq_true_eq]; omega)]
  have hlt : ¬ ((ofL (s.drop 4)).size : Int) - 4 < (hd s : Int) := by omega
  have hyb : (ofL (s.drop 4)).size ≤ 140737488355328 := by omega
  have hl8 : (s.take (hd s + 8)).length = hd s + 8 := by rw [List.length_take]; omega
  have hs1 := slice_to (P := Tryd.prog) Tryd.underlying9 (ofL s) (hd s + 8) (4 + (hd s : Int) + 4) (by omega) (by omega)
  rw [ofL_take] at hs1
  have HO := Lib.hid (fun w' ht => Open_any (ofL (s.take (hd s + 8))) w' (by rw [ofL_sz, hl8]; omega) ht)
  have hop : openV (ofL (s.take (hd s + 8))) = if sealedL (s.take (hd s + 8)) then .tuple #[.string (ofL (s.take (hd s + 4))), .bool true] else .tuple #[.string ⟨#[]⟩, .bool false] := by
    unfold openV; rw [sealed_ofL, body_ofL, hl8, List.take_take, Nat.min_eq_left (by omega), show hd s + 8 - 4 = hd s + 4 by omega]
  rw [hop] at HO
  have hw : IntKind.i64.wrap (4 + (hd s : Int)) = 4 + (hd s : Int) := by rw [IntKind.wrap_i64]; omega
  have hw2 : IntKind.i64.wrap (4 + (hd s : Int) + 4) = 4 + (hd s : Int) + 4 := by rw [IntKind.wrap_i64]; omega
  have hl4 : (s.take (hd s + 4)).length = hd s + 4 := by rw [List.length_take]; omega
  have hs2 := slice_from (P := Tryd.prog) Tryd.underlying9 (ofL (s.take (hd s + 4))) 4 4 rfl (by rw [ofL_sz, hl4]; omega)
  rw [ofL_drop, show (s.take (hd s + 4)).drop 4 = inner s from rfl] at hs2
  unfold aR aSt at HN
  dsimp only at HN
  cases hq : sealedL (s.take (hd s + 8)) with
  | false =>
    rw [if_pos rfl]
    rw [hq, if_neg (by decide)] at HO
    clear ht h4 hz h8 hd4 hop hl8 hq hs2 hl4
    generalize ofL (s.take (hd s + 8)) = z at *
    generalize ofL (s.drop 4) = y at *
    generalize ofL s = x at *
    generalize hd s = n at *
    unfold bPtr at *
    go_enter Tryd.func55, Tryd.ntmps55
    go_wp2_with fail
    obtain ⟨g, hgz⟩ : ∃ g, g = w.heap.size := ⟨_, rfl⟩
    rw [← hgz] at S ⊢
    clear hgz
    generalize w.alloc _ = w1 at *
    refine (S.out.call (HN.out g)).mono ?_
    rintro e w2 ⟨rfl, hX⟩
    have S1 := Lib.hid hX
    clear hX S HN
    obtain ⟨c0, c1, -, -⟩ := st_cells (S1.out.has (has_blk _ _ _))
    go_wp2_with fail
    refine (HO.out _ (Tab.own HT.out S1.out)).mono ?_
    rintro e w3 ⟨rfl, hX⟩
    have S2 := Lib.hid (S1.out.below hX)
    clear hX S1 c0 c1
    go_wp2_with fail
    go_returns
    exact ⟨rfl, S2.out.bel⟩
  | true =>
    rw [if_neg (by decide)]
    rw [hq, if_pos rfl] at HO
    clear ht h4 hz h8 hd4 hop hl8 hq hl4
    generalize ofL (s.take (hd s + 8)) = z at *
    generalize ofL (s.take (hd s + 4)) = z4 at *
    generalize ofL (inner s) = u at *
    generalize ofL (s.drop 4) = y at *
    generalize ofL s = x at *
    generalize hd s = n at *
    unfold bPtr at *
    go_enter Tryd.func55, Tryd.ntmps55
    go_wp2_with fail
    obtain ⟨g, hgz⟩ : ∃ g, g = w.heap.size := ⟨_, rfl⟩
    rw [← hgz] at S ⊢
    clear hgz
    generalize w.alloc _ = w1 at *
    refine (S.out.call (HN.out g)).mono ?_
    rintro e w2 ⟨rfl, hX⟩
    have S1 := Lib.hid hX
    clear hX S HN
    obtain ⟨c0, c1, -, -⟩ := st_cells (S1.out.has (has_blk _ _ _))
    go_wp2_with fail
    refine (HO.out _ (Tab.own HT.out S1.out)).mono ?_
    rintro e w3 ⟨rfl, hX⟩
    have S2 := Lib.hid (S1.out.below hX)
    clear hX S1 c0 c1
    go_wp2_with fail
    go_returns
    exact ⟨rfl, S2.out.bel⟩
end Go.Proofs.YtaacinhmgmmcaaaDoor.Nt
