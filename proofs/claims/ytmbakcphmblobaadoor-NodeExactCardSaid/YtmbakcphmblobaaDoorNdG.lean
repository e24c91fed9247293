/- Lead, Child; the law's own: great; the document's Same. -/
import Derived.Test.YtmbakcphmblobaaDoorNdU
import Derived.Deep.CutBlock
namespace Go.Proofs.YtmbakcphmblobaaDoor.Nd
open Go.ChangeShapes Go.WideShapes Go.ChangeAt Go.RowKit Go.PlainAid Aid Cr Nt
set_option linter.unusedVariables false
set_option linter.unusedSimpArgs false
theorem bld_zero {w0 w : World} {O0 : Nat → Prop} {A : Asn} {g : Nat} {T : TypeId} (h : Own w0 O0 w (Asn.blk g T #[.pointer none, .slice none 0 0] * A)) : Own w0 O0 w (aBld T g [] * A) := by
  have h3 : Own w0 O0 w ((aBlk T g (.pointer none) (.slice none 0 0) * Asn.vec 5 1 (.slice none 0 0) 0 []) * A) := (h.nilVec 5 1).assoc'.imp (Imp.l (fun _ _ => sep_comm))
  exact h3.imp (Imp.l fun w O h => ⟨(false, .slice none 0 0), h⟩)
set_option maxRecDepth 100000 in
set_option maxHeartbeats 4000000 in
theorem Lead_any (k : ByteArray) (page : Int) (w : World) :
    Calls Tryd.prog 54 #[.string k, .int .i64 page] w fun e w' => e = .returned (.agg #[.string k, .string (ofL (numZ 2 page)), .bool false]) ∧ Below w.heap.size w w' := by
  have hsz : ∀ cs T, (w.alloc (.cells cs T)).heap.size = w.heap.size + 1 := fun cs T => by simp
  have S := ((Own.none w).alloc #[.string ⟨#[]⟩, .string ⟨#[]⟩, .bool false] 111).left.alloc #[.pointer none, .slice none 0 0] 118
  rw [hsz] at S
  have S := Lib.hid (bld_zero S)
  have HN := Lib.hid (fun g => tNumZ g [] page 2 (by decide))
  have HQ := Lib.hid (fun g => bString 118 g (numZ 2 page) (by simp [numZ]))
  clear hsz
  rw [List.nil_append] at HN
  generalize numZ 2 page = l at *
  generalize ofL l = x at *
  unfold bPtr at *
  go_enter Tryd.func54, Tryd.ntmps54
  go_upto_region 2 with fail
  obtain ⟨g5, hg5⟩ : ∃ g, g = w.heap.size + 1 := ⟨_, rfl⟩
  rw [← hg5] at S ⊢
  obtain ⟨g4, hg4⟩ : ∃ g, g = w.heap.size := ⟨_, rfl⟩
  rw [← hg4] at S ⊢
  clear hg4 hg5
  generalize (w.alloc _).alloc _ = w1 at *
  go_wp2_with fail
  refine (S.out.call ((HN.out g5).l)).mono ?_
  rintro e w2 ⟨rfl, hX⟩
  have S1 := Lib.hid hX
  clear hX S 
  go_wp2_with fail
  refine (S1.out.call ((HQ.out g5).l)).mono ?_
  rintro e w3 ⟨rfl, hX⟩
  have S2 := Lib.hid hX
  clear hX S1 
  have S3 := Lib.hid S2.out.comm
  obtain ⟨c0, c1, c2⟩ := ent_cells (S3.out.has (Has.l (has_blk _ _ _)))
  have f0 := (S3.out.has (Has.l (has_blk _ _ _))).free 0
  have f1 := (S3.out.has (Has.l (has_blk _ _ _))).free 1
  have f2 := (S3.out.has (Has.l (has_blk _ _ _))).free 2
  go_wp2_with fail
  have S4 := Lib.hid (own_three S3.out (.string k) (.string x) (.bool false))
  clear S2 S3 c0 c1 c2 f0 f1 f2
  generalize World.setCell (World.setCell (World.setCell w3 _ _) _ _) _ _ = w4 at *
  obtain ⟨c0, c1, c2⟩ := ent_cells (S4.out.has (Has.l (has_blk _ _ _)))
  exact bodyPost_ret (v := .agg #[.string k, .string x, .bool false]) (by simp [results, Tryd.results54, go_sem, c0, c1, c2]) rfl ⟨rfl, S4.out.bel⟩
set_option maxRecDepth 100000 in
set_option maxHeartbeats 4000000 in
theorem Child_any (e : Ent) (w : World) :
    Calls Tryd.prog 53 #[.agg (entCells e)] w fun r w' => r = .returned (.int .i64 (childL e.val)) ∧ Below w.heap.size w w' := by
  have S := Lib.hid ((Own.none w).alloc (entCells e) 111)
  have HN := Lib.hid (fun g => tPnum g 2 ⟨e.val, false⟩ (by omega))
  have hz : (ofL e.val).size = e.val.length := rfl
  unfold childL entCells at *
  by_cases h2 : e.val.length = 2
  · have h1 : (pnum 2 ⟨e.val, false⟩).1 = unnum e.val := by unfold pnum tk; rw [if_neg (by show ¬ e.val.length < 2; omega)]; show unnum (e.val.take 2) = _; rw [List.take_of_length_le (by omega)]
    rw [if_pos h2]
    rw [h1] at HN
    have hz2 : (ofL e.val).size = 2 := h2
    generalize (pnum 2 ⟨e.val, false⟩).2 = st at *
    unfold aR aSt at HN
    dsimp only at HN
    clear h1 hz h2
    generalize ofL e.val = x at *
    generalize ofL e.key = y at *
    generalize unnum e.val = u at *
    unfold bPtr at *
    go_enter Tryd.func53, Tryd.ntmps53
    go_upto_region 1 with fail
    obtain ⟨g1, hg1⟩ : ∃ g, g = w.heap.size := ⟨_, rfl⟩
    rw [← hg1] at S ⊢
    clear hg1
    generalize w.alloc _ = w1 at *
    obtain ⟨-, c1, -⟩ := ent_cells (S.out.has (Has.l (has_blk _ _ _)))
    have S1 := Lib.hid (S.out.alloc #[.string x, .bool false] 121)
    go_upto_region 4 with fail
    obtain ⟨g3, hg3⟩ : ∃ g, g = w1.heap.size := ⟨_, rfl⟩
    rw [← hg3] at S1 ⊢
    clear hg3 S
    generalize w1.alloc _ = w2 at *
    clear c1
    go_wp2_with fail
    refine (S1.out.call ((HN.out g3).l)).mono ?_
    rintro e w3 ⟨rfl, hX⟩
    have S2 := Lib.hid hX
    clear hX S1 
    go_wp2_with fail
    go_returns
    exact ⟨rfl, S2.out.bel⟩
  · rw [if_neg h2]
    have hz2 : ¬ ((ofL e.val).size : Int) = 2 := by omega
    have hz3 : (((ofL e.val).size : Int) != 2) = true := by simp only [bne_iff_ne, ne_eq]; exact hz2
    clear hz h2 HN
    generalize ofL e.val = x at *
    generalize ofL e.key = y at *
    go_enter Tryd.func53, Tryd.ntmps53
    go_upto_region 1 with fail
    obtain ⟨g1, hg1⟩ : ∃ g, g = w.heap.size := ⟨_, rfl⟩
    rw [← hg1] at S ⊢
    clear hg1
    generalize w.alloc _ = w1 at *
    obtain ⟨-, c1, -⟩ := ent_cells (S.out.has (Has.l (has_blk _ _ _)))
    go_wp2_with fail
    go_returns
    exact ⟨rfl, S.out.bel⟩
set_option maxRecDepth 100000 in
set_option maxHeartbeats 4000000 in
theorem great_any (n : Nod) (v : Value) (w : World) (hv : NodAt w v n) :
    Calls Tryd.prog 26 #[v] w fun e w' => (e = .returned (.bool true) ∨ (e = .returned (.bool false) ∧ n.list.length ≤ 120)) ∧ Below w.heap.size w w' := by
  obtain ⟨p, rfl, hp⟩ := hv
  obtain ⟨A1, m1, rfl⟩ := hp.slice
  have hm1 := hp.len.2
  unfold maxLen at hm1
  have HP := Lib.hid hp
  have S := Lib.hid ((Own.none w).alloc (nodCells n (.slice A1 n.list.length m1)) 64).left
  clear hp
  unfold nodCells at *
  generalize ofL n.high = hi at *
  go_enter Tryd.func26, Tryd.ntmps26
  go_upto_region 1 with fail
  obtain ⟨g, hgz⟩ : ∃ g, g = w.heap.size := ⟨_, rfl⟩
  rw [← hgz] at S ⊢
  clear hgz
  generalize w.alloc _ = w1 at *
  obtain ⟨-, -, -, -, c4, -, c6⟩ := nod_cells (S.out.has (has_blk _ _ _))
  by_cases h1 : 120 < n.list.length
  · go_wp2_with fail
    go_returns
    exact ⟨Or.inl rfl, S.out.bel⟩
  by_cases h2 : 100 < hi.size
  · go_wp2_with fail
    go_returns
    exact ⟨Or.inl rfl, S.out.bel⟩
  have H1 := Lib.hid h1
  go_wp2_with fail
  go_loop [3] (fun i => ∃ k : Nat, k ≤ n.list.length ∧ i = .int .i64 k) (fun i => n.list.length - (intOf i).toNat)
  case atStart => exact ⟨0, Nat.zero_le _, rfl⟩
  case round =>
    obtain ⟨k, hk, rfl⟩ := hrel
    by_cases hlt : k < n.list.length
    · obtain ⟨x, hx⟩ : ∃ x, n.list[k]? = some x := ⟨n.list[k]'(by omega), List.getElem?_eq_getElem _⟩
      obtain ⟨b, ob, rfl, hbl, e0, e1, -⟩ := (HP.out.keep S.out.bel).at hx
      generalize ofL x.key = y at *
      generalize ofL x.val = z at *
      clear hx
      by_cases h6 : 100 < y.size
      · go_wp2_with fail
        go_returns
        exact ⟨Or.inl rfl, S.out.bel⟩
      by_cases h7 : 200 < z.size
      · go_wp2_with fail
        go_returns
        exact ⟨Or.inl rfl, S.out.bel⟩
      · go_wp2_with fail
        go_round
        case rel => exact ⟨k + 1, by omega, by go_num⟩
        case measure => simp [intOf]; omega
    · obtain rfl : k = n.list.length := by omega
      go_wp2_with fail
      go_returns
      exact ⟨Or.inr ⟨rfl, by have := H1.out; omega⟩, S.out.bel⟩
end Go.Proofs.YtmbakcphmblobaaDoor.Nd
