/- Texts of ours, joined. -/
import Derived.Test.YtapdpdhibpblgaaGreatDoorNdW
import Derived.Test.YtapdpdhibpblgaaGreatDoorNdR

-- joined
section
namespace Go.Proofs.YtapdpdhibpblgaaGreatDoor.Nd
open Go.ChangeShapes Go.WideShapes Go.ChangeAt Go.RowKit Go.PlainAid Aid Cr Nt
set_option linter.unusedVariables false
set_option linter.unusedSimpArgs false
theorem sealS_ofL (l : By) : sealS (ofL l) = ofL (l ++ tailL (crc l)) := rfl
theorem page_ne (n : Nod) (h : fitsB n = true) : page n ≠ [] := fun e => by have := page_len h; rw [e] at this; cases this
set_option maxRecDepth 100000 in
set_option maxHeartbeats 4000000 in
theorem page_any (w0 w : World) (g : Nat) (n : Nod) (v : Value) (hf : fitsB n = true) (hv : NodAt w0 v n) (ht : Tab w0) (S : Own w0 No w (aBlk 203 g (.pointer none) (.slice none 0 0))) :
    Calls Tryz.prog 121 #[bPtr g, v] w fun e w' => e = .returned (.string (ofL (bytes n))) ∧ Below w0.heap.size w0 w' := by
  have hg := (fits_good hf).1
  have E1 := Lib.hid (fun w' (S : Own w0 No w' (aN g [])) => nod_write w0 w' g [] n v (goods hg) hv S (by decide))
  rw [List.nil_append] at E1
  have EG := Lib.hid (bGrow 203 bldW g 252 (by decide) (by decide))
  have EZ := Lib.hid (tZeros g (body n) 252 (by rw [body_len (goods hg)]; have := (fits_good hf).2; omega))
  rw [show body n ++ List.replicate (252 - (body n).length) 0 = page n from rfl] at EZ
  have EQ := Lib.hid (bString 203 g (page n) (page_ne n hf))
  have ET : Hid (∀ w', Below w0.heap.size w0 w' → Tab w') := Lib.hid (fun w' hb => by
    obtain ⟨h1, h2⟩ := ht
    exact ⟨by have := hb.size; omega, fun i hi => by rw [(bcell hb).1 _ _ h1]; exact h2 i hi⟩)
  have ES := Lib.hid (fun w' (ht : Tab w') => Seal_any (ofL (page n)) w' (by show (page n).length ≤ _; rw [page_len hf]; decide) ht)
  rw [sealS_ofL, show page n ++ tailL (crc (page n)) = bytes n from rfl] at ES
  obtain ⟨p, rfl, hp⟩ := hv
  obtain ⟨A1, m1, rfl⟩ := hp.slice
  have S0 := Lib.hid (S.alloc (nodCells n (.slice A1 n.list.length m1)) 31)
  clear S hf hg hp ht
  generalize page n = pg at *
  generalize ofL pg = x1 at *
  generalize ofL (bytes n) = x2 at *
  unfold nodCells at *
  unfold bPtr at *
  go_enter Tryz.func121, Tryz.ntmps121
  go_wp2_with fail
  obtain ⟨gr, hgz⟩ : ∃ g, g = w.heap.size := ⟨_, rfl⟩
  rw [← hgz] at S0 ⊢
  clear hgz
  generalize w.alloc _ = w1 at *
  refine (S0.out.call EG.out.r).mono ?_
  rintro e w2 ⟨rfl, hX⟩
  have S1 := Lib.hid hX
  clear hX S0
  obtain ⟨c0, c1, c2, c3, c4, c5, c6⟩ := nod_cells (S1.out.has (Has.l (has_blk _ _ _)))
  go_wp2_with fail
  refine (E1.out _ S1.out.right).mono ?_
  rintro e w3 ⟨rfl, hX⟩
  have S2 := Lib.hid hX
  clear hX S1 c0 c1 c2 c3 c4 c5 c6
  go_wp2_with fail
  refine (S2.out.call (EZ.out)).mono ?_
  rintro e w4 ⟨rfl, hX⟩
  have S3 := Lib.hid hX
  clear hX S2 
  go_wp2_with fail
  refine (S3.out.call (EQ.out)).mono ?_
  rintro e w5 ⟨rfl, hX⟩
  have S4 := Lib.hid hX
  clear hX S3 
  go_wp2_with fail
  refine (ES.out _ (ET.out _ S4.out.bel)).mono ?_
  rintro e w6 ⟨rfl, hX⟩
  have S5 := Lib.hid (S4.out.below hX)
  clear hX S4 
  go_wp2_with fail
  go_returns
  exact ⟨rfl, S5.out.bel⟩
def bytesV (n : Nod) : Value := if fitsB n then .tuple #[.string (ofL (bytes n)), .int .i64 0] else if goodB n then .tuple #[.string ⟨#[]⟩, .int .i64 5] else .tuple #[.string ⟨#[]⟩, .int .i64 1]
set_option maxRecDepth 100000 in
set_option maxHeartbeats 4000000 in
theorem Bytes_any (n : Nod) (v : Value) (w : World) (hv : NodAt w v n) (ht : Tab w) :
    Calls Tryz.prog 80 #[v] w fun e w' => e = .returned (bytesV n) ∧ Below w.heap.size w w' := by
  have E1 : Hid (∀ w', Below w.heap.size w w' → _) := Lib.hid (fun w' (hb : Below w.heap.size w w') => Good_any n v w' (hv.keep hb))
  have E2 : Hid (∀ w', Below w.heap.size w w' → _) := Lib.hid (fun w' (hb : Below w.heap.size w w') => Fits_any n v w' (hv.keep hb))
  have E3 := Lib.hid (fun (hf : fitsB n = true) g w' S => page_any w w' g n v hf hv ht S)
  have HFG : Hid (goodB n = false → fitsB n = false) := Lib.hid (fun h => by unfold fitsB; rw [h]; rfl)
  obtain ⟨p, rfl, hp⟩ := hv
  obtain ⟨A1, m1, rfl⟩ := hp.slice
  have S := Lib.hid ((Own.none w).alloc (nodCells n (.slice A1 n.list.length m1)) 31).left
  obtain ⟨R, hR⟩ : ∃ R, R = bytesV n := ⟨_, rfl⟩
  rw [← hR]
  unfold bytesV at hR
  have HR := Lib.hid hR
  clear hR hp ht
  generalize goodB n = b1 at *
  generalize fitsB n = b2 at *
  generalize ofL (bytes n) = x at *
  unfold nodCells at *
  unfold bPtr at *
  go_enter Tryz.func80, Tryz.ntmps80
  go_upto_region 1 with fail
  obtain ⟨g, hgz⟩ : ∃ g, g = w.heap.size := ⟨_, rfl⟩
  rw [← hgz] at S ⊢
  clear hgz
  generalize w.alloc _ = w1 at *
  obtain ⟨c0, c1, c2, c3, c4, c5, c6⟩ := nod_cells (S.out.has (has_blk _ _ _))
  go_wp2_with fail
  refine (E1.out _ S.out.bel).mono ?_
  rintro e w2 ⟨rfl, hX⟩
  have T := Lib.hid (S.out.below hX)
  clear hX S c0 c1 c2 c3 c4 c5 c6
  cases b1
  · have hq : Hid (R = .tuple #[.string ⟨#[]⟩, .int .i64 1]) := Lib.hid (by rw [HR.out, HFG.out (by first | rfl | trivial)]; rfl)
    go_wp2_with fail
    go_returns
    exact ⟨ret_val hq.out.symm, T.out.bel⟩
  obtain ⟨c0, c1, c2, c3, c4, c5, c6⟩ := nod_cells (T.out.has (has_blk _ _ _))
  go_wp2_with fail
  refine (E2.out _ T.out.bel).mono ?_
  rintro e w3 ⟨rfl, hX⟩
  have U := Lib.hid (T.out.below hX)
  clear hX T c0 c1 c2 c3 c4 c5 c6
  cases b2
  · have hq : Hid (R = .tuple #[.string ⟨#[]⟩, .int .i64 5]) := Lib.hid (by rw [HR.out]; rfl)
    go_wp2_with fail
    go_returns
    exact ⟨ret_val hq.out.symm, U.out.bel⟩
  have U1 := Lib.hid (U.out.alloc #[.pointer none, .slice none 0 0] 203)
  have hq : Hid (R = .tuple #[.string x, .int .i64 0]) := Lib.hid (by rw [HR.out]; rfl)
  clear U
  obtain ⟨gb, hgb⟩ : ∃ g, g = w3.heap.size := ⟨_, rfl⟩
  go_upto_region 6 with fail
  rw [← hgb] at U1 ⊢
  clear hgb
  generalize w3.alloc _ = w4 at *
  obtain ⟨c0, c1, c2, c3, c4, c5, c6⟩ := nod_cells (U1.out.has (Has.r (has_blk _ _ _)))
  go_wp2_with fail
  refine (E3.out (by first | rfl | trivial) gb _ U1.out.left).mono ?_
  rintro e w5 ⟨rfl, hX⟩
  have B := Lib.hid hX
  clear hX U1 c0 c1 c2 c3 c4 c5 c6
  go_wp2_with fail
  go_returns
  exact ⟨ret_val hq.out.symm, B.out⟩
theorem Bytes_fits (n : Nod) (v : Value) (w : World) (hv : NodAt w v n) (hf : fitsB n = true) (ht : Tab w) :
    Calls Tryz.prog 80 #[v] w fun e w' => e = .returned (.tuple #[.string (ofL (bytes n)), .int .i64 0]) ∧ Below w.heap.size w w' := by
  have := Bytes_any n v w hv ht
  unfold bytesV at this
  rw [hf, if_pos rfl] at this
  exact this
end Go.Proofs.YtapdpdhibpblgaaGreatDoor.Nd
end

-- joined
section
namespace Go.Proofs.YtapdpdhibpblgaaGreatDoor.Nd
open Go.ChangeShapes Go.WideShapes Go.ChangeAt Go.RowKit Go.PlainAid Aid Cr Nt
set_option linter.unusedVariables false
set_option linter.unusedSimpArgs false
theorem Row3.of_vec {w : World} {e : TypeId} {v : Value} {l : List Ent} (h : Vec w e 3 v l.length (cells3 l)) : Row3 w v l := by
  rcases h.forms with ⟨rfl, h0⟩ | ⟨g, cap, rfl, hg, hn, hc⟩
  · have : l = [] := List.eq_nil_of_length_eq_zero h0
    subst this
    exact Row3.nil w
  · refine ⟨_, _, rfl, by omega, Or.inr ⟨g, 0, rfl, hg, fun k x hx => ?_⟩⟩
    have key : ∀ (l : List Ent) (k : Nat) (x : Ent), l[k]? = some x → (cells3 l)[k * 3]? = some (.string (ofL x.key)) ∧ (cells3 l)[k * 3 + 1]? = some (.string (ofL x.val)) ∧ (cells3 l)[k * 3 + 2]? = some (.bool x.ghost) := by
      intro l
      induction l with
      | nil => intro k x hx; cases hx
      | cons a l ih =>
        intro k x hx
        have e : cells3 (a :: l) = .string (ofL a.key) :: .string (ofL a.val) :: .bool a.ghost :: cells3 l := by simp [cells3]
        cases k with
        | zero => simp at hx; subst hx; rw [e]; simp
        | succ k =>
          simp only [List.getElem?_cons_succ] at hx
          have := ih k x hx
          rw [e, show (k + 1) * 3 = k * 3 + 1 + 1 + 1 by omega]
          simpa using this
    obtain ⟨h1, h2, h3⟩ := key l k x hx
    rw [Nat.zero_add]
    exact ⟨h.cell h1, h.cell h2, h.cell h3⟩
theorem ents_at {w0 w : World} {O0 : Nat → Prop} {n : Nod} {v : Value} (h : Own w0 O0 w (aEnts n v)) : NodAt w (.agg (nodCells n v)) n :=
  ⟨_, rfl, Row3.of_vec h.addEmp.vec⟩
def rV (o : Option Nod) (v : Value) : Value := match o with
  | none => .tuple #[v, .int .i64 3]
  | some _ => .tuple #[v, .int .i64 0]
def rN (o : Option Nod) : Nod := match o with
  | none => Nod.none
  | some n => n
theorem none_ents {w0 w : World} {O0 : Nat → Prop} {A : Asn} (h : Own w0 O0 w A) : Own w0 O0 w (aEnts Nod.none (.slice none 0 0) * A) := h.nilVec 83 3
set_option maxRecDepth 100000 in
set_option maxHeartbeats 8000000 in
theorem Read_own (s : By) (w : World) (ht : Tab w) :
    Calls Tryz.prog 84 #[.string (ofL s)] w fun e w' => ∃ v, e = .returned (rV (readN s) (.agg (nodCells (rN (readN s)) v))) ∧ Own w No w' (aEnts (rN (readN s)) v) := by
  have HT := Lib.hid ht
  have hsz : ∀ cs T, (w.alloc (.cells cs T)).heap.size = w.heap.size + 1 := fun cs T => by simp
  have S := Lib.hid (((Own.none w).alloc zero7 31).left.alloc #[.string (ofL s), .bool false] 206)
  rw [hsz] at S
  clear hsz
  have HR := Lib.hid (fun g => tNod g ⟨s, false⟩)
  unfold readN
  generalize (pNod ⟨s, false⟩).1 = n at *
  generalize (pNod ⟨s, false⟩).2 = st at *
  have HB := Lib.hid (fun v w' (h : NodAt w' v n) ht => Bytes_any n v w' h ht)
  obtain ⟨R, hR⟩ : ∃ R : Option Nod, R = if (fitsB n && decide (bytes n = s)) = true then some n else none := ⟨_, rfl⟩
  rw [← hR]
  have hpg := str_eq (ofL (bytes n)) (ofL s)
  have hpq : decide (ofL (bytes n) = ofL s) = decide (bytes n = s) := decide_eq_decide.2 ⟨ofL_inj, fun h => by rw [h]⟩
  rw [hpq] at hpg
  clear hpq ht
  unfold aR aSt at HR
  dsimp only at HR
  have HE := Lib.hid (show bytesV n = if fitsB n then .tuple #[.string (ofL (bytes n)), .int .i64 0] else if goodB n then .tuple #[.string ⟨#[]⟩, .int .i64 5] else .tuple #[.string ⟨#[]⟩, .int .i64 1] from rfl)
  generalize bytesV n = bv at *
  generalize decide (bytes n = s) = q at *
  generalize ofL (bytes n) = x1 at *
  generalize ofL s = x at *
  have HQ := Lib.hid hR
  have HP := Lib.hid hpg
  clear hR hpg
  unfold zero7 at *
  unfold bPtr at *
  go_enter Tryz.func84, Tryz.ntmps84
  go_upto_region 2 with fail
  obtain ⟨g4, hg4⟩ : ∃ g, g = w.heap.size + 1 := ⟨_, rfl⟩
  rw [← hg4] at S ⊢
  obtain ⟨g2, hg2⟩ : ∃ g, g = w.heap.size := ⟨_, rfl⟩
  rw [← hg2] at S ⊢
  clear hg2 hg4
  generalize (w.alloc _).alloc _ = w1 at *
  go_wp2_with fail
  refine (S.out.callE (HR.out g4).l).mono ?_
  rintro e w2 ⟨v, rfl, hX⟩
  obtain ⟨A1, m1, rfl⟩ := hX.left.left.addEmp.vec.slice
  have S2 := Lib.hid (hX.alloc (nodCells n (.slice A1 n.list.length m1)) 31)
  clear hX S HR
  unfold nodCells at *
  go_upto_region 3 with fail
  obtain ⟨g5, hgz⟩ : ∃ g, g = w2.heap.size := ⟨_, rfl⟩
  rw [← hgz] at S2 ⊢
  clear hgz
  generalize w2.alloc _ = w3 at *
  obtain ⟨⟨c0, c1, c2, c3, c4, c5, c6⟩, -⟩ := seven (S2.out.has (Has.l (has_blk _ _ _)))
  have HV := Lib.hid (ents_at S2.out.right.left.left)
  unfold nodCells at HV
  go_wp2_with fail
  refine (HB.out _ _ HV.out (Tab.own HT.out S2.out)).mono ?_
  rintro e w5 ⟨rfl, hX⟩
  have S5 := Lib.hid (S2.out.below hX)
  clear hX S2 HB HV c0 c1 c2 c3 c4 c5 c6
  have SX := Lib.hid S5.out.right.comm
  have he := HE.out
  cases hf : fitsB n with
  | false =>
    have hq : Hid (R = none) := Lib.hid (by rw [HQ.out, hf]; rfl)
    rw [hf, if_neg (by decide)] at he
    clear hf
    cases hgd : goodB n with
    | false =>
      rw [hgd, if_neg (by decide)] at he
      subst he
      obtain ⟨⟨d0, d1, d2, d3, d4, d5, d6⟩, f0, f1, f2, f3, f4, f5, f6⟩ := seven (SX.out.has (Has.l (has_blk _ _ _)))
      go_wp2_with fail
      have T1 := Lib.hid (own_seven SX.out (.int .i64 0) (.int .i64 0) (.int .i64 0) (.bool false) (.string ⟨#[]⟩) (.int .i64 0) (.slice none 0 0))
      clear SX d0 d1 d2 d3 d4 d5 d6 f0 f1 f2 f3 f4 f5 f6
      generalize World.setCell (World.setCell (World.setCell (World.setCell (World.setCell (World.setCell (World.setCell w5 _ _) _ _) _ _) _ _) _ _) _ _) _ _ = w6 at *
      obtain ⟨⟨c0, c1, c2, c3, c4, c5, c6⟩, -⟩ := seven (T1.out.has (Has.l (has_blk _ _ _)))
      have TN : Hid (Own w No w6 (aEnts Nod.none (.slice none 0 0))) := Lib.hid (none_ents T1.out).left
      exact bodyPost_ret (v := .tuple #[.agg #[.int .i64 0, .int .i64 0, .int .i64 0, .bool false, .string ⟨#[]⟩, .int .i64 0, .slice none 0 0], .int .i64 3]) (by simp [results, Tryz.results84, go_sem, c0, c1, c2, c3, c4, c5, c6]) rfl ⟨.slice none 0 0, by rw [hq.out]; rfl, by rw [hq.out]; exact TN.out⟩
    | true =>
      rw [hgd, if_pos rfl] at he
      subst he
      obtain ⟨⟨d0, d1, d2, d3, d4, d5, d6⟩, f0, f1, f2, f3, f4, f5, f6⟩ := seven (SX.out.has (Has.l (has_blk _ _ _)))
      go_wp2_with fail
      have T1 := Lib.hid (own_seven SX.out (.int .i64 0) (.int .i64 0) (.int .i64 0) (.bool false) (.string ⟨#[]⟩) (.int .i64 0) (.slice none 0 0))
      clear SX d0 d1 d2 d3 d4 d5 d6 f0 f1 f2 f3 f4 f5 f6
      generalize World.setCell (World.setCell (World.setCell (World.setCell (World.setCell (World.setCell (World.setCell w5 _ _) _ _) _ _) _ _) _ _) _ _) _ _ = w6 at *
      obtain ⟨⟨c0, c1, c2, c3, c4, c5, c6⟩, -⟩ := seven (T1.out.has (Has.l (has_blk _ _ _)))
      have TN : Hid (Own w No w6 (aEnts Nod.none (.slice none 0 0))) := Lib.hid (none_ents T1.out).left
      exact bodyPost_ret (v := .tuple #[.agg #[.int .i64 0, .int .i64 0, .int .i64 0, .bool false, .string ⟨#[]⟩, .int .i64 0, .slice none 0 0], .int .i64 3]) (by simp [results, Tryz.results84, go_sem, c0, c1, c2, c3, c4, c5, c6]) rfl ⟨.slice none 0 0, by rw [hq.out]; rfl, by rw [hq.out]; exact TN.out⟩
  | true =>
    rw [hf, if_pos rfl] at he
    subst he
    have hp := HP.out
    cases q with
    | false =>
      have hq : Hid (R = none) := Lib.hid (by rw [HQ.out, hf]; rfl)
      obtain ⟨⟨d0, d1, d2, d3, d4, d5, d6⟩, f0, f1, f2, f3, f4, f5, f6⟩ := seven (SX.out.has (Has.l (has_blk _ _ _)))
      go_wp2_with fail
      have T1 := Lib.hid (own_seven SX.out (.int .i64 0) (.int .i64 0) (.int .i64 0) (.bool false) (.string ⟨#[]⟩) (.int .i64 0) (.slice none 0 0))
      clear SX d0 d1 d2 d3 d4 d5 d6 f0 f1 f2 f3 f4 f5 f6
      generalize World.setCell (World.setCell (World.setCell (World.setCell (World.setCell (World.setCell (World.setCell w5 _ _) _ _) _ _) _ _) _ _) _ _) _ _ = w6 at *
      obtain ⟨⟨c0, c1, c2, c3, c4, c5, c6⟩, -⟩ := seven (T1.out.has (Has.l (has_blk _ _ _)))
      have TN : Hid (Own w No w6 (aEnts Nod.none (.slice none 0 0))) := Lib.hid (none_ents T1.out).left
      exact bodyPost_ret (v := .tuple #[.agg #[.int .i64 0, .int .i64 0, .int .i64 0, .bool false, .string ⟨#[]⟩, .int .i64 0, .slice none 0 0], .int .i64 3]) (by simp [results, Tryz.results84, go_sem, c0, c1, c2, c3, c4, c5, c6]) rfl ⟨.slice none 0 0, by rw [hq.out]; rfl, by rw [hq.out]; exact TN.out⟩
    | true =>
      have hq : Hid (R = some n) := Lib.hid (by rw [HQ.out, hf]; rfl)
      obtain ⟨⟨c0, c1, c2, c3, c4, c5, c6⟩, -⟩ := seven (S5.out.has (Has.l (has_blk _ _ _)))
      obtain ⟨⟨d0, d1, d2, d3, d4, d5, d6⟩, f0, f1, f2, f3, f4, f5, f6⟩ := seven (SX.out.has (Has.l (has_blk _ _ _)))
      go_wp2_with fail
      have T1 := Lib.hid (own_seven SX.out (.int .i64 n.tree) (.int .i64 n.level) (.int .i64 n.stamp) (.bool n.has) (.string (ofL n.high)) (.int .i64 n.right) (.slice A1 n.list.length m1))
      clear SX S5 c0 c1 c2 c3 c4 c5 c6 d0 d1 d2 d3 d4 d5 d6 f0 f1 f2 f3 f4 f5 f6
      generalize World.setCell (World.setCell (World.setCell (World.setCell (World.setCell (World.setCell (World.setCell w5 _ _) _ _) _ _) _ _) _ _) _ _) _ _ = w6 at *
      obtain ⟨⟨c0, c1, c2, c3, c4, c5, c6⟩, -⟩ := seven (T1.out.has (Has.l (has_blk _ _ _)))
      exact bodyPost_ret (v := .tuple #[.agg #[.int .i64 n.tree, .int .i64 n.level, .int .i64 n.stamp, .bool n.has, .string (ofL n.high), .int .i64 n.right, .slice A1 n.list.length m1], .int .i64 0]) (by simp [results, Tryz.results84, go_sem, c0, c1, c2, c3, c4, c5, c6]) rfl ⟨.slice A1 n.list.length m1, by rw [hq.out]; rfl, by rw [hq.out]; exact T1.out.right.left⟩
theorem Read_any (s : By) (w : World) (ht : Tab w) :
    Calls Tryz.prog 84 #[.string (ofL s)] w fun e w' => (∃ v, e = .returned (rV (readN s) v) ∧ NodAt w' v (rN (readN s))) ∧ Below w.heap.size w w' :=
  (Read_own s w ht).mono fun e w' ⟨v, he, ho⟩ => ⟨⟨_, he, ents_at ho⟩, ho.bel⟩
end Go.Proofs.YtapdpdhibpblgaaGreatDoor.Nd
end
