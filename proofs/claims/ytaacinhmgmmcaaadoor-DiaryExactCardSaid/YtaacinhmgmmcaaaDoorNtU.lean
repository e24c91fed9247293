/- Read, whole. -/
import Derived.Test.YtaacinhmgmmcaaaDoorNtT
import Derived.Deep.CutBlock
namespace Go.Proofs.YtaacinhmgmmcaaaDoor.Nt
open Go.ChangeShapes Go.WideShapes Go.ChangeAt Go.RowKit Go.PlainAid Aid Cr
set_option linter.unusedVariables false
set_option linter.unusedSimpArgs false
def rV (o : Option (Rec × Nat)) (v : Value) : Value := match o with
  | none => .tuple #[v, .int .i64 0, .int .i64 3]
  | some q => .tuple #[v, .int .i64 (q.2 : Nat), .int .i64 0]
def rR (o : Option (Rec × Nat)) : Rec := match o with
  | none => Rec.none
  | some q => q.1
def fitO (f : Bool) (q : Rec × Nat) : Option (Rec × Nat) := if f then some q else none
theorem zero_rec (w : World) : RecAt w (.agg zeroCells) Rec.none := ⟨_, _, _, rfl, Row2.nil _ _, Row2.nil _ _, Row2.nil _ _⟩
def aZero (g : Nat) : Asn := Asn.blk g 45 zeroCells
theorem ofL_ne (l : By) : ((ofL l).toList == ([] : List UInt8)) = decide (l = []) := by
  have := str_eq (ofL l) ⟨#[]⟩
  rw [show (⟨#[]⟩ : ByteArray).toList = ([] : List UInt8) by rw [ByteArray.toList_eq]] at this
  rw [this]
  congr 1
  apply propext
  exact ⟨fun h => ofL_inj (m := []) h, fun h => by rw [h]; rfl⟩
set_option maxRecDepth 100000 in
set_option maxHeartbeats 4000000 in
theorem Read_shut (s : By) (w : World) (hs : s.length ≤ 140737488355328) (ht : Tab w) (ho : openN s = .tuple #[.string ⟨#[]⟩, .bool false]) :
    Calls Tryd.prog 39 #[.string (ofL s)] w fun e w' => e = .returned (rV none (.agg zeroCells)) ∧ Below w.heap.size w w' := by
  have S := Lib.hid ((Own.none w).alloc zeroCells 45).left
  have HT := Lib.hid ht
  have HO := Lib.hid (fun w' ht => open_any s w' hs ht)
  rw [ho] at HO
  clear ht ho
  generalize ofL s = x at *
  unfold rV
  unfold zeroCells at *
  go_enter Tryd.func39, Tryd.ntmps39
  go_wp2_with fail
  obtain ⟨gz, hgz⟩ : ∃ g, g = w.heap.size := ⟨_, rfl⟩
  rw [← hgz] at S ⊢
  clear hgz
  generalize w.alloc _ = w1 at *
  refine (HO.out _ (Tab.own HT.out S.out)).mono ?_
  rintro e w2 ⟨rfl, hX⟩
  have S1 := Lib.hid (S.out.below hX).addEmp
  clear hX S
  obtain ⟨⟨c0, c1, c2, c3, c4, c5, c6, c7, c8, c9, c10⟩, f0, f1, f2, f3, f4, f5, f6, f7, f8, f9, f10⟩ := eleven (S1.out.has (Has.l (has_blk _ _ _)))
  go_wp2_with fail
  have S2 := Lib.hid (own_eleven S1.out (.int .i64 0) (.int .i64 0) (.int .i64 0) (.int .i64 0) (.slice none 0 0) (.int .i64 0) (.int .i64 0) (.string ⟨#[]⟩) (.string ⟨#[]⟩) (.slice none 0 0) (.slice none 0 0))
  clear S1 c0 c1 c2 c3 c4 c5 c6 c7 c8 c9 c10 f0 f1 f2 f3 f4 f5 f6 f7 f8 f9 f10
  generalize World.setCell (World.setCell (World.setCell (World.setCell (World.setCell (World.setCell (World.setCell (World.setCell (World.setCell (World.setCell (World.setCell w2 _ _) _ _) _ _) _ _) _ _) _ _) _ _) _ _) _ _) _ _) _ _ = w3 at *
  obtain ⟨⟨c0, c1, c2, c3, c4, c5, c6, c7, c8, c9, c10⟩, -⟩ := eleven (S2.out.has (Has.l (has_blk _ _ _)))
  exact bodyPost_ret (v := .tuple #[.agg #[.int .i64 0, .int .i64 0, .int .i64 0, .int .i64 0, .slice none 0 0, .int .i64 0, .int .i64 0, .string ⟨#[]⟩, .string ⟨#[]⟩, .slice none 0 0, .slice none 0 0], .int .i64 0, .int .i64 3]) (by simp [results, Tryd.results39, go_sem, c0, c1, c2, c3, c4, c5, c6, c7, c8, c9, c10]) rfl ⟨rfl, S2.out.bel⟩
set_option maxRecDepth 100000 in
set_option maxHeartbeats 8000000 in
theorem Read_open (s b : By) (N : Nat) (w : World) (hs : s.length ≤ 140737488355328) (ht : Tab w) (ho : openN s = .tuple #[.string (ofL b), .bool true]) (hN : b.length = N) (hN2 : N ≤ 140737488355328) :
    Calls Tryd.prog 39 #[.string (ofL s)] w fun e w' => (∃ v, e = .returned (rV (fitO (fits (pRec ⟨b, false⟩)) ((pRec ⟨b, false⟩).1, N + 8)) v) ∧ RecAt w' v (rR (fitO (fits (pRec ⟨b, false⟩)) ((pRec ⟨b, false⟩).1, N + 8)))) ∧ Below w.heap.size w w' := by
  have S := Lib.hid ((Own.none w).alloc zeroCells 45).left
  have HT := Lib.hid ht
  have HO := Lib.hid (fun w' ht => open_any s w' hs ht)
  rw [ho] at HO
  have HR := Lib.hid (fun g => tRec g ⟨b, false⟩)
  have hzb : (ofL b).size = N := hN
  generalize pRec ⟨b, false⟩ = q at *
  obtain ⟨r, st⟩ := q
  have hfit : fits (r, st) = (!st.bad && (decide ((ofL st.rest).size = 0) && goodB r)) := by
    unfold fits
    congr 2
    rw [ofL_sz]; simp
  generalize fits (r, st) = F at *
  have HF := Lib.hid hfit
  unfold aR aSt at HR
  dsimp only at HR
  clear ht ho hN hs hfit
  generalize ofL b = y at *
  generalize ofL s = x at *
  have HG := Lib.hid (fun v w' (h : RecAt w' v r) => Good_any r v w' h)
  unfold zeroCells at *
  unfold bPtr at *
  go_enter Tryd.func39, Tryd.ntmps39
  go_wp2_with fail
  obtain ⟨gz, hgz⟩ : ∃ g, g = w.heap.size := ⟨_, rfl⟩
  rw [← hgz] at S ⊢
  clear hgz
  generalize w.alloc _ = w1 at *
  refine (HO.out _ (Tab.own HT.out S.out)).mono ?_
  rintro e w2 ⟨rfl, hX⟩
  have S1 := Lib.hid ((S.out.below hX).alloc #[.string y, .bool false] 114)
  clear hX S
  go_wp2_with fail
  obtain ⟨gr, hgz⟩ : ∃ g, g = w2.heap.size := ⟨_, rfl⟩
  rw [← hgz] at S1 ⊢
  clear hgz
  generalize w2.alloc _ = w3 at *
  refine (S1.out.callE (HR.out gr).l).mono ?_
  rintro e w4 ⟨⟨p, o, d⟩, rfl, hX⟩
  have S2 := Lib.hid hX
  clear hX S1 HR
  obtain ⟨A1, m1, rfl⟩ := S2.out.left.left.vec.slice
  obtain ⟨A2, m2, rfl⟩ := S2.out.left.left.right.vec.slice
  obtain ⟨A3, m3, rfl⟩ := S2.out.left.left.right.vecR.slice
  have S3 := Lib.hid (S2.out.alloc (recCells r (.slice A1 r.pages.length m1) (.slice A2 r.opn.length m2) (.slice A3 r.dty.length m3)) 45)
  dsimp only
  unfold recCells at *
  clear S2
  go_upto_region 6 with fail
  obtain ⟨gq, hgz⟩ : ∃ g, g = w4.heap.size := ⟨_, rfl⟩
  rw [← hgz] at S3 ⊢
  clear hgz
  generalize w4.alloc _ = w5 at *
  obtain ⟨d0, d1, -, -⟩ := st_cells (S3.out.has (Has.r (Has.l (Has.r (has_blk _ _ _)))))
  have S4 := Lib.hid S3.out.right.comm
  generalize ofL st.rest = z at *
  cases hb : st.bad with
  | true =>
    rw [hb] at d1
    obtain ⟨⟨c0, c1, c2, c3, c4, c5, c6, c7, c8, c9, c10⟩, f0, f1, f2, f3, f4, f5, f6, f7, f8, f9, f10⟩ := eleven (S4.out.has (Has.l (has_blk _ _ _)))
    go_wp2_with fail
    have hF : F = false := by rw [HF.out]; simp [hb]
    have S5 := Lib.hid (own_eleven S4.out (.int .i64 0) (.int .i64 0) (.int .i64 0) (.int .i64 0) (.slice none 0 0) (.int .i64 0) (.int .i64 0) (.string ⟨#[]⟩) (.string ⟨#[]⟩) (.slice none 0 0) (.slice none 0 0))
    clear S4 S3 c0 c1 c2 c3 c4 c5 c6 c7 c8 c9 c10 f0 f1 f2 f3 f4 f5 f6 f7 f8 f9 f10
    generalize World.setCell (World.setCell (World.setCell (World.setCell (World.setCell (World.setCell (World.setCell (World.setCell (World.setCell (World.setCell (World.setCell w5 _ _) _ _) _ _) _ _) _ _) _ _) _ _) _ _) _ _) _ _) _ _ = w6 at *
    obtain ⟨⟨c0, c1, c2, c3, c4, c5, c6, c7, c8, c9, c10⟩, -⟩ := eleven (S5.out.has (Has.l (has_blk _ _ _)))
    exact bodyPost_ret (v := .tuple #[.agg zeroCells, .int .i64 0, .int .i64 3]) (by simp [results, Tryd.results39, go_sem, zeroCells, c0, c1, c2, c3, c4, c5, c6, c7, c8, c9, c10]) rfl ⟨⟨.agg zeroCells, by rw [hF]; rfl, by rw [hF]; exact zero_rec _⟩, S5.out.bel⟩
  | false =>
    rw [hb] at d1
    by_cases hz0 : z.size = 0
    · have hze : z.toList.isEmpty = true := by rw [toList_isEmpty, decide_eq_true hz0]
      have HV := Lib.hid (lists_at S3.out.right.left.left)
      unfold recCells at HV
      dsimp only at HV
      obtain ⟨⟨c0, c1, c2, c3, c4, c5, c6, c7, c8, c9, c10⟩, -⟩ := eleven (S3.out.has (Has.l (has_blk _ _ _)))
      go_wp2_with fail
      refine (HG.out _ _ HV.out).mono ?_
      rintro e w6 ⟨rfl, hX⟩
      have S5 := Lib.hid (S3.out.below hX)
      have S6 := Lib.hid S5.out.right.comm
      clear hX S4 S3 HV c0 c1 c2 c3 c4 c5 c6 c7 c8 c9 c10 d0 d1
      cases hgb : goodB r with
      | false =>
        obtain ⟨⟨c0, c1, c2, c3, c4, c5, c6, c7, c8, c9, c10⟩, f0, f1, f2, f3, f4, f5, f6, f7, f8, f9, f10⟩ := eleven (S6.out.has (Has.l (has_blk _ _ _)))
        go_wp2_with fail
        have hF : F = false := by rw [HF.out]; simp [hgb]
        have S7 := Lib.hid (own_eleven S6.out (.int .i64 0) (.int .i64 0) (.int .i64 0) (.int .i64 0) (.slice none 0 0) (.int .i64 0) (.int .i64 0) (.string ⟨#[]⟩) (.string ⟨#[]⟩) (.slice none 0 0) (.slice none 0 0))
        clear S6 S5 c0 c1 c2 c3 c4 c5 c6 c7 c8 c9 c10 f0 f1 f2 f3 f4 f5 f6 f7 f8 f9 f10
        generalize World.setCell (World.setCell (World.setCell (World.setCell (World.setCell (World.setCell (World.setCell (World.setCell (World.setCell (World.setCell (World.setCell w6 _ _) _ _) _ _) _ _) _ _) _ _) _ _) _ _) _ _) _ _) _ _ = w7 at *
        obtain ⟨⟨c0, c1, c2, c3, c4, c5, c6, c7, c8, c9, c10⟩, -⟩ := eleven (S7.out.has (Has.l (has_blk _ _ _)))
        exact bodyPost_ret (v := .tuple #[.agg zeroCells, .int .i64 0, .int .i64 3]) (by simp [results, Tryd.results39, go_sem, zeroCells, c0, c1, c2, c3, c4, c5, c6, c7, c8, c9, c10]) rfl ⟨⟨.agg zeroCells, by rw [hF]; rfl, by rw [hF]; exact zero_rec _⟩, S7.out.bel⟩
      | true =>
        obtain ⟨⟨b0, b1, b2, b3, b4, b5, b6, b7, b8, b9, b10⟩, -⟩ := eleven (S5.out.has (Has.l (has_blk _ _ _)))
        obtain ⟨⟨c0, c1, c2, c3, c4, c5, c6, c7, c8, c9, c10⟩, f0, f1, f2, f3, f4, f5, f6, f7, f8, f9, f10⟩ := eleven (S6.out.has (Has.l (has_blk _ _ _)))
        have hF : F = true := by rw [HF.out]; simp [hb, hz0, hgb]
        have hw1 : IntKind.i64.wrap (4 + (y.size : Int)) = 4 + (y.size : Int) := by rw [IntKind.wrap_i64]; omega
        have hw2 : IntKind.i64.wrap (4 + (y.size : Int) + 4) = 4 + (y.size : Int) + 4 := by rw [IntKind.wrap_i64]; omega
        go_wp2_with fail
        have S7 := Lib.hid (own_eleven S6.out (.int .i64 r.kind) (.int .i64 r.deal) (.int .i64 r.prev) (.int .i64 r.next) (.slice A1 r.pages.length m1) (.int .i64 r.und.kind) (.int .i64 r.und.tree) (.string (ofL r.und.key)) (.string (ofL r.und.val)) (.slice A2 r.opn.length m2) (.slice A3 r.dty.length m3))
        clear S5 S6 b0 b1 b2 b3 b4 b5 b6 b7 b8 b9 b10 c0 c1 c2 c3 c4 c5 c6 c7 c8 c9 c10 f0 f1 f2 f3 f4 f5 f6 f7 f8 f9 f10
        generalize World.setCell (World.setCell (World.setCell (World.setCell (World.setCell (World.setCell (World.setCell (World.setCell (World.setCell (World.setCell (World.setCell w6 _ _) _ _) _ _) _ _) _ _) _ _) _ _) _ _) _ _) _ _) _ _ = w7 at *
        obtain ⟨⟨c0, c1, c2, c3, c4, c5, c6, c7, c8, c9, c10⟩, -⟩ := eleven (S7.out.has (Has.l (has_blk _ _ _)))
        have HV := lists_at S7.out.right.left
        unfold recCells at HV
        dsimp only at HV
        exact bodyPost_ret (v := .tuple #[.agg #[.int .i64 r.kind, .int .i64 r.deal, .int .i64 r.prev, .int .i64 r.next, .slice A1 r.pages.length m1, .int .i64 r.und.kind, .int .i64 r.und.tree, .string (ofL r.und.key), .string (ofL r.und.val), .slice A2 r.opn.length m2, .slice A3 r.dty.length m3], .int .i64 (4 + (N : Int) + 4), .int .i64 0]) (by simp [results, Tryd.results39, go_sem, c0, c1, c2, c3, c4, c5, c6, c7, c8, c9, c10]) rfl ⟨⟨_, by rw [hF, show (4 + (N : Int) + 4) = ((N + 8 : Nat) : Int) by omega]; rfl, by rw [hF]; exact HV⟩, S7.out.bel⟩
    · have hze : z.toList.isEmpty = false := by rw [toList_isEmpty, decide_eq_false hz0]
      obtain ⟨⟨c0, c1, c2, c3, c4, c5, c6, c7, c8, c9, c10⟩, f0, f1, f2, f3, f4, f5, f6, f7, f8, f9, f10⟩ := eleven (S4.out.has (Has.l (has_blk _ _ _)))
      go_wp2_with fail
      have hF : F = false := by rw [HF.out]; simp [hz0]
      have S5 := Lib.hid (own_eleven S4.out (.int .i64 0) (.int .i64 0) (.int .i64 0) (.int .i64 0) (.slice none 0 0) (.int .i64 0) (.int .i64 0) (.string ⟨#[]⟩) (.string ⟨#[]⟩) (.slice none 0 0) (.slice none 0 0))
      clear S4 S3 c0 c1 c2 c3 c4 c5 c6 c7 c8 c9 c10 f0 f1 f2 f3 f4 f5 f6 f7 f8 f9 f10
      generalize World.setCell (World.setCell (World.setCell (World.setCell (World.setCell (World.setCell (World.setCell (World.setCell (World.setCell (World.setCell (World.setCell w5 _ _) _ _) _ _) _ _) _ _) _ _) _ _) _ _) _ _) _ _) _ _ = w6 at *
      obtain ⟨⟨c0, c1, c2, c3, c4, c5, c6, c7, c8, c9, c10⟩, -⟩ := eleven (S5.out.has (Has.l (has_blk _ _ _)))
      exact bodyPost_ret (v := .tuple #[.agg zeroCells, .int .i64 0, .int .i64 3]) (by simp [results, Tryd.results39, go_sem, zeroCells, c0, c1, c2, c3, c4, c5, c6, c7, c8, c9, c10]) rfl ⟨⟨.agg zeroCells, by rw [hF]; rfl, by rw [hF]; exact zero_rec _⟩, S5.out.bel⟩

theorem Read_any (s : By) (w : World) (hs : s.length ≤ 140737488355328) (ht : Tab w) :
    Calls Tryd.prog 39 #[.string (ofL s)] w fun e w' => (∃ v, e = .returned (rV (readR s) v) ∧ RecAt w' v (rR (readR s))) ∧ Below w.heap.size w w' := by
  by_cases h1 : few s = true
  · have e1 : openN s = .tuple #[.string ⟨#[]⟩, .bool false] := by unfold openN; rw [if_pos h1]
    have e2 : readR s = none := by unfold readR; rw [if_pos h1]
    rw [e2]
    exact (Read_shut s w hs ht e1).mono fun e w' ⟨he, hb⟩ => ⟨⟨_, he, zero_rec _⟩, hb⟩
  by_cases h2 : sealedL (s.take (hd s + 8)) = false
  · have e1 : openN s = .tuple #[.string ⟨#[]⟩, .bool false] := by unfold openN; rw [if_neg h1, if_pos h2]
    have e2 : readR s = none := by unfold readR; rw [if_neg h1, if_pos h2]
    rw [e2]
    exact (Read_shut s w hs ht e1).mono fun e w' ⟨he, hb⟩ => ⟨⟨_, he, zero_rec _⟩, hb⟩
  have e1 : openN s = .tuple #[.string (ofL (inner s)), .bool true] := by unfold openN; rw [if_neg h1, if_neg h2]
  have e2 : readR s = fitO (fits (pRec ⟨inner s, false⟩)) ((pRec ⟨inner s, false⟩).1, hd s + 8) := by unfold readR; rw [if_neg h1, if_neg h2]; rfl
  rw [e2]
  obtain ⟨h4, h8⟩ := few_no h1
  exact Read_open s (inner s) (hd s) w hs ht e1 (inner_len s h8) (by omega)
end Go.Proofs.YtaacinhmgmmcaaaDoor.Nt
