/- Texts of ours, joined. -/
import Derived.Test.YtapdpdhibpblgaaGreatDoorDyB
import Derived.Test.YtapdpdhibpblgaaGreatDoorNtU

-- joined
section
namespace Go.Proofs.YtapdpdhibpblgaaGreatDoor.Nt
open Go.ChangeShapes Go.WideShapes Go.ChangeAt Go.RowKit Go.PlainAid Aid Cr
set_option linter.unusedVariables false
set_option linter.unusedSimpArgs false
theorem rb_ownO {w W W' : World} {O : Nat → Prop} {A : Asn} (hb : Below W.heap.size W W') (h : Hid (Own w O W A)) : Hid (Own w O W' A) := Lib.hid (h.out.below hb)
section
variable (g gr m size : Nat) (v : Value) (L : List Rec) (safe held : Nat)
set_option maxRecDepth 100000 in
set_option maxHeartbeats 1000000 in
theorem tSafe (a : Nat) (y : ByteArray) (ha : a ≤ 1099511627776) (hy : y.size ≤ 1099511627776) :
    Tr Tryz.prog 56 #[lPtr g, .agg #[.int .i64 a, .string y]] (aLg g gr m size v L safe held) (.bool (decide ((a : Int) - 1 + y.size ≤ safe))) (aLg g gr m size v L safe held) := by
  intro w O hA
  have HE := Lib.hid (fun w => end_any a y w ha hy)
  have S := Lib.hid ((Own.start hA).alloc #[.int .i64 a, .string y] 93)
  have F : Hid (∀ W, Hid (Own w O W (Asn.blk w.heap.size 93 #[.int .i64 a, .string y] * aLg g gr m size v L safe held)) → W.cell? ⟨w.heap.size, 0, none⟩ = some (.int .i64 a) ∧ W.cell? ⟨w.heap.size, 1, none⟩ = some (.string y) ∧ W.cell? ⟨g, 0, none⟩ = some (.pointer (some ⟨gr, 0, none⟩))) :=
    Lib.hid fun W h => ⟨(two_wr (h.out.has (Has.l (has_blk _ _ _)))).1, (two_wr (h.out.has (Has.l (has_blk _ _ _)))).2.1, (lg_cells (h.out.has (Has.r (Has.l (Has.l (has_blk _ _ _)))))).1⟩
  have HL := Lib.hid (Rl.qSafe gr m size (ofL (flat L)) safe)
  clear hA ha hy
  generalize ((a : Int) - 1 + y.size) = E at *
  unfold lPtr at *
  go_enter Tryz.func56, Tryz.ntmps56
  go_upto_region 1 with fail
  obtain ⟨gx, hgz⟩ : ∃ g, g = w.heap.size := ⟨_, rfl⟩
  rw [← hgz] at S F ⊢
  clear hgz
  generalize w.alloc _ = w1 at *
  have SD := Lib.hid S.out.drew
  have t0 := F.out _ SD
  go_region_held3 (fun W => (W.cell? ⟨gx, 0, none⟩ = some (.int .i64 a) ∧ W.cell? ⟨gx, 1, none⟩ = some (.string y) ∧ W.cell? ⟨g, 0, none⟩ = some (.pointer (some ⟨gr, 0, none⟩))) ∧ Hid (Own w O W (Asn.blk gx 93 #[.int .i64 a, .string y] * aLg g gr m size v L safe held))) (first | exact ⟨t0, SD⟩ | exact ⟨t20, s20⟩ | exact ⟨t21, s21⟩ | exact ⟨F.out _ (by assumption), by assumption⟩) (first | (go_at_call 68; refine (HE.out _).mono ?_; rintro e w20 ⟨rfl, hb20⟩; have s20 := rb_ownO hb20 (by assumption); have t20 := F.out _ s20) | (go_at_call 95; have sx : Hid (Own w O _ (Asn.blk gx 93 #[.int .i64 a, .string y] * aLg g gr m size v L safe held)) := (by assumption); refine (sx.out.ask HL.out.r.r).mono ?_; rintro e w21 ⟨rfl, k21, rfl⟩; have s21 := Lib.hid (sx.out.drewN k21); have t21 := F.out _ s21))
  have S2 := Lib.hid s21.out.right
  clear sx s20 t20 s21 t21 SD t0 S F hb20
  generalize w20.drewN k21 = w3 at *
  go_wp2_with fail
  go_returns
  exact ⟨rfl, S2.out⟩
set_option maxRecDepth 100000 in
set_option maxHeartbeats 1000000 in
theorem qRoom (hh : held ≤ 262144) :
    Qt Tryz.prog 29 #[lPtr g] (aLg g gr m size v L safe held) (.int .i64 ((size : Int) - (flat L).length - held)) := by
  intro w O hA
  have S := Lib.hid (Own.start hA)
  obtain ⟨k1, k2, k3⟩ := lg_fits S.out
  have HL := Lib.hid (Rl.qLeft gr m size (ofL (flat L)) safe)
  rw [ofL_sz] at HL
  have hw : IntKind.i64.wrap ((size : Int) - (flat L).length - held) = (size : Int) - (flat L).length - held := by rw [IntKind.wrap_i64]; omega
  obtain ⟨c0, c1, c2, -, -⟩ := lg_cells (S.out.has (Has.l (Has.l (has_blk _ _ _))))
  clear hA
  unfold lPtr at *
  go_enter Tryz.func29, Tryz.ntmps29
  go_wp2_with fail
  go_quiet ((go_at_call 67; exact Calls.quiet_of ((S.out.drewN _).ask HL.out.r)))
  go_wp2_with fail
  go_returns
  exact ⟨by first | rfl | rw [hw], _, rfl⟩
end
end Go.Proofs.YtapdpdhibpblgaaGreatDoor.Nt
end

-- joined
section
namespace Go.Proofs.YtapdpdhibpblgaaGreatDoor.Nt
open Go.ChangeShapes Go.WideShapes Go.ChangeAt Go.RowKit Go.PlainAid Aid Cr
set_option linter.unusedVariables false
set_option linter.unusedSimpArgs false
section
variable (g gr m size : Nat) (v : Value) (L : List Rec) (safe held : Nat)
set_option maxRecDepth 100000 in
set_option maxHeartbeats 1000000 in
theorem tIsSafe_miss (x : Int) (hx : ∀ k, k < L.length → (at_ L k : Int) ≠ x) :
    Tr Tryz.prog 22 #[lPtr g, .int .i64 x] (aLg g gr m size v L safe held) (.bool false) (aLg g gr m size v L safe held) := by
  intro w O hA
  have HF := Lib.hid (tFind_miss g gr m size v L safe held x hx)
  have S := Lib.hid (Own.start hA)
  clear hA hx
  unfold lPtr noWr at *
  go_enter Tryz.func22, Tryz.ntmps22
  go_wp2_with fail
  refine (S.out.call (HF.out)).mono ?_
  rintro e w1 ⟨rfl, hX⟩
  have S1 := Lib.hid hX
  clear hX S 
  go_wp2_with fail
  go_returns
  exact ⟨rfl, (S1.out.alloc noWr 93).right⟩
set_option maxRecDepth 100000 in
set_option maxHeartbeats 1000000 in
theorem tIsSafe_hit (k : Nat) (r : Rec) (hk : L[k]? = some r) :
    Tr Tryz.prog 22 #[lPtr g, .int .i64 (at_ L k)] (aLg g gr m size v L safe held) (.bool (decide (at_ L k + (bytes r).length ≤ safe + 1))) (aLg g gr m size v L safe held) := by
  intro w O hA
  have HF := Lib.hid (tFind_hit g gr m size v L safe held k r hk)
  have S := Lib.hid (Own.start hA)
  obtain ⟨k1, k2, k3⟩ := lg_fits S.out
  have he := at_end L k r hk
  have HS := Lib.hid (tSafe g gr m size v L safe held (at_ L k) (ofL (bytes r)) (by omega) (by rw [ofL_sz]; omega))
  have hd : decide (((at_ L k : Nat) : Int) - 1 + ((ofL (bytes r)).size : Int) ≤ (safe : Int)) = decide (at_ L k + (bytes r).length ≤ safe + 1) := by
    rw [ofL_sz]; congr 1; apply propext; omega
  rw [hd] at HS
  clear hA hk he hd
  unfold lPtr wrV at *
  generalize at_ L k = a at *
  generalize ofL (bytes r) = y at *
  generalize decide (a + (bytes r).length ≤ safe + 1) = B at *
  go_enter Tryz.func22, Tryz.ntmps22
  go_wp2_with fail
  refine (S.out.call (HF.out)).mono ?_
  rintro e w1 ⟨rfl, hX⟩
  have S1 := Lib.hid hX
  clear hX S 
  have S2 := Lib.hid (S1.out.alloc #[.int .i64 a, .string y] 93)
  clear S1
  go_wp2_with fail
  obtain ⟨gx, hgz⟩ : ∃ g, g = w1.heap.size := ⟨_, rfl⟩
  rw [← hgz] at S2 ⊢
  clear hgz
  generalize w1.alloc _ = w2 at *
  refine (S2.out.call HS.out.r).mono ?_
  rintro e w3 ⟨rfl, hX⟩
  have S3 := Lib.hid hX
  clear hX S2 HS
  go_wp2_with fail
  go_returns
  exact ⟨rfl, S3.out.right⟩
set_option maxRecDepth 100000 in
set_option maxHeartbeats 1000000 in
theorem tForce_miss (x : Int) (hx : ∀ k, k < L.length → (at_ L k : Int) ≠ x) :
    Tr Tryz.prog 79 #[lPtr g, .int .i64 x] (aLg g gr m size v L safe held) (.int .i64 1) (aLg g gr m size v L safe held) := by
  intro w O hA
  have HF := Lib.hid (tFind_miss g gr m size v L safe held x hx)
  have S := Lib.hid (Own.start hA)
  clear hA hx
  unfold lPtr noWr at *
  go_enter Tryz.func79, Tryz.ntmps79
  go_wp2_with fail
  refine (S.out.call (HF.out)).mono ?_
  rintro e w1 ⟨rfl, hX⟩
  have S1 := Lib.hid hX
  clear hX S 
  go_wp2_with fail
  go_returns
  exact ⟨rfl, (S1.out.alloc noWr 93).right⟩
set_option maxRecDepth 100000 in
set_option maxHeartbeats 1000000 in
theorem tForce_safe (k : Nat) (r : Rec) (hk : L[k]? = some r) (hs : at_ L k + (bytes r).length ≤ safe + 1) :
    Tr Tryz.prog 79 #[lPtr g, .int .i64 (at_ L k)] (aLg g gr m size v L safe held) (.int .i64 0) (aLg g gr m size v L safe held) := by
  intro w O hA
  have HF := Lib.hid (tFind_hit g gr m size v L safe held k r hk)
  have S := Lib.hid (Own.start hA)
  obtain ⟨k1, k2, k3⟩ := lg_fits S.out
  have he := at_end L k r hk
  have HS := Lib.hid (tSafe g gr m size v L safe held (at_ L k) (ofL (bytes r)) (by omega) (by rw [ofL_sz]; omega))
  have hd : decide (((at_ L k : Nat) : Int) - 1 + ((ofL (bytes r)).size : Int) ≤ (safe : Int)) = true := by
    rw [ofL_sz]; simp only [decide_eq_true_eq]; omega
  rw [hd] at HS
  clear hA hk he hd hs
  unfold lPtr wrV at *
  generalize at_ L k = a at *
  generalize ofL (bytes r) = y at *
  go_enter Tryz.func79, Tryz.ntmps79
  go_wp2_with fail
  refine (S.out.call (HF.out)).mono ?_
  rintro e w1 ⟨rfl, hX⟩
  have S1 := Lib.hid hX
  clear hX S 
  have S2 := Lib.hid (S1.out.alloc #[.int .i64 a, .string y] 93)
  clear S1
  go_upto_region 6 with fail
  obtain ⟨gx, hgz⟩ : ∃ g, g = w1.heap.size := ⟨_, rfl⟩
  rw [← hgz] at S2 ⊢
  clear hgz
  generalize w1.alloc _ = w2 at *
  obtain ⟨c0, c1, -, -⟩ := two_wr (S2.out.has (Has.l (has_blk _ _ _)))
  go_wp2_with fail
  refine (S2.out.call HS.out.r).mono ?_
  rintro e w3 ⟨rfl, hX⟩
  have S3 := Lib.hid hX
  clear hX S2 HS c0 c1
  go_wp2_with fail
  go_returns
  exact ⟨rfl, S3.out.right⟩
set_option maxRecDepth 100000 in
set_option maxHeartbeats 1000000 in
theorem tForce_sync (q : Mn.Pw) (hq : q.ans = 0) (k : Nat) (r : Rec) (hk : L[k]? = some r) (hs : ¬ at_ L k + (bytes r).length ≤ safe + 1) :
    Tr Tryz.prog 79 #[lPtr g, .int .i64 (at_ L k)] (aLg g gr m size v L safe held * Mn.aMn m q) (.int .i64 0) (aLg g gr m size v L (flat L).length held * Mn.aMn m q.use) := by
  intro w O hA
  have HF := Lib.hid (tFind_hit g gr m size v L safe held k r hk)
  have S := Lib.hid (Own.start hA)
  obtain ⟨k1, k2, k3⟩ := lg_fits S.out.left
  have he := at_end L k r hk
  have HS := Lib.hid (tSafe g gr m size v L safe held (at_ L k) (ofL (bytes r)) (by omega) (by rw [ofL_sz]; omega))
  have hd : decide (((at_ L k : Nat) : Int) - 1 + ((ofL (bytes r)).size : Int) ≤ (safe : Int)) = false := by
    rw [ofL_sz]; simp only [decide_eq_false_iff_not]; omega
  rw [hd] at HS
  have HY := Lib.hid (Rl.tSync_ok gr m size (ofL (flat L)) safe q hq)
  clear hA hk he hd hs
  unfold lPtr wrV at *
  generalize at_ L k = a at *
  generalize ofL (bytes r) = y at *
  go_enter Tryz.func79, Tryz.ntmps79
  go_wp2_with fail
  refine (S.out.call (HF.out.l)).mono ?_
  rintro e w1 ⟨rfl, hX⟩
  have S1 := Lib.hid hX
  clear hX S 
  have S2 := Lib.hid (S1.out.alloc #[.int .i64 a, .string y] 93)
  clear S1
  go_upto_region 6 with fail
  obtain ⟨gx, hgz⟩ : ∃ g, g = w1.heap.size := ⟨_, rfl⟩
  rw [← hgz] at S2 ⊢
  clear hgz
  generalize w1.alloc _ = w2 at *
  obtain ⟨c0, c1, -, -⟩ := two_wr (S2.out.has (Has.l (has_blk _ _ _)))
  go_wp2_with fail
  refine (S2.out.call HS.out.l.r).mono ?_
  rintro e w3 ⟨rfl, hX⟩
  have S3 := Lib.hid hX.right.assoc
  clear hX S2 HS c0 c1
  obtain ⟨c0, -, -, -, -⟩ := lg_cells (S3.out.has (Has.l (Has.l (has_blk _ _ _))))
  go_wp2_with fail
  refine (S3.out.call HY.out.r).mono ?_
  rintro e w4 ⟨rfl, hX⟩
  have S4 := Lib.hid hX.assoc'
  clear hX S3 HY c0
  go_wp2_with fail
  go_returns
  exact ⟨rfl, S4.out⟩
end
end Go.Proofs.YtapdpdhibpblgaaGreatDoor.Nt
end

-- joined
section
namespace Go.Proofs.YtapdpdhibpblgaaGreatDoor.Nt
open Go.ChangeShapes Go.WideShapes Go.ChangeAt Go.RowKit Go.PlainAid Aid Cr
set_option linter.unusedVariables false
set_option linter.unusedSimpArgs false
def nilQ : Value × Value × Value := (.slice none 0 0, .slice none 0 0, .slice none 0 0)
theorem none_lists {w0 w : World} {O0 : Nat → Prop} {A : Asn} (h : Own w0 O0 w A) : Own w0 O0 w (aLists Rec.none nilQ * A) := by
  have h1 := ((h.nilVec 72 2).nilVec 185 2).nilVec 181 2
  have h2 := h1.assoc'
  exact (h2.assoc'.imp (Imp.l (fun _ _ => sep_assoc)))
def recV (r : Rec) (q : Value × Value × Value) : Value := .agg (recCells r q.1 q.2.1 q.2.2)
set_option maxRecDepth 100000 in
set_option maxHeartbeats 4000000 in
theorem Read_shutO (s : By) (w : World) (hs : s.length ≤ 140737488355328) (ht : Tab w) (ho : openN s = .tuple #[.string ⟨#[]⟩, .bool false]) :
    Calls Tryz.prog 96 #[.string (ofL s)] w fun e w' => ∃ q, e = .returned (rV none (recV Rec.none q)) ∧ Own w No w' (aLists Rec.none q) := by
  have S := Lib.hid ((Own.none w).alloc zeroCells 50).left
  have HT := Lib.hid ht
  have HO := Lib.hid (fun w' ht => open_any s w' hs ht)
  rw [ho] at HO
  clear ht ho
  generalize ofL s = x at *
  unfold rV
  unfold zeroCells at *
  go_enter Tryz.func96, Tryz.ntmps96
  go_wp2_with fail
  obtain ⟨gz, hgz⟩ : ∃ g, g = w.heap.size := ⟨_, rfl⟩
  rw [← hgz] at S ⊢
  clear hgz
  generalize w.alloc _ = w1 at *
  refine (HO.out _ (Tab.own HT.out S.out)).mono ?_
  rintro e w2 ⟨rfl, hX⟩
  have S1 := Lib.hid (S.out.below hX).addEmp
  clear hX S
  obtain ⟨⟨c0, c1, c2, c3, c4, c5, c6, c7, c8, c9, c10⟩, f0, f1, f2, f3, f4, f5, f6, f7, f8, f9, f10⟩ := eleven (S1.out.has (Has.l (has_blk _ _ _)))
  go_wp2_with fail
  have S2 := Lib.hid (own_eleven S1.out (.int .i64 0) (.int .i64 0) (.int .i64 0) (.int .i64 0) (.slice none 0 0) (.int .i64 0) (.int .i64 0) (.string ⟨#[]⟩) (.string ⟨#[]⟩) (.slice none 0 0) (.slice none 0 0))
  clear S1 c0 c1 c2 c3 c4 c5 c6 c7 c8 c9 c10 f0 f1 f2 f3 f4 f5 f6 f7 f8 f9 f10
  generalize World.setCell (World.setCell (World.setCell (World.setCell (World.setCell (World.setCell (World.setCell (World.setCell (World.setCell (World.setCell (World.setCell w2 _ _) _ _) _ _) _ _) _ _) _ _) _ _) _ _) _ _) _ _) _ _ = w3 at *
  obtain ⟨⟨c0, c1, c2, c3, c4, c5, c6, c7, c8, c9, c10⟩, -⟩ := eleven (S2.out.has (Has.l (has_blk _ _ _)))
  exact bodyPost_ret (v := .tuple #[.agg #[.int .i64 0, .int .i64 0, .int .i64 0, .int .i64 0, .slice none 0 0, .int .i64 0, .int .i64 0, .string ⟨#[]⟩, .string ⟨#[]⟩, .slice none 0 0, .slice none 0 0], .int .i64 0, .int .i64 3]) (by simp [results, Tryz.results96, go_sem, c0, c1, c2, c3, c4, c5, c6, c7, c8, c9, c10]) rfl ⟨nilQ, rfl, (none_lists S2.out).left⟩
set_option maxRecDepth 100000 in
set_option maxHeartbeats 8000000 in
theorem Read_openO (s b : By) (N : Nat) (w : World) (hs : s.length ≤ 140737488355328) (ht : Tab w) (ho : openN s = .tuple #[.string (ofL b), .bool true]) (hN : b.length = N) (hN2 : N ≤ 140737488355328) :
    Calls Tryz.prog 96 #[.string (ofL s)] w fun e w' => ∃ q, e = .returned (rV (fitO (fits (pRec ⟨b, false⟩)) ((pRec ⟨b, false⟩).1, N + 8)) (recV (rR (fitO (fits (pRec ⟨b, false⟩)) ((pRec ⟨b, false⟩).1, N + 8))) q)) ∧ Own w No w' (aLists (rR (fitO (fits (pRec ⟨b, false⟩)) ((pRec ⟨b, false⟩).1, N + 8))) q) := by
  have S := Lib.hid ((Own.none w).alloc zeroCells 50).left
  have HT := Lib.hid ht
  have HO := Lib.hid (fun w' ht => open_any s w' hs ht)
  rw [ho] at HO
  have HR := Lib.hid (fun g => tRec g ⟨b, false⟩)
  have hzb : (ofL b).size = N := hN
  generalize pRec ⟨b, false⟩ = q at *
  obtain ⟨r, st⟩ := q
  have hfit : fits (r, st) = (!st.bad && (decide ((ofL st.rest).size = 0) && goodB r)) := by
    unfold fits
    congr 2
    rw [ofL_sz]; simp
  generalize fits (r, st) = F at *
  have HF := Lib.hid hfit
  unfold aR aSt at HR
  dsimp only at HR
  clear ht ho hN hs hfit
  generalize ofL b = y at *
  generalize ofL s = x at *
  have HG := Lib.hid (fun v w' (h : RecAt w' v r) => Good_any r v w' h)
  unfold zeroCells at *
  unfold bPtr at *
  go_enter Tryz.func96, Tryz.ntmps96
  go_wp2_with fail
  obtain ⟨gz, hgz⟩ : ∃ g, g = w.heap.size := ⟨_, rfl⟩
  rw [← hgz] at S ⊢
  clear hgz
  generalize w.alloc _ = w1 at *
  refine (HO.out _ (Tab.own HT.out S.out)).mono ?_
  rintro e w2 ⟨rfl, hX⟩
  have S1 := Lib.hid ((S.out.below hX).alloc #[.string y, .bool false] 210)
  clear hX S
  go_wp2_with fail
  obtain ⟨gr, hgz⟩ : ∃ g, g = w2.heap.size := ⟨_, rfl⟩
  rw [← hgz] at S1 ⊢
  clear hgz
  generalize w2.alloc _ = w3 at *
  refine (S1.out.callE (HR.out gr).l).mono ?_
  rintro e w4 ⟨⟨p, o, d⟩, rfl, hX⟩
  have S2 := Lib.hid hX
  clear hX S1 HR
  obtain ⟨A1, m1, rfl⟩ := S2.out.left.left.vec.slice
  obtain ⟨A2, m2, rfl⟩ := S2.out.left.left.right.vec.slice
  obtain ⟨A3, m3, rfl⟩ := S2.out.left.left.right.vecR.slice
  have S3 := Lib.hid (S2.out.alloc (recCells r (.slice A1 r.pages.length m1) (.slice A2 r.opn.length m2) (.slice A3 r.dty.length m3)) 50)
  dsimp only
  unfold recCells at *
  clear S2
  go_upto_region 6 with fail
  obtain ⟨gq, hgz⟩ : ∃ g, g = w4.heap.size := ⟨_, rfl⟩
  rw [← hgz] at S3 ⊢
  clear hgz
  generalize w4.alloc _ = w5 at *
  obtain ⟨d0, d1, -, -⟩ := st_cells (S3.out.has (Has.r (Has.l (Has.r (has_blk _ _ _)))))
  have S4 := Lib.hid S3.out.right.comm
  generalize ofL st.rest = z at *
  cases hb : st.bad with
  | true =>
    rw [hb] at d1
    obtain ⟨⟨c0, c1, c2, c3, c4, c5, c6, c7, c8, c9, c10⟩, f0, f1, f2, f3, f4, f5, f6, f7, f8, f9, f10⟩ := eleven (S4.out.has (Has.l (has_blk _ _ _)))
    go_wp2_with fail
    have hF : F = false := by rw [HF.out]; simp [hb]
    have S5 := Lib.hid (own_eleven S4.out (.int .i64 0) (.int .i64 0) (.int .i64 0) (.int .i64 0) (.slice none 0 0) (.int .i64 0) (.int .i64 0) (.string ⟨#[]⟩) (.string ⟨#[]⟩) (.slice none 0 0) (.slice none 0 0))
    clear S4 S3 c0 c1 c2 c3 c4 c5 c6 c7 c8 c9 c10 f0 f1 f2 f3 f4 f5 f6 f7 f8 f9 f10
    generalize World.setCell (World.setCell (World.setCell (World.setCell (World.setCell (World.setCell (World.setCell (World.setCell (World.setCell (World.setCell (World.setCell w5 _ _) _ _) _ _) _ _) _ _) _ _) _ _) _ _) _ _) _ _) _ _ = w6 at *
    obtain ⟨⟨c0, c1, c2, c3, c4, c5, c6, c7, c8, c9, c10⟩, -⟩ := eleven (S5.out.has (Has.l (has_blk _ _ _)))
    exact bodyPost_ret (v := .tuple #[.agg zeroCells, .int .i64 0, .int .i64 3]) (by simp [results, Tryz.results96, go_sem, zeroCells, c0, c1, c2, c3, c4, c5, c6, c7, c8, c9, c10]) rfl ⟨nilQ, by rw [hF]; rfl, by rw [hF]; exact (none_lists S5.out).left⟩
  | false =>
    rw [hb] at d1
    by_cases hz0 : z.size = 0
    · have hze : z.toList.isEmpty = true := by rw [toList_isEmpty, decide_eq_true hz0]
      have HV := Lib.hid (lists_at S3.out.right.left.left)
      unfold recCells at HV
      dsimp only at HV
      obtain ⟨⟨c0, c1, c2, c3, c4, c5, c6, c7, c8, c9, c10⟩, -⟩ := eleven (S3.out.has (Has.l (has_blk _ _ _)))
      go_wp2_with fail
      refine (HG.out _ _ HV.out).mono ?_
      rintro e w6 ⟨rfl, hX⟩
      have S5 := Lib.hid (S3.out.below hX)
      have S6 := Lib.hid S5.out.right.comm
      clear hX S4 S3 HV c0 c1 c2 c3 c4 c5 c6 c7 c8 c9 c10 d0 d1
      cases hgb : goodB r with
      | false =>
        obtain ⟨⟨c0, c1, c2, c3, c4, c5, c6, c7, c8, c9, c10⟩, f0, f1, f2, f3, f4, f5, f6, f7, f8, f9, f10⟩ := eleven (S6.out.has (Has.l (has_blk _ _ _)))
        go_wp2_with fail
        have hF : F = false := by rw [HF.out]; simp [hgb]
        have S7 := Lib.hid (own_eleven S6.out (.int .i64 0) (.int .i64 0) (.int .i64 0) (.int .i64 0) (.slice none 0 0) (.int .i64 0) (.int .i64 0) (.string ⟨#[]⟩) (.string ⟨#[]⟩) (.slice none 0 0) (.slice none 0 0))
        clear S6 S5 c0 c1 c2 c3 c4 c5 c6 c7 c8 c9 c10 f0 f1 f2 f3 f4 f5 f6 f7 f8 f9 f10
        generalize World.setCell (World.setCell (World.setCell (World.setCell (World.setCell (World.setCell (World.setCell (World.setCell (World.setCell (World.setCell (World.setCell w6 _ _) _ _) _ _) _ _) _ _) _ _) _ _) _ _) _ _) _ _) _ _ = w7 at *
        obtain ⟨⟨c0, c1, c2, c3, c4, c5, c6, c7, c8, c9, c10⟩, -⟩ := eleven (S7.out.has (Has.l (has_blk _ _ _)))
        exact bodyPost_ret (v := .tuple #[.agg zeroCells, .int .i64 0, .int .i64 3]) (by simp [results, Tryz.results96, go_sem, zeroCells, c0, c1, c2, c3, c4, c5, c6, c7, c8, c9, c10]) rfl ⟨nilQ, by rw [hF]; rfl, by rw [hF]; exact (none_lists S7.out).left⟩
      | true =>
        obtain ⟨⟨b0, b1, b2, b3, b4, b5, b6, b7, b8, b9, b10⟩, -⟩ := eleven (S5.out.has (Has.l (has_blk _ _ _)))
        obtain ⟨⟨c0, c1, c2, c3, c4, c5, c6, c7, c8, c9, c10⟩, f0, f1, f2, f3, f4, f5, f6, f7, f8, f9, f10⟩ := eleven (S6.out.has (Has.l (has_blk _ _ _)))
        have hF : F = true := by rw [HF.out]; simp [hb, hz0, hgb]
        have hw1 : IntKind.i64.wrap (4 + (y.size : Int)) = 4 + (y.size : Int) := by rw [IntKind.wrap_i64]; omega
        have hw2 : IntKind.i64.wrap (4 + (y.size : Int) + 4) = 4 + (y.size : Int) + 4 := by rw [IntKind.wrap_i64]; omega
        go_wp2_with fail
        have S7 := Lib.hid (own_eleven S6.out (.int .i64 r.kind) (.int .i64 r.deal) (.int .i64 r.prev) (.int .i64 r.next) (.slice A1 r.pages.length m1) (.int .i64 r.und.kind) (.int .i64 r.und.tree) (.string (ofL r.und.key)) (.string (ofL r.und.val)) (.slice A2 r.opn.length m2) (.slice A3 r.dty.length m3))
        clear S5 S6 b0 b1 b2 b3 b4 b5 b6 b7 b8 b9 b10 c0 c1 c2 c3 c4 c5 c6 c7 c8 c9 c10 f0 f1 f2 f3 f4 f5 f6 f7 f8 f9 f10
        generalize World.setCell (World.setCell (World.setCell (World.setCell (World.setCell (World.setCell (World.setCell (World.setCell (World.setCell (World.setCell (World.setCell w6 _ _) _ _) _ _) _ _) _ _) _ _) _ _) _ _) _ _) _ _) _ _ = w7 at *
        obtain ⟨⟨c0, c1, c2, c3, c4, c5, c6, c7, c8, c9, c10⟩, -⟩ := eleven (S7.out.has (Has.l (has_blk _ _ _)))
        have HV := lists_at S7.out.right.left
        unfold recCells at HV
        dsimp only at HV
        exact bodyPost_ret (v := .tuple #[.agg #[.int .i64 r.kind, .int .i64 r.deal, .int .i64 r.prev, .int .i64 r.next, .slice A1 r.pages.length m1, .int .i64 r.und.kind, .int .i64 r.und.tree, .string (ofL r.und.key), .string (ofL r.und.val), .slice A2 r.opn.length m2, .slice A3 r.dty.length m3], .int .i64 (4 + (N : Int) + 4), .int .i64 0]) (by simp [results, Tryz.results96, go_sem, c0, c1, c2, c3, c4, c5, c6, c7, c8, c9, c10]) rfl ⟨(.slice A1 r.pages.length m1, .slice A2 r.opn.length m2, .slice A3 r.dty.length m3), by rw [hF, show (4 + (N : Int) + 4) = ((N + 8 : Nat) : Int) by omega]; rfl, by rw [hF]; exact S7.out.right.left⟩
    · have hze : z.toList.isEmpty = false := by rw [toList_isEmpty, decide_eq_false hz0]
      obtain ⟨⟨c0, c1, c2, c3, c4, c5, c6, c7, c8, c9, c10⟩, f0, f1, f2, f3, f4, f5, f6, f7, f8, f9, f10⟩ := eleven (S4.out.has (Has.l (has_blk _ _ _)))
      go_wp2_with fail
      have hF : F = false := by rw [HF.out]; simp [hz0]
      have S5 := Lib.hid (own_eleven S4.out (.int .i64 0) (.int .i64 0) (.int .i64 0) (.int .i64 0) (.slice none 0 0) (.int .i64 0) (.int .i64 0) (.string ⟨#[]⟩) (.string ⟨#[]⟩) (.slice none 0 0) (.slice none 0 0))
      clear S4 S3 c0 c1 c2 c3 c4 c5 c6 c7 c8 c9 c10 f0 f1 f2 f3 f4 f5 f6 f7 f8 f9 f10
      generalize World.setCell (World.setCell (World.setCell (World.setCell (World.setCell (World.setCell (World.setCell (World.setCell (World.setCell (World.setCell (World.setCell w5 _ _) _ _) _ _) _ _) _ _) _ _) _ _) _ _) _ _) _ _) _ _ = w6 at *
      obtain ⟨⟨c0, c1, c2, c3, c4, c5, c6, c7, c8, c9, c10⟩, -⟩ := eleven (S5.out.has (Has.l (has_blk _ _ _)))
      exact bodyPost_ret (v := .tuple #[.agg zeroCells, .int .i64 0, .int .i64 3]) (by simp [results, Tryz.results96, go_sem, zeroCells, c0, c1, c2, c3, c4, c5, c6, c7, c8, c9, c10]) rfl ⟨nilQ, by rw [hF]; rfl, by rw [hF]; exact (none_lists S5.out).left⟩

theorem Read_own (s : By) (w : World) (hs : s.length ≤ 140737488355328) (ht : Tab w) :
    Calls Tryz.prog 96 #[.string (ofL s)] w fun e w' => ∃ q, e = .returned (rV (readR s) (recV (rR (readR s)) q)) ∧ Own w No w' (aLists (rR (readR s)) q) := by
  by_cases h1 : few s = true
  · have e1 : openN s = .tuple #[.string ⟨#[]⟩, .bool false] := by unfold openN; rw [if_pos h1]
    have e2 : readR s = none := by unfold readR; rw [if_pos h1]
    rw [e2]
    exact Read_shutO s w hs ht e1
  by_cases h2 : sealedL (s.take (hd s + 8)) = false
  · have e1 : openN s = .tuple #[.string ⟨#[]⟩, .bool false] := by unfold openN; rw [if_neg h1, if_pos h2]
    have e2 : readR s = none := by unfold readR; rw [if_neg h1, if_pos h2]
    rw [e2]
    exact Read_shutO s w hs ht e1
  have e1 : openN s = .tuple #[.string (ofL (inner s)), .bool true] := by unfold openN; rw [if_neg h1, if_neg h2]
  have e2 : readR s = fitO (fits (pRec ⟨inner s, false⟩)) ((pRec ⟨inner s, false⟩).1, hd s + 8) := by unfold readR; rw [if_neg h1, if_neg h2]; rfl
  rw [e2]
  obtain ⟨h4, h8⟩ := few_no h1
  exact Read_openO s (inner s) (hd s) w hs ht e1 (inner_len s h8) (by omega)
end Go.Proofs.YtapdpdhibpblgaaGreatDoor.Nt
end
