/- The document's reading of a record. -/
import Derived.Test.YtciamgggblajoaaDoorNtF
import Derived.Test.YtciamgggblajoaaDoorNtD
import Derived.Test.YtciamgggblajoaaDoorNtX
import Derived.Deep.RegionLaw
import Derived.Deep.CutBlock
import Derived.Deep.DeepCutAuto
namespace Go.Proofs.YtciamgggblajoaaDoor.Nt
open Go.ChangeShapes Go.WideShapes Go.ChangeAt Go.RowKit Go.PlainAid Aid Cr
set_option linter.unusedVariables false
set_option linter.unusedSimpArgs false
section
variable {P : Program}
/-- append, as a step of a region that draws its order: s a row that something owns. -/
theorem step_append_vec {ops : Array Oper} {o : Oper} {a : Act} {K : Act → World → Prop} {Q : Exit → Act → World → Prop} {E : Prop} {w : World} (hgd : o.guard = none) (s x : Operand) (t tx : TypeId)
    (ho : o.op = .call { callee := .builtin .append, args := #[s, x], argTypes := #[t, tx] })
    (e : TypeId) (z : Value) (size bytes : Nat) (ht : P.underlying t = some (.slice e)) (hinfo : (P.info? e).map (fun i => (i.zero, i.size, i.bytes)) = some (some z, size, bytes)) (hzs : z.cells.size = size) (hsz : 0 < size)
    (v : Value) (n : Nat) (xs : List Value) (hs : a.eval s = v) (hown : Vec w e size v n xs) (xv : Value) (hx : a.eval x = xv) (m : Nat) (news : List Value) (hsrc : Src P size tx xv m news w)
    (h63 : n + m ≤ maxLen) (hbytes : (n + m) * bytes ≤ 140737488355328)
    (h : ∀ v' w', Vec w' e size v' (n + m) (xs ++ news) → Chg (VB v) w w' → Fresh w (VB v) (VB v') → K (a.put o.dst v') w') :
    if Region.wanted o (yielded ops a.tmps) = true then Oper.wp P o a w K Q else E := by
  have hw : Region.wanted o (yielded ops a.tmps) = true := by simp [Region.wanted, hgd]
  rw [if_pos hw]
  obtain ⟨i, hi, hzz⟩ := Option.map_eq_some_iff.1 hinfo
  simp only [Prod.mk.injEq] at hzz
  obtain ⟨hz, rfl, rfl⟩ := hzz
  obtain ⟨v', w', hr, h2, h3, h4⟩ := run_append_vec (P := P) w t tx o.type e i z ht hi hz hzs hsz v n xs hown xv m news hsrc h63 hbytes
  unfold Oper.wp execOp
  simp only [ho, resolve, invoke, builtin, Sem.run_bind, Sem.run_pure, Result.andThen_ok, List.map_toArray, List.map_cons, List.map_nil, hs, hx, hr]
  exact h v' w' h2 h3 h4
end
section
variable {w0 w : World} {O0 : Nat → Prop} {A B C D E F : Asn}
theorem swap (h : Own w0 O0 w (A * (B * C))) : Own w0 O0 w (B * (A * C)) := (h.assoc'.imp (Imp.l (fun _ _ => sep_comm))).assoc
theorem swapR (h : Own w0 O0 w (A * (B * (C * D)))) : Own w0 O0 w (A * (C * (B * D))) := h.imp (Imp.r (fun w O h => sep_assoc (Imp.l (fun _ _ => sep_comm) w O (sep_assoc' h))))
theorem last (h : Own w0 O0 w (A * (B * (C * (D * (E * F)))))) : Own w0 O0 w (F * ((B * D) * E)) := by
  have h1 := h.right.comm.assoc.right.comm
  exact h1.assoc'.assoc'.comm
end
def dV (o : Option (Rec × Nat)) (v : Value) : Value := match o with
  | none => .tuple #[v, .int .i64 0, .bool false]
  | some q => .tuple #[v, .int .i64 (q.2 : Nat), .bool true]
theorem slice_midQ (l : By) (a b : Nat) : (ofL l).extract a b = ofL ((l.take b).drop a) := by
  apply list_inj
  rw [Lib.extract_data, ofL_list, ofL_list, List.drop_take]
set_option maxRecDepth 100000 in
set_option maxHeartbeats 8000000 in
theorem refRead_few (s : By) (w : World) (hs : s.length ≤ 140737488355328) (hf : few s = true) :
    Calls Tryd.prog 16 #[.string (ofL s)] w fun e w' => ∃ q, e = .returned (dV none (recV Rec.none q)) ∧ Own w No w' (aLists Rec.none q) := by
  have S := Lib.hid ((Own.none w).alloc zeroCells 28).left
  have HN := Lib.hid (fun g => cNum g 4 ⟨s, false⟩ (by omega))
  have hsz : ∀ cs T, (w.alloc (.cells cs T)).heap.size = w.heap.size + 1 := fun cs T => by simp
  have S0 := Lib.hid (S.out.alloc #[.string (ofL s), .bool false] 113)
  rw [hsz] at S0
  have hfew : s.length < 4 ∨ (¬ s.length < 4 ∧ s.length < hd s + 8) := by
    simp only [few, Bool.or_eq_true, decide_eq_true_eq] at hf; omega
  have hz : (ofL s).size = s.length := rfl
  have hhd : hd s < 4294967296 := pnum_le 4 ⟨s, false⟩
  clear hsz hf S
  unfold zeroCells at *
  unfold dV
  unfold aC aSt at HN
  rcases hfew with h4 | ⟨h4, h8⟩
  · rw [pnum_few s h4] at HN
    dsimp only at HN
    clear hz hhd h4
    generalize ofL s = x at *
    generalize hd s = n at *
    unfold bPtr at *
    go_enter Tryd.func16, Tryd.ntmps16
    go_wp2_with fail
    obtain ⟨g5, hg5⟩ : ∃ g, g = w.heap.size + 1 := ⟨_, rfl⟩
    rw [← hg5] at S0 ⊢
    obtain ⟨g2, hg2⟩ : ∃ g, g = w.heap.size := ⟨_, rfl⟩
    rw [← hg2] at S0 ⊢
    clear hg2 hg5
    generalize (w.alloc _).alloc _ = w1 at *
    refine (S0.out.call (HN.out g5).l).mono ?_
    rintro e w2 ⟨rfl, hX⟩
    have S1 := Lib.hid (hX.comm)
    clear hX S0 HN
    obtain ⟨d0, d1, -, -⟩ := st_cells (S1.out.has (Has.r (has_blk _ _ _)))
    obtain ⟨⟨c0, c1, c2, c3, c4, c5, c6, c7, c8, c9, c10⟩, f0, f1, f2, f3, f4, f5, f6, f7, f8, f9, f10⟩ := eleven (S1.out.has (Has.l (has_blk _ _ _)))
    go_wp2_with fail
    have S2 := Lib.hid (own_eleven S1.out (.int .i64 0) (.int .i64 0) (.int .i64 0) (.int .i64 0) (.slice none 0 0) (.int .i64 0) (.int .i64 0) (.string ⟨#[]⟩) (.string ⟨#[]⟩) (.slice none 0 0) (.slice none 0 0))
    clear S1 c0 c1 c2 c3 c4 c5 c6 c7 c8 c9 c10 f0 f1 f2 f3 f4 f5 f6 f7 f8 f9 f10
    generalize World.setCell (World.setCell (World.setCell (World.setCell (World.setCell (World.setCell (World.setCell (World.setCell (World.setCell (World.setCell (World.setCell w2 _ _) _ _) _ _) _ _) _ _) _ _) _ _) _ _) _ _) _ _) _ _ = w3 at *
    obtain ⟨⟨c0, c1, c2, c3, c4, c5, c6, c7, c8, c9, c10⟩, -⟩ := eleven (S2.out.has (Has.l (has_blk _ _ _)))
    exact bodyPost_ret (v := .tuple #[.agg #[.int .i64 0, .int .i64 0, .int .i64 0, .int .i64 0, .slice none 0 0, .int .i64 0, .int .i64 0, .string ⟨#[]⟩, .string ⟨#[]⟩, .slice none 0 0, .slice none 0 0], .int .i64 0, .bool false]) (by simp [results, Tryd.results16, go_sem, c0, c1, c2, c3, c4, c5, c6, c7, c8, c9, c10]) rfl ⟨nilQ, rfl, (none_lists S2.out).left⟩
  · rw [pnum_hd s h4] at HN
    dsimp only at HN
    have hlt : ((ofL (s.drop 4)).size : Int) - 4 < (hd s : Int) := by rw [ofL_sz, List.length_drop]; omega
    clear hz h4 h8
    generalize ofL (s.drop 4) = y at *
    generalize ofL s = x at *
    generalize hd s = n at *
    unfold bPtr at *
    go_enter Tryd.func16, Tryd.ntmps16
    go_wp2_with fail
    obtain ⟨g5, hg5⟩ : ∃ g, g = w.heap.size + 1 := ⟨_, rfl⟩
    rw [← hg5] at S0 ⊢
    obtain ⟨g2, hg2⟩ : ∃ g, g = w.heap.size := ⟨_, rfl⟩
    rw [← hg2] at S0 ⊢
    clear hg2 hg5
    generalize (w.alloc _).alloc _ = w1 at *
    refine (S0.out.call (HN.out g5).l).mono ?_
    rintro e w2 ⟨rfl, hX⟩
    have S1 := Lib.hid (hX.comm)
    clear hX S0 HN
    obtain ⟨d0, d1, -, -⟩ := st_cells (S1.out.has (Has.r (has_blk _ _ _)))
    obtain ⟨⟨c0, c1, c2, c3, c4, c5, c6, c7, c8, c9, c10⟩, f0, f1, f2, f3, f4, f5, f6, f7, f8, f9, f10⟩ := eleven (S1.out.has (Has.l (has_blk _ _ _)))
    go_wp2_with fail
    have S2 := Lib.hid (own_eleven S1.out (.int .i64 0) (.int .i64 0) (.int .i64 0) (.int .i64 0) (.slice none 0 0) (.int .i64 0) (.int .i64 0) (.string ⟨#[]⟩) (.string ⟨#[]⟩) (.slice none 0 0) (.slice none 0 0))
    clear S1 c0 c1 c2 c3 c4 c5 c6 c7 c8 c9 c10 f0 f1 f2 f3 f4 f5 f6 f7 f8 f9 f10
    generalize World.setCell (World.setCell (World.setCell (World.setCell (World.setCell (World.setCell (World.setCell (World.setCell (World.setCell (World.setCell (World.setCell w2 _ _) _ _) _ _) _ _) _ _) _ _) _ _) _ _) _ _) _ _) _ _ = w3 at *
    obtain ⟨⟨c0, c1, c2, c3, c4, c5, c6, c7, c8, c9, c10⟩, -⟩ := eleven (S2.out.has (Has.l (has_blk _ _ _)))
    exact bodyPost_ret (v := .tuple #[.agg #[.int .i64 0, .int .i64 0, .int .i64 0, .int .i64 0, .slice none 0 0, .int .i64 0, .int .i64 0, .string ⟨#[]⟩, .string ⟨#[]⟩, .slice none 0 0, .slice none 0 0], .int .i64 0, .bool false]) (by simp [results, Tryd.results16, go_sem, c0, c1, c2, c3, c4, c5, c6, c7, c8, c9, c10]) rfl ⟨nilQ, rfl, (none_lists S2.out).left⟩

set_option maxRecDepth 100000 in
set_option maxHeartbeats 32000000 in
theorem refRead_long (s : By) (w : World) (hs : s.length ≤ 140737488355328) (h4 : 4 ≤ s.length) (h8 : hd s + 8 ≤ s.length) (F : Bool) (hF : F = fitsD s (pRec ⟨inner s, false⟩)) (R : Rec) (hRR : R = (pRec ⟨inner s, false⟩).1) :
    Calls Tryd.prog 16 #[.string (ofL s)] w fun e w' => ∃ q, e = .returned (dV (fitO F (R, hd s + 8)) (recV (rR (fitO F (R, hd s + 8))) q)) ∧ Own w No w' (aLists (rR (fitO F (R, hd s + 8))) q) := by
  have S := Lib.hid ((Own.none w).alloc zeroCells 28).left
  have hsz : ∀ cs T, (w.alloc (.cells cs T)).heap.size = w.heap.size + 1 := fun cs T => by simp
  have S0 := Lib.hid (S.out.alloc #[.string (ofL s), .bool false] 113)
  rw [hsz] at S0
  clear hsz S
  have HN := Lib.hid (fun g => cNum g 4 ⟨s, false⟩ (by omega))
  rw [pnum_hd s (by omega)] at HN
  unfold aC aSt at HN
  dsimp only at HN
  have hhd : hd s < 4294967296 := pnum_le 4 ⟨s, false⟩
  have hyb : (ofL (s.drop 4)).size ≤ 140737488355328 := by rw [ofL_sz, List.length_drop]; omega
  have hlt : ¬ ((ofL (s.drop 4)).size : Int) - 4 < (hd s : Int) := by rw [ofL_sz, List.length_drop]; omega
  have hs1 := slice_to (P := Tryd.prog) Tryd.underlying9 (ofL s) (hd s + 8) ((hd s : Int) + 8) (by omega) (by rw [ofL_sz]; omega)
  rw [ofL_take] at hs1
  have hs2 : ∀ W : World, (Instr.slice 9 (.string (ofL s)) (some (.int .i64 4)) (some (.int .i64 ((hd s : Int) + 4))) none).run Tryd.prog W = .ok (.string (ofL (inner s))) W := fun W => by
    have := run_slice_string (P := Tryd.prog) W 9 (ofL s) .i64 .i64 4 ((hd s : Int) + 4) Tryd.underlying9 (by omega) (by omega) (by rw [ofL_sz]; omega)
    rw [show ((4 : Int)).toNat = 4 from rfl, show ((hd s : Int) + 4).toNat = hd s + 4 by omega, slice_midQ] at this
    exact this
  have hw1 : IntKind.i64.wrap ((hd s : Int) + 8) = (hd s : Int) + 8 := by rw [IntKind.wrap_i64]; omega
  have hw2 : IntKind.i64.wrap ((hd s : Int) + 4) = (hd s : Int) + 4 := by rw [IntKind.wrap_i64]; omega
  have hall : (ofL (s.take (hd s + 8))).size = hd s + 8 := by rw [ofL_sz, List.length_take]; omega
  obtain ⟨s0, es0⟩ : ∃ x : St, x = ⟨inner s, false⟩ := ⟨_, rfl⟩
  obtain ⟨a, ea⟩ : ∃ a, a = pnum 1 s0 := ⟨_, rfl⟩
  obtain ⟨b, eb⟩ : ∃ b, b = pnum 4 a.2 := ⟨_, rfl⟩
  obtain ⟨c, ec⟩ : ∃ c, c = pnum 4 b.2 := ⟨_, rfl⟩
  obtain ⟨d, ed⟩ : ∃ d, d = pnum 4 c.2 := ⟨_, rfl⟩
  obtain ⟨e, ee⟩ : ∃ e, e = pnum 1 d.2 := ⟨_, rfl⟩
  obtain ⟨f, ef⟩ : ∃ f, f = pnum 1 e.2 := ⟨_, rfl⟩
  obtain ⟨k1, ek1⟩ : ∃ k, k = pnum 1 f.2 := ⟨_, rfl⟩
  obtain ⟨k, ek⟩ : ∃ k, k = tk k1.1 k1.2 := ⟨_, rfl⟩
  obtain ⟨h1, eh1⟩ : ∃ h, h = pnum 1 k.2 := ⟨_, rfl⟩
  obtain ⟨h, eh⟩ : ∃ h, h = tk h1.1 h1.2 := ⟨_, rfl⟩
  obtain ⟨N1, eN1⟩ : ∃ x, x = pnum 1 h.2 := ⟨_, rfl⟩
  have T1 := Lib.hid (fun g => cNum g 1 s0 (by omega))
  have T2 := Lib.hid (fun g => cNum g 4 a.2 (by omega))
  have T3 := Lib.hid (fun g => cNum g 4 b.2 (by omega))
  have T4 := Lib.hid (fun g => cNum g 4 c.2 (by omega))
  have T5 := Lib.hid (fun g => cNum g 1 d.2 (by omega))
  have T6 := Lib.hid (fun g => cNum g 1 e.2 (by omega))
  have T7 := Lib.hid (fun g => cNum g 1 f.2 (by omega))
  have T8 := Lib.hid (fun g => cTake g k1.1 k1.2)
  have T9 := Lib.hid (fun g => cNum g 1 k.2 (by omega))
  have T10 := Lib.hid (fun g => cTake g h1.1 h1.2)
  have T11 := Lib.hid (fun g => cNum g 1 h.2 (by omega))
  have hN1 : N1.1 ≤ 65535 := by rw [eN1]; have := pnum_le 1 h.2; omega
  rw [← ea] at T1; rw [← eb] at T2; rw [← ec] at T3; rw [← ed] at T4; rw [← ee] at T5; rw [← ef] at T6; rw [← ek1] at T7; rw [← ek] at T8; rw [← eh1] at T9; rw [← eh] at T10; rw [← eN1] at T11
  have hp : ∀ xs st1 ys st2 zs st3, loop pImg N1.1 N1.2 = (xs, st1) → pList pOpn 1 st1 = (ys, st2) → pList pDty 2 st2 = (zs, st3) → pRec s0 = (⟨a.1, b.1, c.1, d.1, xs, ⟨e.1, f.1, k.1, h.1⟩, ys, zs⟩, st3) := by
    intro xs st1 ys st2 zs st3 q1 q2 q3
    have hk : k = pText f.2 := by rw [ek, ek1]; rfl
    have hh : h = pText k.2 := by rw [eh, eh1]; rfl
    have q1' : pList pImg 1 h.2 = (xs, st1) := by unfold pList; rw [← eN1]; exact q1
    unfold pRec
    simp only
    rw [← ea, ← eb, ← ec, ← ed, ← ee, ← ef, ← hk, ← hh, q1']
    simp only
    rw [q2]
    simp only
    rw [q3]
  have HP := Lib.hid hp
  rw [← es0] at hF hRR
  have HF := Lib.hid hF
  have HRR := Lib.hid hRR
  have es1 : (ofL (inner s)) = ofL s0.rest := by rw [es0]
  have es2 : s0.bad = false := by rw [es0]
  rw [es1] at hs2
  have A0 : ∀ (w' : World) (A : Asn), Own w No w' A → Own w No (w'.alloc (.cells #[.string (ofL s0.rest), .bool false] 113)) (aC w'.heap.size s0 * A) := fun w' A hh => by
    have := hh.alloc #[.string (ofL s0.rest), .bool false] 113
    unfold aC aSt; rw [es2]; exact this
  have HA0 := Lib.hid A0
  clear hp A0 hF hRR es0 ea eb ec ed ee ef ek1 ek eh1 eh eN1 es1 es2
  have HS := Lib.hid (show s.take (hd s + 8) = s.take (hd s + 8) from rfl)
  generalize hal : ofL (s.take (hd s + 8)) = al at *
  have HAL := Lib.hid hal
  generalize ofL (s.drop 4) = y at *
  generalize ofL s = x at *
  generalize hns : hd s = n at *
  have HNS := Lib.hid hns
  generalize ofL s0.rest = y0 at *
  clear hal hns HS
  unfold zeroCells at *
  unfold bPtr at *
  go_enter Tryd.func16, Tryd.ntmps16
  go_wp2_with fail
  obtain ⟨g5, hg5⟩ : ∃ g, g = w.heap.size + 1 := ⟨_, rfl⟩
  rw [← hg5] at S0 ⊢
  obtain ⟨g2, hg2⟩ : ∃ g, g = w.heap.size := ⟨_, rfl⟩
  rw [← hg2] at S0 ⊢
  clear hg2 hg5
  generalize (w.alloc _).alloc _ = w1 at *
  refine (S0.out.call (HN.out g5).l).mono ?_
  rintro e' w2 ⟨rfl, hX⟩
  have S1 := Lib.hid hX
  clear hX S0 HN
  obtain ⟨d0, d1, -, -⟩ := st_cells (S1.out.has (Has.l (has_blk _ _ _)))
  go_upto_region 7 with fail
  have S2 := Lib.hid (HA0.out w2 _ S1.out.right)
  clear S1 d0 d1 HA0
  obtain ⟨g8, hg8⟩ : ∃ g, g = w2.heap.size := ⟨_, rfl⟩
  rw [← hg8] at S2 ⊢
  clear hg8
  generalize w2.alloc _ = w3 at *
  go_wp2_with fail
  refine (S2.out.call ((T1.out g8).l)).mono ?_
  rintro e w4 ⟨rfl, hX⟩
  have S3 := Lib.hid hX
  clear hX S2 T1
  go_wp2_with fail
  refine (S3.out.call ((T2.out g8).l)).mono ?_
  rintro e w5 ⟨rfl, hX⟩
  have S4 := Lib.hid hX
  clear hX S3 T2
  go_wp2_with fail
  refine (S4.out.call ((T3.out g8).l)).mono ?_
  rintro e w6 ⟨rfl, hX⟩
  have S5 := Lib.hid hX
  clear hX S4 T3
  go_wp2_with fail
  refine (S5.out.call ((T4.out g8).l)).mono ?_
  rintro e w7 ⟨rfl, hX⟩
  have S6 := Lib.hid hX
  clear hX S5 T4
  have S7 := Lib.hid (S6.out.alloc #[.int .i64 (a.1 : Nat), .int .i64 (b.1 : Nat), .int .i64 (c.1 : Nat), .int .i64 (d.1 : Nat), .slice none 0 0, .int .i64 0, .int .i64 0, .string ⟨#[]⟩, .string ⟨#[]⟩, .slice none 0 0, .slice none 0 0] 28)
  clear S6
  go_wp2_with fail
  obtain ⟨g9, hgz⟩ : ∃ g, g = w7.heap.size := ⟨_, rfl⟩
  rw [← hgz] at S7 ⊢
  clear hgz
  generalize w7.alloc _ = w8 at *
  refine (S7.out.call (T5.out g8).l.r).mono ?_
  rintro e w9 ⟨rfl, hX⟩
  have S8 := Lib.hid hX
  clear hX S7 T5
  obtain ⟨⟨c0, c1, c2, c3, c4, c5, c6, c7, c8, c9, c10⟩, f0, f1, f2, f3, f4, f5, f6, f7, f8, f9, f10⟩ := eleven (S8.out.has (Has.l (has_blk _ _ _)))
  go_wp2_with fail
  have S9 := Lib.hid (set_l S8.out 5 (.int .i64 (e.1 : Nat)) #[.int .i64 (a.1 : Nat), .int .i64 (b.1 : Nat), .int .i64 (c.1 : Nat), .int .i64 (d.1 : Nat), .slice none 0 0, .int .i64 (e.1 : Nat), .int .i64 0, .string ⟨#[]⟩, .string ⟨#[]⟩, .slice none 0 0, .slice none 0 0] rfl)
  clear S8 c0 c1 c2 c3 c4 c5 c6 c7 c8 c9 c10 f0 f1 f2 f3 f4 f5 f6 f7 f8 f9 f10
  generalize World.setCell w9 _ _ = w10 at *
  refine (S9.out.call (T6.out g8).l.r).mono ?_
  rintro e w11 ⟨rfl, hX⟩
  have S10 := Lib.hid hX
  clear hX S9 T6
  obtain ⟨⟨c0, c1, c2, c3, c4, c5, c6, c7, c8, c9, c10⟩, f0, f1, f2, f3, f4, f5, f6, f7, f8, f9, f10⟩ := eleven (S10.out.has (Has.l (has_blk _ _ _)))
  go_wp2_with fail
  have S11 := Lib.hid (set_l S10.out 6 (.int .i64 (f.1 : Nat)) #[.int .i64 (a.1 : Nat), .int .i64 (b.1 : Nat), .int .i64 (c.1 : Nat), .int .i64 (d.1 : Nat), .slice none 0 0, .int .i64 (e.1 : Nat), .int .i64 (f.1 : Nat), .string ⟨#[]⟩, .string ⟨#[]⟩, .slice none 0 0, .slice none 0 0] rfl)
  clear S10 c0 c1 c2 c3 c4 c5 c6 c7 c8 c9 c10 f0 f1 f2 f3 f4 f5 f6 f7 f8 f9 f10
  generalize World.setCell w11 _ _ = w12 at *
  refine (S11.out.call (T7.out g8).l.r).mono ?_
  rintro e w13 ⟨rfl, hX⟩
  have S12 := Lib.hid hX
  clear hX S11 T7
  go_wp2_with fail
  refine (S12.out.call (T8.out g8).l.r).mono ?_
  rintro e w14 ⟨rfl, hX⟩
  have S13 := Lib.hid hX
  clear hX S12 T8
  obtain ⟨⟨c0, c1, c2, c3, c4, c5, c6, c7, c8, c9, c10⟩, f0, f1, f2, f3, f4, f5, f6, f7, f8, f9, f10⟩ := eleven (S13.out.has (Has.l (has_blk _ _ _)))
  go_wp2_with fail
  have S14 := Lib.hid (set_l S13.out 7 (.string (ofL k.1)) #[.int .i64 (a.1 : Nat), .int .i64 (b.1 : Nat), .int .i64 (c.1 : Nat), .int .i64 (d.1 : Nat), .slice none 0 0, .int .i64 (e.1 : Nat), .int .i64 (f.1 : Nat), .string (ofL k.1), .string ⟨#[]⟩, .slice none 0 0, .slice none 0 0] rfl)
  clear S13 c0 c1 c2 c3 c4 c5 c6 c7 c8 c9 c10 f0 f1 f2 f3 f4 f5 f6 f7 f8 f9 f10
  generalize World.setCell w14 _ _ = w15 at *
  refine (S14.out.call (T9.out g8).l.r).mono ?_
  rintro e w16 ⟨rfl, hX⟩
  have S15 := Lib.hid hX
  clear hX S14 T9
  go_wp2_with fail
  refine (S15.out.call (T10.out g8).l.r).mono ?_
  rintro e w17 ⟨rfl, hX⟩
  have S16 := Lib.hid hX
  clear hX S15 T10
  obtain ⟨⟨c0, c1, c2, c3, c4, c5, c6, c7, c8, c9, c10⟩, f0, f1, f2, f3, f4, f5, f6, f7, f8, f9, f10⟩ := eleven (S16.out.has (Has.l (has_blk _ _ _)))
  go_wp2_with fail
  have S17 := Lib.hid (set_l S16.out 8 (.string (ofL h.1)) #[.int .i64 (a.1 : Nat), .int .i64 (b.1 : Nat), .int .i64 (c.1 : Nat), .int .i64 (d.1 : Nat), .slice none 0 0, .int .i64 (e.1 : Nat), .int .i64 (f.1 : Nat), .string (ofL k.1), .string (ofL h.1), .slice none 0 0, .slice none 0 0] rfl)
  clear S16 c0 c1 c2 c3 c4 c5 c6 c7 c8 c9 c10 f0 f1 f2 f3 f4 f5 f6 f7 f8 f9 f10
  generalize World.setCell w17 _ _ = w18 at *
  refine (S17.out.call (T11.out g8).l.r).mono ?_
  rintro e w19 ⟨rfl, hX⟩
  have S18 := Lib.hid hX
  clear hX S17 T11
  have SA := Lib.hid (swap (S18.out.nilVec 78 2))
  clear S18
  go_upto_block 0 with fail
  go_cut [] (fun wx => ∃ (xs : List (Int × By)) (st : St) (v : Value), Hid (loop pImg N1.1 N1.2 = (xs, st)) ∧ Hid (Own w No wx (Asn.blk g9 28 #[.int .i64 (a.1 : Nat), .int .i64 (b.1 : Nat), .int .i64 (c.1 : Nat), .int .i64 (d.1 : Nat), v, .int .i64 (e.1 : Nat), .int .i64 (f.1 : Nat), .string (ofL k.1), .string (ofL h.1), .slice none 0 0, .slice none 0 0] * (Asn.vec 78 2 v xs.length (cells2 fImg xs) * (aC g8 st * Asn.blk g2 28 #[.int .i64 0, .int .i64 0, .int .i64 0, .int .i64 0, .slice none 0 0, .int .i64 0, .int .i64 0, .string ⟨#[]⟩, .string ⟨#[]⟩, .slice none 0 0, .slice none 0 0])))))
  case first =>
    go_wp2_with fail
    go_loopw [11] (fun i wr => ∃ (j : Nat) (xs : List (Int × By)) (st : St) (v : Value), i = .int .i64 j ∧ Hid (xs.length = j ∧ j ≤ N1.1) ∧ Hid (loop pImg N1.1 N1.2 = (xs ++ (loop pImg (N1.1 - j) st).1, (loop pImg (N1.1 - j) st).2)) ∧ Hid (Own w No wr (Asn.blk g9 28 #[.int .i64 (a.1 : Nat), .int .i64 (b.1 : Nat), .int .i64 (c.1 : Nat), .int .i64 (d.1 : Nat), v, .int .i64 (e.1 : Nat), .int .i64 (f.1 : Nat), .string (ofL k.1), .string (ofL h.1), .slice none 0 0, .slice none 0 0] * (Asn.vec 78 2 v xs.length (cells2 fImg xs) * (aC g8 st * Asn.blk g2 28 #[.int .i64 0, .int .i64 0, .int .i64 0, .int .i64 0, .slice none 0 0, .int .i64 0, .int .i64 0, .string ⟨#[]⟩, .string ⟨#[]⟩, .slice none 0 0, .slice none 0 0]))))) (fun i _ => N1.1 - (intOf i).toNat)
    case atStart => exact ⟨0, [], N1.2, _, rfl, Lib.hid ⟨rfl, Nat.zero_le _⟩, Lib.hid rfl, SA⟩
    case round =>
      clear SA
      obtain ⟨j, xs, st, v, rfl, hj, hL, X⟩ := hrel
      obtain ⟨V1, q1, rfl⟩ := X.out.right.vec.slice
      obtain ⟨hj1, hj2⟩ := hj.out
      obtain ⟨⟨c0, c1, c2, c3, c4, c5, c6, c7, c8, c9, c10⟩, f0, f1, f2, f3, f4, f5, f6, f7, f8, f9, f10⟩ := eleven (X.out.has (Has.l (has_blk _ _ _)))
      obtain ⟨d0, d1, -, -⟩ := st_cells (X.out.has (Has.r (Has.r (Has.l (has_blk _ _ _)))))
      have hexit : (j = N1.1 ∨ (j < N1.1 ∧ st.bad = true)) ∨ (j < N1.1 ∧ st.bad = false) := by
        by_cases hq : j < N1.1
        · cases st.bad
          · exact Or.inr ⟨hq, rfl⟩
          · exact Or.inl (Or.inr ⟨hq, rfl⟩)
        · exact Or.inl (Or.inl (by omega))
      rcases hexit with hex | ⟨hlt, hb⟩
      case inr =>
        rw [hb] at d1
        obtain ⟨m, hm⟩ : ∃ m, N1.1 - j = m + 1 := ⟨N1.1 - j - 1, by omega⟩
        have hl2 := hL.out
        rw [hm, loop, if_neg (by rw [hb]; decide)] at hl2
        have HL2 := Lib.hid hl2
        have hm2 : N1.1 - (j + 1) = m := by omega
        have HM2 := Lib.hid hm2
        have TN := Lib.hid (cNum g8 2 st (by omega))
        have TT := Lib.hid (cTake g8 256 (pnum 2 st).2)
        have ex : pImg st = (pImg st) := rfl
        obtain ⟨x, hx⟩ : ∃ x, x = (pImg st).1 := ⟨_, rfl⟩
        obtain ⟨st2, hst⟩ : ∃ x, x = (pImg st).2 := ⟨_, rfl⟩
        have e1 : (tk 256 (pnum 2 st).2).2 = st2 := by rw [hst]; rfl
        have e2 : (fImg x).1 = .int .i64 ((pnum 2 st).1 : Nat) := by rw [hx]; rfl
        have e3 : (fImg x).2 = .string (ofL (tk 256 (pnum 2 st).2).1) := by rw [hx]; rfl
        rw [← hx, ← hst] at HL2
        rw [e1] at TT
        have HL3 : Hid (loop pImg N1.1 N1.2 = ((xs ++ [x]) ++ (loop pImg (N1.1 - (j + 1)) st2).1, (loop pImg (N1.1 - (j + 1)) st2).2)) := Lib.hid (by rw [HM2.out, HL2.out, List.append_assoc]; rfl)
        have hc2 : cells2 fImg (xs ++ [x]) = cells2 fImg xs ++ [.int .i64 ((pnum 2 st).1 : Nat), .string (ofL (tk 256 (pnum 2 st).2).1)] := by rw [← e2, ← e3]; simp [cells2]
        have HC2 := Lib.hid hc2
        have hone : ∀ u, u ∈ [Value.int .i64 ((pnum 2 st).1 : Nat), .string (ofL (tk 256 (pnum 2 st).2).1)] → u.oneCell' = true := by intro u hu; simp at hu; rcases hu with rfl | rfl <;> rfl
        have HONE := Lib.hid hone
        clear hl2 HL2 hm2 hc2 hone hx hst e1 e2 e3 ex hL HM2 hm
        generalize ofL (tk 256 (pnum 2 st).2).1 = z0 at *
        generalize (pnum 2 st).1 = p0 at *
        generalize (pnum 2 st).2 = st1 at *
        have HXL := Lib.hid hj1
        subst hj1
        clear hj HXL
        have X0 := Lib.hid X.out.drew
        clear X
        go_wp2_with fail
        go_region_law (first
          | (go_simp; go_at_call 64; refine (S100.out.call TT.out.l.r.r).mono ?_; rintro e w101 ⟨rfl, h101⟩; have S101 := Lib.hid h101; have c101 := (S101.out.has (Has.l (has_blk _ _ _))).cell 4; have S102 := Lib.hid (swap (S101.out.alloc #[.int .i64 (p0 : Nat), .string z0] 78).right); have c102 := (S102.out.has (Has.r (Has.l (has_blk _ _ _)))).cell 4; have CX := Lib.hid (Src.ofSlice (P := Tryd.prog) (size := 2) (w101.alloc (.cells #[.int .i64 (p0 : Nat), .string z0] 78)) Tryd.underlying22 ⟨w101.heap.size, 0, none⟩ 1 1 [.int .i64 (p0 : Nat), .string z0] rfl (append2 ((Blk.new w101 #[.int .i64 (p0 : Nat), .string z0] 78).cell 0) ((Blk.new w101 #[.int .i64 (p0 : Nat), .string z0] 78).cell 1)) HONE.out))
          | (go_simp; go_at_call 63; refine (X0.out.call TN.out.l.r.r).mono ?_; rintro e w100 ⟨rfl, h100⟩; have S100 := Lib.hid h100; have c100 := (S100.out.has (Has.l (has_blk _ _ _))).cell 4)
          | (refine step_append_vec rfl (.tmp 88) (.tmp 94) 22 22 rfl 78 _ 2 24 Tryd.underlying22 infoImage rfl (by decide) _ xs.length (cells2 fImg xs) rfl S102.out.vec (.slice (some ⟨w101.heap.size, 0, none⟩) 1 1) rfl 1 [.int .i64 (p0 : Nat), .string z0] CX.out (by unfold maxLen; omega) (by omega) ?_; intro v' w103 hv hc hf; have S103 := Lib.hid (swap (S102.out.app hv hc hf)); obtain ⟨A', c', rfl⟩ := hv.slice; have c103 := (S103.out.has (Has.l (has_blk _ _ _))).cell 4; have f103 := (S103.out.has (Has.l (has_blk _ _ _))).free 4))
        all_goals
          have S104 := Lib.hid (set_l S103.out 4 (.slice A' (xs.length + 1) c') #[.int .i64 (a.1 : Nat), .int .i64 (b.1 : Nat), .int .i64 (c.1 : Nat), .int .i64 (d.1 : Nat), .slice A' (xs.length + 1) c', .int .i64 (e.1 : Nat), .int .i64 (f.1 : Nat), .string (ofL k.1), .string (ofL h.1), .slice none 0 0, .slice none 0 0] rfl)
          clear S100 S101 S102 S103 CX X0 TN TT
          go_wp2_with fail
          go_round
          case rel => exact ⟨xs.length + 1, xs ++ [x], st2, _, by go_num, Lib.hid ⟨by simp, by omega⟩, HL3, by rw [HC2.out, List.length_append]; exact S104⟩
          case measure => simp [intOf]; omega
      case inl =>
        have hx1 : Hid (loop pImg N1.1 N1.2 = (xs, st)) := by
          have := hL.out
          rcases hex with hex | ⟨hlt, hex⟩
          · rw [show N1.1 - j = 0 by omega] at this
            rw [this, show loop pImg 0 st = ([], st) from rfl, List.append_nil]; exact Lib.hid rfl
          · rw [this]
            cases hq : N1.1 - j with
            | zero => rw [show loop pImg 0 st = ([], st) from rfl, List.append_nil]; exact Lib.hid rfl
            | succ m => rw [loop, if_pos hex, List.append_nil]; exact Lib.hid rfl
        clear hL
        rcases hex with hex | ⟨hlt, hex⟩
        all_goals
          try rw [hex] at d1
          go_wp2_with fail
          go_meet
          case rel => exact ⟨xs, st, _, hx1, X⟩
  case rest =>
    obtain ⟨xs1, st1, v1, hx1, X⟩ := hcut
    obtain ⟨V1, q1, rfl⟩ := X.out.right.vec.slice
    obtain ⟨N2, eN2⟩ : ∃ x, x = pnum 1 st1 := ⟨_, rfl⟩
    have hN2 : N2.1 ≤ 65535 := by rw [eN2]; have := pnum_le 1 st1; omega
    have HE2 := Lib.hid eN2
    have TQ := Lib.hid (cNum g8 1 st1 (by omega))
    rw [← eN2] at TQ
    clear eN2
    go_wp2_with fail
    refine (X.out.call TQ.out.l.r.r).mono ?_
    rintro e' wq1 ⟨rfl, hX⟩
    have SB1 := Lib.hid (swap ((swapR hX).nilVec 81 2))
    clear hX X TQ
    go_upto_block 2 with fail
    go_cut [] (fun wx => ∃ (xs : List (Int × Int)) (st : St) (v : Value), Hid (loop pOpn N2.1 N2.2 = (xs, st)) ∧ Hid (Own w No wx (Asn.blk g9 28 #[.int .i64 (a.1 : Nat), .int .i64 (b.1 : Nat), .int .i64 (c.1 : Nat), .int .i64 (d.1 : Nat), .slice V1 xs1.length q1, .int .i64 (e.1 : Nat), .int .i64 (f.1 : Nat), .string (ofL k.1), .string (ofL h.1), v, .slice none 0 0] * (Asn.vec 81 2 v xs.length (cells2 fNum xs) * (aC g8 st * (Asn.vec 78 2 (.slice V1 xs1.length q1) xs1.length (cells2 fImg xs1) * Asn.blk g2 28 #[.int .i64 0, .int .i64 0, .int .i64 0, .int .i64 0, .slice none 0 0, .int .i64 0, .int .i64 0, .string ⟨#[]⟩, .string ⟨#[]⟩, .slice none 0 0, .slice none 0 0]))))))
    case first =>
      go_wp2_with fail
      go_loopw [12] (fun i wr => ∃ (j : Nat) (xs : List (Int × Int)) (st : St) (v : Value), i = .int .i64 j ∧ Hid (xs.length = j ∧ j ≤ N2.1) ∧ Hid (loop pOpn N2.1 N2.2 = (xs ++ (loop pOpn (N2.1 - j) st).1, (loop pOpn (N2.1 - j) st).2)) ∧ Hid (Own w No wr (Asn.blk g9 28 #[.int .i64 (a.1 : Nat), .int .i64 (b.1 : Nat), .int .i64 (c.1 : Nat), .int .i64 (d.1 : Nat), .slice V1 xs1.length q1, .int .i64 (e.1 : Nat), .int .i64 (f.1 : Nat), .string (ofL k.1), .string (ofL h.1), v, .slice none 0 0] * (Asn.vec 81 2 v xs.length (cells2 fNum xs) * (aC g8 st * (Asn.vec 78 2 (.slice V1 xs1.length q1) xs1.length (cells2 fImg xs1) * Asn.blk g2 28 #[.int .i64 0, .int .i64 0, .int .i64 0, .int .i64 0, .slice none 0 0, .int .i64 0, .int .i64 0, .string ⟨#[]⟩, .string ⟨#[]⟩, .slice none 0 0, .slice none 0 0])))))) (fun i _ => N2.1 - (intOf i).toNat)
      case atStart => exact ⟨0, [], N2.2, _, rfl, Lib.hid ⟨rfl, Nat.zero_le _⟩, Lib.hid rfl, SB1⟩
      case round =>
        clear SB1
        obtain ⟨j, xs, st, v, rfl, hj, hL, X⟩ := hrel
        obtain ⟨V2, q2, rfl⟩ := X.out.right.vec.slice
        obtain ⟨hj1, hj2⟩ := hj.out
        obtain ⟨⟨c0, c1, c2, c3, c4, c5, c6, c7, c8, c9, c10⟩, f0, f1, f2, f3, f4, f5, f6, f7, f8, f9, f10⟩ := eleven (X.out.has (Has.l (has_blk _ _ _)))
        obtain ⟨d0, d1, -, -⟩ := st_cells (X.out.has (Has.r (Has.r (Has.l (has_blk _ _ _)))))
        have hexit : (j = N2.1 ∨ (j < N2.1 ∧ st.bad = true)) ∨ (j < N2.1 ∧ st.bad = false) := by
          by_cases hq : j < N2.1
          · cases st.bad
            · exact Or.inr ⟨hq, rfl⟩
            · exact Or.inl (Or.inr ⟨hq, rfl⟩)
          · exact Or.inl (Or.inl (by omega))
        rcases hexit with hex | ⟨hlt, hb⟩
        case inr =>
          rw [hb] at d1
          obtain ⟨m, hm⟩ : ∃ m, N2.1 - j = m + 1 := ⟨N2.1 - j - 1, by omega⟩
          have hl2 := hL.out
          rw [hm, loop, if_neg (by rw [hb]; decide)] at hl2
          have HL2 := Lib.hid hl2
          have hm2 : N2.1 - (j + 1) = m := by omega
          have HM2 := Lib.hid hm2
          have TN := Lib.hid (cNum g8 4 st (by omega))
          have TT := Lib.hid (cNum g8 4 (pnum 4 st).2 (by omega))
          have ex : pOpn st = (pOpn st) := rfl
          obtain ⟨x, hx⟩ : ∃ x, x = (pOpn st).1 := ⟨_, rfl⟩
          obtain ⟨st2, hst⟩ : ∃ x, x = (pOpn st).2 := ⟨_, rfl⟩
          have e1 : (pnum 4 (pnum 4 st).2).2 = st2 := by rw [hst]; rfl
          have e2 : (fNum x).1 = .int .i64 ((pnum 4 st).1 : Nat) := by rw [hx]; rfl
          have e3 : (fNum x).2 = .int .i64 ((pnum 4 (pnum 4 st).2).1 : Nat) := by rw [hx]; rfl
          rw [← hx, ← hst] at HL2
          rw [e1] at TT
          have HL3 : Hid (loop pOpn N2.1 N2.2 = ((xs ++ [x]) ++ (loop pOpn (N2.1 - (j + 1)) st2).1, (loop pOpn (N2.1 - (j + 1)) st2).2)) := Lib.hid (by rw [HM2.out, HL2.out, List.append_assoc]; rfl)
          have hc2 : cells2 fNum (xs ++ [x]) = cells2 fNum xs ++ [.int .i64 ((pnum 4 st).1 : Nat), .int .i64 ((pnum 4 (pnum 4 st).2).1 : Nat)] := by rw [← e2, ← e3]; simp [cells2]
          have HC2 := Lib.hid hc2
          have hone : ∀ u, u ∈ [Value.int .i64 ((pnum 4 st).1 : Nat), .int .i64 ((pnum 4 (pnum 4 st).2).1 : Nat)] → u.oneCell' = true := by intro u hu; simp at hu; rcases hu with rfl | rfl <;> rfl
          have HONE := Lib.hid hone
          clear hl2 HL2 hm2 hc2 hone hx hst e1 e2 e3 ex hL HM2 hm
          generalize (pnum 4 (pnum 4 st).2).1 = z0 at *
          generalize (pnum 4 st).1 = p0 at *
          generalize (pnum 4 st).2 = st1 at *
          have HXL := Lib.hid hj1
          subst hj1
          clear hj HXL
          have X0 := Lib.hid X.out.drew
          clear X
          go_wp2_with fail
          go_region_law (first
            | (go_simp; go_at_call 63; refine (S200.out.call TT.out.l.r.r).mono ?_; rintro e w201 ⟨rfl, h201⟩; have S201 := Lib.hid h201; have c201 := (S201.out.has (Has.l (has_blk _ _ _))).cell 9; have S202 := Lib.hid (swap (S201.out.alloc #[.int .i64 (p0 : Nat), .int .i64 (z0 : Nat)] 81).right); have c202 := (S202.out.has (Has.r (Has.l (has_blk _ _ _)))).cell 9; have CX := Lib.hid (Src.ofSlice (P := Tryd.prog) (size := 2) (w201.alloc (.cells #[.int .i64 (p0 : Nat), .int .i64 (z0 : Nat)] 81)) Tryd.underlying25 ⟨w201.heap.size, 0, none⟩ 1 1 [.int .i64 (p0 : Nat), .int .i64 (z0 : Nat)] rfl (append2 ((Blk.new w201 #[.int .i64 (p0 : Nat), .int .i64 (z0 : Nat)] 81).cell 0) ((Blk.new w201 #[.int .i64 (p0 : Nat), .int .i64 (z0 : Nat)] 81).cell 1)) HONE.out))
            | (go_simp; go_at_call 63; refine (X0.out.call TN.out.l.r.r).mono ?_; rintro e w200 ⟨rfl, h200⟩; have S200 := Lib.hid h200; have c200 := (S200.out.has (Has.l (has_blk _ _ _))).cell 9)
            | (refine step_append_vec rfl (.tmp 112) (.tmp 118) 25 25 rfl 81 _ 2 16 Tryd.underlying25 infoOpen rfl (by decide) _ xs.length (cells2 fNum xs) rfl S202.out.vec (.slice (some ⟨w201.heap.size, 0, none⟩) 1 1) rfl 1 [.int .i64 (p0 : Nat), .int .i64 (z0 : Nat)] CX.out (by unfold maxLen; omega) (by omega) ?_; intro v' w203 hv hc hf; have S203 := Lib.hid (swap (S202.out.app hv hc hf)); obtain ⟨A', c', rfl⟩ := hv.slice; have c203 := (S203.out.has (Has.l (has_blk _ _ _))).cell 9; have f203 := (S203.out.has (Has.l (has_blk _ _ _))).free 9))
          all_goals
            have S204 := Lib.hid (set_l S203.out 9 (.slice A' (xs.length + 1) c') #[.int .i64 (a.1 : Nat), .int .i64 (b.1 : Nat), .int .i64 (c.1 : Nat), .int .i64 (d.1 : Nat), .slice V1 xs1.length q1, .int .i64 (e.1 : Nat), .int .i64 (f.1 : Nat), .string (ofL k.1), .string (ofL h.1), .slice A' (xs.length + 1) c', .slice none 0 0] rfl)
            clear S200 S201 S202 S203 CX X0 TN TT
            go_wp2_with fail
            go_round
            case rel => exact ⟨xs.length + 1, xs ++ [x], st2, _, by go_num, Lib.hid ⟨by simp, by omega⟩, HL3, by rw [HC2.out, List.length_append]; exact S204⟩
            case measure => simp [intOf]; omega
        case inl =>
          have hx2 : Hid (loop pOpn N2.1 N2.2 = (xs, st)) := by
            have := hL.out
            rcases hex with hex | ⟨hlt, hex⟩
            · rw [show N2.1 - j = 0 by omega] at this
              rw [this, show loop pOpn 0 st = ([], st) from rfl, List.append_nil]; exact Lib.hid rfl
            · rw [this]
              cases hq : N2.1 - j with
              | zero => rw [show loop pOpn 0 st = ([], st) from rfl, List.append_nil]; exact Lib.hid rfl
              | succ m => rw [loop, if_pos hex, List.append_nil]; exact Lib.hid rfl
          clear hL
          rcases hex with hex | ⟨hlt, hex⟩
          all_goals
            try rw [hex] at d1
            go_wp2_with fail
            go_meet
            case rel => exact ⟨xs, st, _, hx2, X⟩
    case rest =>
      obtain ⟨xs2, st2, v2, hx2, X⟩ := hcut
      obtain ⟨V2, q2, rfl⟩ := X.out.right.vec.slice
      obtain ⟨N3, eN3⟩ : ∃ x, x = pnum 2 st2 := ⟨_, rfl⟩
      have hN3 : N3.1 ≤ 65535 := by rw [eN3]; have := pnum_le 2 st2; omega
      have HE3 := Lib.hid eN3
      have TQ := Lib.hid (cNum g8 2 st2 (by omega))
      rw [← eN3] at TQ
      clear eN3
      go_wp2_with fail
      refine (X.out.call TQ.out.l.r.r).mono ?_
      rintro e' wq2 ⟨rfl, hX⟩
      have SB2 := Lib.hid (swap ((swapR hX).nilVec 83 2))
      clear hX X TQ
      go_upto_block 4 with fail
      go_cut [] (fun wx => ∃ (xs : List (Int × Int)) (st : St) (v : Value), Hid (loop pDty N3.1 N3.2 = (xs, st)) ∧ Hid (Own w No wx (Asn.blk g9 28 #[.int .i64 (a.1 : Nat), .int .i64 (b.1 : Nat), .int .i64 (c.1 : Nat), .int .i64 (d.1 : Nat), .slice V1 xs1.length q1, .int .i64 (e.1 : Nat), .int .i64 (f.1 : Nat), .string (ofL k.1), .string (ofL h.1), .slice V2 xs2.length q2, v] * (Asn.vec 83 2 v xs.length (cells2 fNum xs) * (aC g8 st * (Asn.vec 81 2 (.slice V2 xs2.length q2) xs2.length (cells2 fNum xs2) * (Asn.vec 78 2 (.slice V1 xs1.length q1) xs1.length (cells2 fImg xs1) * Asn.blk g2 28 #[.int .i64 0, .int .i64 0, .int .i64 0, .int .i64 0, .slice none 0 0, .int .i64 0, .int .i64 0, .string ⟨#[]⟩, .string ⟨#[]⟩, .slice none 0 0, .slice none 0 0])))))))
      case first =>
        go_wp2_with fail
        go_loopw [13] (fun i wr => ∃ (j : Nat) (xs : List (Int × Int)) (st : St) (v : Value), i = .int .i64 j ∧ Hid (xs.length = j ∧ j ≤ N3.1) ∧ Hid (loop pDty N3.1 N3.2 = (xs ++ (loop pDty (N3.1 - j) st).1, (loop pDty (N3.1 - j) st).2)) ∧ Hid (Own w No wr (Asn.blk g9 28 #[.int .i64 (a.1 : Nat), .int .i64 (b.1 : Nat), .int .i64 (c.1 : Nat), .int .i64 (d.1 : Nat), .slice V1 xs1.length q1, .int .i64 (e.1 : Nat), .int .i64 (f.1 : Nat), .string (ofL k.1), .string (ofL h.1), .slice V2 xs2.length q2, v] * (Asn.vec 83 2 v xs.length (cells2 fNum xs) * (aC g8 st * (Asn.vec 81 2 (.slice V2 xs2.length q2) xs2.length (cells2 fNum xs2) * (Asn.vec 78 2 (.slice V1 xs1.length q1) xs1.length (cells2 fImg xs1) * Asn.blk g2 28 #[.int .i64 0, .int .i64 0, .int .i64 0, .int .i64 0, .slice none 0 0, .int .i64 0, .int .i64 0, .string ⟨#[]⟩, .string ⟨#[]⟩, .slice none 0 0, .slice none 0 0]))))))) (fun i _ => N3.1 - (intOf i).toNat)
        case atStart => exact ⟨0, [], N3.2, _, rfl, Lib.hid ⟨rfl, Nat.zero_le _⟩, Lib.hid rfl, SB2⟩
        case round =>
          clear SB2
          obtain ⟨j, xs, st, v, rfl, hj, hL, X⟩ := hrel
          obtain ⟨V3, q3, rfl⟩ := X.out.right.vec.slice
          obtain ⟨hj1, hj2⟩ := hj.out
          obtain ⟨⟨c0, c1, c2, c3, c4, c5, c6, c7, c8, c9, c10⟩, f0, f1, f2, f3, f4, f5, f6, f7, f8, f9, f10⟩ := eleven (X.out.has (Has.l (has_blk _ _ _)))
          obtain ⟨d0, d1, -, -⟩ := st_cells (X.out.has (Has.r (Has.r (Has.l (has_blk _ _ _)))))
          have hexit : (j = N3.1 ∨ (j < N3.1 ∧ st.bad = true)) ∨ (j < N3.1 ∧ st.bad = false) := by
            by_cases hq : j < N3.1
            · cases st.bad
              · exact Or.inr ⟨hq, rfl⟩
              · exact Or.inl (Or.inr ⟨hq, rfl⟩)
            · exact Or.inl (Or.inl (by omega))
          rcases hexit with hex | ⟨hlt, hb⟩
          case inr =>
            rw [hb] at d1
            obtain ⟨m, hm⟩ : ∃ m, N3.1 - j = m + 1 := ⟨N3.1 - j - 1, by omega⟩
            have hl2 := hL.out
            rw [hm, loop, if_neg (by rw [hb]; decide)] at hl2
            have HL2 := Lib.hid hl2
            have hm2 : N3.1 - (j + 1) = m := by omega
            have HM2 := Lib.hid hm2
            have TN := Lib.hid (cNum g8 2 st (by omega))
            have TT := Lib.hid (cNum g8 4 (pnum 2 st).2 (by omega))
            have ex : pDty st = (pDty st) := rfl
            obtain ⟨x, hx⟩ : ∃ x, x = (pDty st).1 := ⟨_, rfl⟩
            obtain ⟨st2, hst⟩ : ∃ x, x = (pDty st).2 := ⟨_, rfl⟩
            have e1 : (pnum 4 (pnum 2 st).2).2 = st2 := by rw [hst]; rfl
            have e2 : (fNum x).1 = .int .i64 ((pnum 2 st).1 : Nat) := by rw [hx]; rfl
            have e3 : (fNum x).2 = .int .i64 ((pnum 4 (pnum 2 st).2).1 : Nat) := by rw [hx]; rfl
            rw [← hx, ← hst] at HL2
            rw [e1] at TT
            have HL3 : Hid (loop pDty N3.1 N3.2 = ((xs ++ [x]) ++ (loop pDty (N3.1 - (j + 1)) st2).1, (loop pDty (N3.1 - (j + 1)) st2).2)) := Lib.hid (by rw [HM2.out, HL2.out, List.append_assoc]; rfl)
            have hc2 : cells2 fNum (xs ++ [x]) = cells2 fNum xs ++ [.int .i64 ((pnum 2 st).1 : Nat), .int .i64 ((pnum 4 (pnum 2 st).2).1 : Nat)] := by rw [← e2, ← e3]; simp [cells2]
            have HC2 := Lib.hid hc2
            have hone : ∀ u, u ∈ [Value.int .i64 ((pnum 2 st).1 : Nat), .int .i64 ((pnum 4 (pnum 2 st).2).1 : Nat)] → u.oneCell' = true := by intro u hu; simp at hu; rcases hu with rfl | rfl <;> rfl
            have HONE := Lib.hid hone
            clear hl2 HL2 hm2 hc2 hone hx hst e1 e2 e3 ex hL HM2 hm
            generalize (pnum 4 (pnum 2 st).2).1 = z0 at *
            generalize (pnum 2 st).1 = p0 at *
            generalize (pnum 2 st).2 = st1 at *
            have HXL := Lib.hid hj1
            subst hj1
            clear hj HXL
            have X0 := Lib.hid X.out.drew
            clear X
            go_wp2_with fail
            go_region_law (first
              | (go_simp; go_at_call 63; refine (S300.out.call TT.out.l.r.r).mono ?_; rintro e w301 ⟨rfl, h301⟩; have S301 := Lib.hid h301; have c301 := (S301.out.has (Has.l (has_blk _ _ _))).cell 10; have S302 := Lib.hid (swap (S301.out.alloc #[.int .i64 (p0 : Nat), .int .i64 (z0 : Nat)] 83).right); have c302 := (S302.out.has (Has.r (Has.l (has_blk _ _ _)))).cell 10; have CX := Lib.hid (Src.ofSlice (P := Tryd.prog) (size := 2) (w301.alloc (.cells #[.int .i64 (p0 : Nat), .int .i64 (z0 : Nat)] 83)) Tryd.underlying26 ⟨w301.heap.size, 0, none⟩ 1 1 [.int .i64 (p0 : Nat), .int .i64 (z0 : Nat)] rfl (append2 ((Blk.new w301 #[.int .i64 (p0 : Nat), .int .i64 (z0 : Nat)] 83).cell 0) ((Blk.new w301 #[.int .i64 (p0 : Nat), .int .i64 (z0 : Nat)] 83).cell 1)) HONE.out))
              | (go_simp; go_at_call 63; refine (X0.out.call TN.out.l.r.r).mono ?_; rintro e w300 ⟨rfl, h300⟩; have S300 := Lib.hid h300; have c300 := (S300.out.has (Has.l (has_blk _ _ _))).cell 10)
              | (refine step_append_vec rfl (.tmp 136) (.tmp 142) 26 26 rfl 83 _ 2 16 Tryd.underlying26 infoDirty rfl (by decide) _ xs.length (cells2 fNum xs) rfl S302.out.vec (.slice (some ⟨w301.heap.size, 0, none⟩) 1 1) rfl 1 [.int .i64 (p0 : Nat), .int .i64 (z0 : Nat)] CX.out (by unfold maxLen; omega) (by omega) ?_; intro v' w303 hv hc hf; have S303 := Lib.hid (swap (S302.out.app hv hc hf)); obtain ⟨A', c', rfl⟩ := hv.slice; have c303 := (S303.out.has (Has.l (has_blk _ _ _))).cell 10; have f303 := (S303.out.has (Has.l (has_blk _ _ _))).free 10))
            all_goals
              have S304 := Lib.hid (set_l S303.out 10 (.slice A' (xs.length + 1) c') #[.int .i64 (a.1 : Nat), .int .i64 (b.1 : Nat), .int .i64 (c.1 : Nat), .int .i64 (d.1 : Nat), .slice V1 xs1.length q1, .int .i64 (e.1 : Nat), .int .i64 (f.1 : Nat), .string (ofL k.1), .string (ofL h.1), .slice V2 xs2.length q2, .slice A' (xs.length + 1) c'] rfl)
              clear S300 S301 S302 S303 CX X0 TN TT
              go_wp2_with fail
              go_round
              case rel => exact ⟨xs.length + 1, xs ++ [x], st2, _, by go_num, Lib.hid ⟨by simp, by omega⟩, HL3, by rw [HC2.out, List.length_append]; exact S304⟩
              case measure => simp [intOf]; omega
          case inl =>
            have hx3 : Hid (loop pDty N3.1 N3.2 = (xs, st)) := by
              have := hL.out
              rcases hex with hex | ⟨hlt, hex⟩
              · rw [show N3.1 - j = 0 by omega] at this
                rw [this, show loop pDty 0 st = ([], st) from rfl, List.append_nil]; exact Lib.hid rfl
              · rw [this]
                cases hq : N3.1 - j with
                | zero => rw [show loop pDty 0 st = ([], st) from rfl, List.append_nil]; exact Lib.hid rfl
                | succ m => rw [loop, if_pos hex, List.append_nil]; exact Lib.hid rfl
            clear hL
            rcases hex with hex | ⟨hlt, hex⟩
            all_goals
              try rw [hex] at d1
              go_wp2_with fail
              go_meet
              case rel => exact ⟨xs, st, _, hx3, X⟩
      case rest =>
        obtain ⟨xs3, st3, v3, hx3, X⟩ := hcut
        obtain ⟨V3, q3, rfl⟩ := X.out.right.vec.slice
        have HPR : Hid (pRec s0 = (⟨(a.1 : Nat), (b.1 : Nat), (c.1 : Nat), (d.1 : Nat), xs1, ⟨(e.1 : Nat), (f.1 : Nat), k.1, h.1⟩, xs2, xs3⟩, st3)) := Lib.hid (HP.out xs1 st1 xs2 st2 xs3 st3 hx1.out (by unfold pList; rw [← HE2.out]; exact hx2.out) (by unfold pList; rw [← HE3.out]; exact hx3.out))
        have HR0 : Hid (R = ⟨(a.1 : Nat), (b.1 : Nat), (c.1 : Nat), (d.1 : Nat), xs1, ⟨(e.1 : Nat), (f.1 : Nat), k.1, h.1⟩, xs2, xs3⟩) := Lib.hid (by rw [HRR.out, HPR.out])
        have hv : RecAt wc (.agg (recCells ⟨(a.1 : Nat), (b.1 : Nat), (c.1 : Nat), (d.1 : Nat), xs1, ⟨(e.1 : Nat), (f.1 : Nat), k.1, h.1⟩, xs2, xs3⟩ (.slice V1 xs1.length q1) (.slice V2 xs2.length q2) (.slice V3 xs3.length q3))) ⟨(a.1 : Nat), (b.1 : Nat), (c.1 : Nat), (d.1 : Nat), xs1, ⟨(e.1 : Nat), (f.1 : Nat), k.1, h.1⟩, xs2, xs3⟩ := ⟨_, _, _, rfl, Row2.of_vec fImg X.out.right.right.right.right.vec, Row2.of_vec fNum X.out.right.right.right.vec, Row2.of_vec fNum X.out.right.vec⟩
        have HV := Lib.hid hv
        clear hv
        obtain ⟨d0, d1, -, -⟩ := st_cells (X.out.has (Has.r (Has.r (Has.l (has_blk _ _ _)))))
        cases hb : st3.bad with
        | true =>
          rw [hb] at d1
          have hFF : F = false := by rw [HF.out, HPR.out]; simp [fitsD, hb]
          have SL := Lib.hid (last X.out)
          obtain ⟨⟨c0, c1, c2, c3, c4, c5, c6, c7, c8, c9, c10⟩, f0, f1, f2, f3, f4, f5, f6, f7, f8, f9, f10⟩ := eleven (SL.out.has (Has.l (has_blk _ _ _)))
          go_upto_region 28 with fail
          repeat (first | go_values | go_skip | go_guarded | go_step | go_upon)
          have SZ := Lib.hid (own_eleven SL.out (.int .i64 0) (.int .i64 0) (.int .i64 0) (.int .i64 0) (.slice none 0 0) (.int .i64 0) (.int .i64 0) (.string ⟨#[]⟩) (.string ⟨#[]⟩) (.slice none 0 0) (.slice none 0 0))
          clear SL X c0 c1 c2 c3 c4 c5 c6 c7 c8 c9 c10 f0 f1 f2 f3 f4 f5 f6 f7 f8 f9 f10
          generalize World.setCell (World.setCell (World.setCell (World.setCell (World.setCell (World.setCell (World.setCell (World.setCell (World.setCell (World.setCell (World.setCell wc _ _) _ _) _ _) _ _) _ _) _ _) _ _) _ _) _ _) _ _) _ _ = wz at *
          obtain ⟨⟨c0, c1, c2, c3, c4, c5, c6, c7, c8, c9, c10⟩, -⟩ := eleven (SZ.out.has (Has.l (has_blk _ _ _)))
          exact bodyPost_ret (v := .tuple #[.agg zeroCells, .int .i64 0, .bool false]) (by simp [results, Tryd.results16, go_sem, zeroCells, c0, c1, c2, c3, c4, c5, c6, c7, c8, c9, c10]) rfl ⟨nilQ, by rw [hFF]; rfl, by rw [hFF]; exact (none_lists SZ.out).left⟩
        | false =>
        rw [hb] at d1
        have EG := Lib.hid (refGood_any _ _ wc HV.out)
        unfold recCells at EG
        dsimp only at EG
        obtain ⟨⟨c0, c1, c2, c3, c4, c5, c6, c7, c8, c9, c10⟩, -⟩ := eleven (X.out.has (Has.l (has_blk _ _ _)))
        generalize hgb : goodB ⟨(a.1 : Nat), (b.1 : Nat), (c.1 : Nat), (d.1 : Nat), xs1, ⟨(e.1 : Nat), (f.1 : Nat), k.1, h.1⟩, xs2, xs3⟩ = gb at *
        go_wp2_with fail
        refine EG.out.mono ?_
        rintro e' wg ⟨rfl, hX⟩
        have Y := Lib.hid (X.out.below hX)
        have HV2 := Lib.hid (HV.out.keep hX)
        clear hX X HV EG c0 c1 c2 c3 c4 c5 c6 c7 c8 c9 c10 d0 d1
        cases gb with
        | false =>
          have hFF : F = false := by rw [HF.out, HPR.out]; simp [fitsD, hb, hgb]
          have SL := Lib.hid (last Y.out)
          obtain ⟨⟨c0, c1, c2, c3, c4, c5, c6, c7, c8, c9, c10⟩, f0, f1, f2, f3, f4, f5, f6, f7, f8, f9, f10⟩ := eleven (SL.out.has (Has.l (has_blk _ _ _)))
          go_upto_region 28 with fail
          repeat (first | go_values | go_skip | go_guarded | go_step | go_upon)
          have SZ := Lib.hid (own_eleven SL.out (.int .i64 0) (.int .i64 0) (.int .i64 0) (.int .i64 0) (.slice none 0 0) (.int .i64 0) (.int .i64 0) (.string ⟨#[]⟩) (.string ⟨#[]⟩) (.slice none 0 0) (.slice none 0 0))
          clear SL Y c0 c1 c2 c3 c4 c5 c6 c7 c8 c9 c10 f0 f1 f2 f3 f4 f5 f6 f7 f8 f9 f10
          generalize World.setCell (World.setCell (World.setCell (World.setCell (World.setCell (World.setCell (World.setCell (World.setCell (World.setCell (World.setCell (World.setCell wg _ _) _ _) _ _) _ _) _ _) _ _) _ _) _ _) _ _) _ _) _ _ = wz at *
          obtain ⟨⟨c0, c1, c2, c3, c4, c5, c6, c7, c8, c9, c10⟩, -⟩ := eleven (SZ.out.has (Has.l (has_blk _ _ _)))
          exact bodyPost_ret (v := .tuple #[.agg zeroCells, .int .i64 0, .bool false]) (by simp [results, Tryd.results16, go_sem, zeroCells, c0, c1, c2, c3, c4, c5, c6, c7, c8, c9, c10]) rfl ⟨nilQ, by rw [hFF]; rfl, by rw [hFF]; exact (none_lists SZ.out).left⟩
        | true =>
        have EB := Lib.hid (refBytes_any _ (goods hgb) _ wg HV2.out)
        unfold recCells at EB
        dsimp only at EB
        have hqq : ((ofL (bytes ⟨(a.1 : Nat), (b.1 : Nat), (c.1 : Nat), (d.1 : Nat), xs1, ⟨(e.1 : Nat), (f.1 : Nat), k.1, h.1⟩, xs2, xs3⟩)).toList == al.toList) = decide (bytes ⟨(a.1 : Nat), (b.1 : Nat), (c.1 : Nat), (d.1 : Nat), xs1, ⟨(e.1 : Nat), (f.1 : Nat), k.1, h.1⟩, xs2, xs3⟩ = s.take (n + 8)) := by
          rw [str_eq, ← HAL.out]
          congr 1
          apply propext
          exact ⟨fun h => ofL_inj h, fun h => by rw [h]⟩
        have HQQ := Lib.hid hqq
        clear hqq
        generalize hbb : bytes ⟨(a.1 : Nat), (b.1 : Nat), (c.1 : Nat), (d.1 : Nat), xs1, ⟨(e.1 : Nat), (f.1 : Nat), k.1, h.1⟩, xs2, xs3⟩ = bb at *
        obtain ⟨⟨c0, c1, c2, c3, c4, c5, c6, c7, c8, c9, c10⟩, -⟩ := eleven (Y.out.has (Has.l (has_blk _ _ _)))
        go_wp2_with fail
        refine EB.out.mono ?_
        rintro e' wh ⟨rfl, hX⟩
        have Z := Lib.hid (Y.out.below hX)
        have HV3 := Lib.hid (HV2.out.keep hX)
        clear hX Y HV2 EB c0 c1 c2 c3 c4 c5 c6 c7 c8 c9 c10
        have hqq := HQQ.out
        by_cases hd : bb = s.take (n + 8)
        case neg =>
          rw [decide_eq_false hd] at hqq
          have hFF : F = false := by rw [HF.out, HPR.out]; simp [fitsD, hb, hgb, hbb, HNS.out, hd]
          have SL := Lib.hid (last Z.out)
          obtain ⟨⟨c0, c1, c2, c3, c4, c5, c6, c7, c8, c9, c10⟩, f0, f1, f2, f3, f4, f5, f6, f7, f8, f9, f10⟩ := eleven (SL.out.has (Has.l (has_blk _ _ _)))
          go_upto_region 28 with fail
          repeat (first | go_values | go_skip | go_guarded | go_step | go_upon)
          have SZ := Lib.hid (own_eleven SL.out (.int .i64 0) (.int .i64 0) (.int .i64 0) (.int .i64 0) (.slice none 0 0) (.int .i64 0) (.int .i64 0) (.string ⟨#[]⟩) (.string ⟨#[]⟩) (.slice none 0 0) (.slice none 0 0))
          clear SL Z c0 c1 c2 c3 c4 c5 c6 c7 c8 c9 c10 f0 f1 f2 f3 f4 f5 f6 f7 f8 f9 f10
          generalize World.setCell (World.setCell (World.setCell (World.setCell (World.setCell (World.setCell (World.setCell (World.setCell (World.setCell (World.setCell (World.setCell wh _ _) _ _) _ _) _ _) _ _) _ _) _ _) _ _) _ _) _ _) _ _ = wz at *
          obtain ⟨⟨c0, c1, c2, c3, c4, c5, c6, c7, c8, c9, c10⟩, -⟩ := eleven (SZ.out.has (Has.l (has_blk _ _ _)))
          exact bodyPost_ret (v := .tuple #[.agg zeroCells, .int .i64 0, .bool false]) (by simp [results, Tryd.results16, go_sem, zeroCells, c0, c1, c2, c3, c4, c5, c6, c7, c8, c9, c10]) rfl ⟨nilQ, by rw [hFF]; rfl, by rw [hFF]; exact (none_lists SZ.out).left⟩
        rw [decide_eq_true hd] at hqq
        have hFF : F = true := by rw [HF.out, HPR.out]; simp [fitsD, hb, hgb, hbb, HNS.out, hd]
        obtain ⟨⟨b0, b1, b2, b3, b4, b5, b6, b7, b8, b9, b10⟩, -⟩ := eleven (Z.out.has (Has.l (has_blk _ _ _)))
        have SL := Lib.hid (last Z.out)
        obtain ⟨⟨c0, c1, c2, c3, c4, c5, c6, c7, c8, c9, c10⟩, f0, f1, f2, f3, f4, f5, f6, f7, f8, f9, f10⟩ := eleven (SL.out.has (Has.l (has_blk _ _ _)))
        have HD := Lib.hid hd
        clear hd HP HF HRR HPR hx1 hx2 hx3 HE2 HE3 hs1 hs2 hw1 hw2 hhd hyb hlt HQQ hgb hbb HAL HNS
        go_wp2_with fail
        have SZ := Lib.hid (own_eleven SL.out (.int .i64 (a.1 : Nat)) (.int .i64 (b.1 : Nat)) (.int .i64 (c.1 : Nat)) (.int .i64 (d.1 : Nat)) (.slice V1 xs1.length q1) (.int .i64 (e.1 : Nat)) (.int .i64 (f.1 : Nat)) (.string (ofL k.1)) (.string (ofL h.1)) (.slice V2 xs2.length q2) (.slice V3 xs3.length q3))
        clear SL Z c0 c1 c2 c3 c4 c5 c6 c7 c8 c9 c10 f0 f1 f2 f3 f4 f5 f6 f7 f8 f9 f10 b0 b1 b2 b3 b4 b5 b6 b7 b8 b9 b10
        generalize World.setCell (World.setCell (World.setCell (World.setCell (World.setCell (World.setCell (World.setCell (World.setCell (World.setCell (World.setCell (World.setCell wh _ _) _ _) _ _) _ _) _ _) _ _) _ _) _ _) _ _) _ _) _ _ = wz at *
        obtain ⟨⟨c0, c1, c2, c3, c4, c5, c6, c7, c8, c9, c10⟩, -⟩ := eleven (SZ.out.has (Has.l (has_blk _ _ _)))
        have hv := SZ.out.right.comm.imp (Imp.r (fun _ _ => sep_comm))
        exact bodyPost_ret (v := .tuple #[.agg #[.int .i64 (a.1 : Nat), .int .i64 (b.1 : Nat), .int .i64 (c.1 : Nat), .int .i64 (d.1 : Nat), .slice V1 xs1.length q1, .int .i64 (e.1 : Nat), .int .i64 (f.1 : Nat), .string (ofL k.1), .string (ofL h.1), .slice V2 xs2.length q2, .slice V3 xs3.length q3], .int .i64 ((n : Int) + 8), .bool true]) (by simp [results, Tryd.results16, go_sem, c0, c1, c2, c3, c4, c5, c6, c7, c8, c9, c10]) rfl ⟨(.slice V1 xs1.length q1, .slice V2 xs2.length q2, .slice V3 xs3.length q3), by rw [hFF, HR0.out, show ((n : Int) + 8) = ((n + 8 : Nat) : Int) by omega]; rfl, by rw [hFF, HR0.out]; exact hv⟩

theorem refRead_own (s : By) (w : World) (hs : s.length ≤ 140737488355328) :
    Calls Tryd.prog 16 #[.string (ofL s)] w fun e w' => ∃ q, e = .returned (dV (readR s) (recV (rR (readR s)) q)) ∧ Own w No w' (aLists (rR (readR s)) q) := by
  rw [← readD_eq]
  by_cases h1 : few s = true
  · have e2 : readD s = none := by unfold readD; rw [if_pos h1]
    rw [e2]
    exact refRead_few s w hs h1
  have e2 : readD s = fitO (fitsD s (pRec ⟨inner s, false⟩)) ((pRec ⟨inner s, false⟩).1, hd s + 8) := by unfold readD; rw [if_neg h1]; rfl
  rw [e2]
  obtain ⟨h4, h8⟩ := few_no h1
  exact refRead_long s w hs h4 h8 _ rfl _ rfl
end Go.Proofs.YtciamgggblajoaaDoor.Nt
