/- A page's node. -/
import Derived.Test.YtapdpdhibpblgaaGreatDoorTrX
import Derived.Test.YtapdpdhibpblgaaGreatDoorNdY
namespace Go.Proofs.YtapdpdhibpblgaaGreatDoor.Tr
open Go.ChangeShapes Go.WideShapes Go.ChangeAt Go.RowKit Go.PlainAid Aid Nt Nd Cr
set_option linter.unusedVariables false
set_option linter.unusedSimpArgs false
set_option linter.unusedSectionVars false
theorem step_store {P : Program} {ops : Array Oper} {rest : List Oper} {o : Oper} {a : Act} {Q : Exit → Act → World → Prop} {w : World} (hgd : o.guard = none) (hd : o.dst = none) (p x : Operand) (t : TypeId) (ho : o.op = .store t p x)
    (pv xv : Value) (hp : a.eval p = pv) (hx : a.eval x = xv) (w' : World) (hr : (Instr.storeAt t pv xv).run P w = .ok () w') (h : wpList P ops Q rest a w') : wpList P ops Q (o :: rest) a w := by
  refine wpList_plain hgd fun K hK => ?_
  unfold Oper.wp execOp
  subst hp hx
  simp only [ho, Sem.run_bind, Sem.run_pure, Result.andThen_ok, hr]
  rw [Oper.upon_skip, hd]
  exact hK _ _ h
set_option maxRecDepth 100000 in
set_option maxHeartbeats 8000000 in
theorem storeN {w : World} {g : Nat} {a0 a1 a2 a3 a4 a5 a6 : Value} (h : Blk w g 31 #[a0, a1, a2, a3, a4, a5, a6]) (b0 b1 b2 b5 : Int) (b3 : Bool) (b4 : ByteArray) (A : Option Addr) (m c : Nat) :
    (Instr.storeAt 31 (.pointer (some ⟨g, 0, none⟩)) (.agg #[.int .i64 b0, .int .i64 b1, .int .i64 b2, .bool b3, .string b4, .int .i64 b5, .slice A m c])).run Tryz.prog w =
      .ok () (((((((w.setCell ⟨g, 0, none⟩ (.int .i64 b0)).setCell ⟨g, 1, none⟩ (.int .i64 b1)).setCell ⟨g, 2, none⟩ (.int .i64 b2)).setCell ⟨g, 3, none⟩ (.bool b3)).setCell ⟨g, 4, none⟩ (.string b4)).setCell ⟨g, 5, none⟩ (.int .i64 b5)).setCell ⟨g, 6, none⟩ (.slice A m c)) := by
  obtain ⟨⟨d0, d1, d2, d3, d4, d5, d6⟩, f0, f1, f2, f3, f4, f5, f6⟩ := seven h
  clear h
  go_simp
set_option maxRecDepth 100000 in
set_option maxHeartbeats 8000000 in
theorem resN {fn : Func} {x y : Nat} {tm : Array Value} {w : World} {g : Nat} {a0 a1 a2 a3 a4 a5 a6 v1 : Value} (hf : fn.results = #[.cell x 31, .tmp y]) (hx : tm[x]?.getD undef = .pointer (some ⟨g, 0, none⟩)) (hy : tm[y]?.getD undef = v1)
    (hB : Blk w g 31 #[a0, a1, a2, a3, a4, a5, a6]) : (results fn tm).run Tryz.prog w = .ok (.tuple #[.agg #[a0, a1, a2, a3, a4, a5, a6], v1]) w := by
  obtain ⟨⟨c0, c1, c2, c3, c4, c5, c6⟩, -⟩ := seven hB
  clear hB
  unfold results
  rw [hf]
  simp [go_sem, hx, hy, c0, c1, c2, c3, c4, c5, c6]
/-- What a page's bytes are. -/
def Con (s : By) (nd : Nod) : Prop := (s = [] ∧ nd = Nod.none) ∨ readN s = some nd
section
variable (n g gd gl m b : Nat) (hv ov : Value) (H : List Sh) (D : List Db) (P : Nat → Sl.Pg) (q : Mn.Pw)
set_option maxRecDepth 100000 in
set_option maxHeartbeats 4000000 in
theorem read_no (x : Int) (hx : x < 0 ∨ (n : Int) ≤ x) (w0 w : World) (C : Asn) (hS : Own w0 No w (aTr g gd gl hv ov H D * (Sl.aDk gd m b n P * (Mn.aMn m q * C)))) :
    Calls Tryz.prog 46 #[tPtr g, .int .i64 x] w fun e w' => e = .returned (.tuple #[.agg zero7, .int .i64 1]) ∧ Own w0 No w' (aTr g gd gl hv ov H D * (Sl.aDk gd m b n P * (Mn.aMn m q * C))) := by
  have S := Lib.hid (hS.alloc zero7 31)
  have HR := Lib.hid (Sl.qRead_no gd m b n P q x hx)
  unfold tPtr zero7 at *
  clear hS hx
  go_enter Tryz.func46, Tryz.ntmps46
  go_upto_region 1 with fail
  obtain ⟨g3, hgz⟩ : ∃ g, g = w.heap.size := ⟨_, rfl⟩
  rw [← hgz] at S ⊢
  clear hgz
  generalize w.alloc _ = w1 at *
  obtain ⟨c0, -⟩ := tr_cells (S.out.has (Has.r (Has.l (Has.l (has_blk _ _ _)))))
  go_wp2_with fail
  refine ((S.out.re (show _ = (Sl.aDk gd m b n P * Mn.aMn m q) * (Asn.blk g3 31 #[.int .i64 0, .int .i64 0, .int .i64 0, .bool false, .string ⟨#[]⟩, .int .i64 0, .slice none 0 0] * (aTr g gd gl hv ov H D * C)) by ac_rfl)).ask HR.out.l).mono ?_
  rintro e w' ⟨rfl, kq, rfl⟩
  have S2 := Lib.hid (S.out.drewN kq)
  clear S HR c0
  generalize w1.drewN kq = w2 at *
  have HST := Lib.hid (storeN (S2.out.has (Has.l (has_blk _ _ _))) 0 0 0 0 false ⟨#[]⟩ none 0 0)
  have S3 := Lib.hid (own_seven S2.out (.int .i64 0) (.int .i64 0) (.int .i64 0) (.bool false) (.string ⟨#[]⟩) (.int .i64 0) (.slice none 0 0))
  clear S2
  go_wp2_with (with_reducible refine step_store rfl rfl (.tmp 4) (.tmp 23) 31 rfl (.pointer (some ⟨g3, 0, none⟩)) (.agg #[.int .i64 0, .int .i64 0, .int .i64 0, .bool false, .string ⟨#[]⟩, .int .i64 0, .slice none 0 0]) ?c1 ?c2 _ HST.out ?_)
  try (case c1 => rfl)
  try (case c2 => rfl)
  exact bodyPost_ret (resN rfl rfl rfl (S3.out.has (Has.l (has_blk _ _ _)))) rfl ⟨rfl, S3.out.right⟩
set_option maxRecDepth 100000 in
set_option maxHeartbeats 4000000 in
theorem read_yes (hq : q.on = true) (p : Nat) (hp : p < n) (s : By) (hs : (P p).now = ofL s) (nd : Nod) (hc : Con s nd) (w0 w : World) (C : Asn) (ht : Tab w0) (hS : Own w0 No w (aTr g gd gl hv ov H D * (Sl.aDk gd m b n P * (Mn.aMn m q * C)))) :
    Calls Tryz.prog 46 #[tPtr g, .int .i64 p] w fun e w' => ∃ v', e = .returned (.tuple #[.agg (nodCells nd v'), .int .i64 0]) ∧ Own w0 No w' (aEnts nd v' * (aTr g gd gl hv ov H D * (Sl.aDk gd m b n P * (Mn.aMn m q * C)))) := by
  have S := Lib.hid (hS.alloc zero7 31)
  have HR := Lib.hid (Sl.qRead_on gd m b n P q p hp hq)
  rw [hs] at HR
  have hnil := nil_str s
  have HT := Lib.hid ht
  have HRd := Lib.hid (fun w ht => Nd.Read_own s w ht)
  unfold tPtr zero7 at *
  clear hS hs ht
  go_enter Tryz.func46, Tryz.ntmps46
  go_upto_region 1 with fail
  obtain ⟨g3, hgz⟩ : ∃ g, g = w.heap.size := ⟨_, rfl⟩
  rw [← hgz] at S ⊢
  clear hgz
  generalize w.alloc _ = w1 at *
  obtain ⟨c0, -⟩ := tr_cells (S.out.has (Has.r (Has.l (Has.l (has_blk _ _ _)))))
  go_wp2_with fail
  refine ((S.out.re (show _ = (Sl.aDk gd m b n P * Mn.aMn m q) * (Asn.blk g3 31 #[.int .i64 0, .int .i64 0, .int .i64 0, .bool false, .string ⟨#[]⟩, .int .i64 0, .slice none 0 0] * (aTr g gd gl hv ov H D * C)) by ac_rfl)).ask HR.out.l).mono ?_
  rintro e w' ⟨rfl, kq, rfl⟩
  have S2 := Lib.hid (S.out.drewN kq)
  clear S HR c0
  generalize w1.drewN kq = w2 at *
  by_cases hsn : s = []
  · have hb : ((ofL s).toList == (⟨#[]⟩ : ByteArray).toList) = true := by rw [hnil]; simpa using hsn
    have hb3 : (ofL s).toList.isEmpty = true := by rw [Nd.ofL_toList, hsn]; rfl
    have hnd : nd = Nod.none := by
      rcases hc with ⟨-, h⟩ | h
      · exact h
      · subst hsn; exact absurd h (by rw [unsealed_none [] rfl]; simp)
    subst hnd
    clear hnil hc
    generalize ofL s = z at *
    have HST := Lib.hid (storeN (S2.out.has (Has.l (has_blk _ _ _))) 0 0 0 0 false ⟨#[]⟩ none 0 0)
    have S3 := Lib.hid (own_seven S2.out (.int .i64 0) (.int .i64 0) (.int .i64 0) (.bool false) (.string ⟨#[]⟩) (.int .i64 0) (.slice none 0 0))
    clear S2
    go_wp2_with (with_reducible refine step_store rfl rfl (.tmp 4) (.tmp 23) 31 rfl (.pointer (some ⟨g3, 0, none⟩)) (.agg #[.int .i64 0, .int .i64 0, .int .i64 0, .bool false, .string ⟨#[]⟩, .int .i64 0, .slice none 0 0]) ?c1 ?c2 _ HST.out ?_)
    try (case c1 => rfl)
    try (case c2 => rfl)
    exact bodyPost_ret (resN rfl rfl rfl (S3.out.has (Has.l (has_blk _ _ _)))) rfl ⟨.slice none 0 0, rfl, none_ents S3.out.right⟩
  · have hb : ((ofL s).toList == (⟨#[]⟩ : ByteArray).toList) = false := by rw [hnil]; simpa using hsn
    have hb3 : (ofL s).toList.isEmpty = false := by rw [Nd.ofL_toList]; simpa using hsn
    have hrd : readN s = some nd := by
      rcases hc with ⟨h, -⟩ | h
      · exact absurd h hsn
      · exact h
    rw [hrd] at HRd
    unfold Nd.rV Nd.rN nodCells at HRd
    dsimp only at HRd
    clear hnil hc hsn
    generalize ofL s = z at *
    go_wp2_with fail
    refine (HRd.out _ (Tab.own HT.out S2.out)).mono ?_
    rintro e w3 ⟨v', rfl, hX⟩
    obtain ⟨A', c', rfl⟩ := (show Own w2 No w3 (Asn.vec 83 3 v' nd.list.length (cells3 nd.list) * Asn.emp) from hX.addEmp).vec.slice
    have S3 := Lib.hid (own_front (own_join S2.out hX))
    clear hX S2 HRd
    have HST := Lib.hid (storeN (S3.out.has (Has.l (has_blk _ _ _))) nd.tree nd.level nd.stamp nd.right nd.has (ofL nd.high) A' nd.list.length c')
    have S4 := Lib.hid (own_seven S3.out (.int .i64 nd.tree) (.int .i64 nd.level) (.int .i64 nd.stamp) (.bool nd.has) (.string (ofL nd.high)) (.int .i64 nd.right) (.slice A' nd.list.length c'))
    clear S3
    go_wp2_with (with_reducible refine step_store rfl rfl (.tmp 4) (.tmp 27) 31 rfl (.pointer (some ⟨g3, 0, none⟩)) (.agg #[.int .i64 nd.tree, .int .i64 nd.level, .int .i64 nd.stamp, .bool nd.has, .string (ofL nd.high), .int .i64 nd.right, .slice A' nd.list.length c']) ?c1 ?c2 _ HST.out ?_)
    try (case c1 => rfl)
    try (case c2 => rfl)
    exact bodyPost_ret (resN rfl rfl rfl (S4.out.has (Has.l (has_blk _ _ _)))) rfl ⟨.slice A' nd.list.length c', rfl, S4.out.right⟩
section
variable (hn : n ≤ 256) (h : Nat → Option Sh) (hh : OkS h) (d : Nat → Option Db)
include hn hh
set_option maxRecDepth 100000 in
set_option maxHeartbeats 4000000 in
theorem node_no (x : Int) (hx : x < 0 ∨ (n : Int) ≤ x) (w0 w : World) (C : Asn) (hS : Own w0 No w (aTr g gd gl hv ov (lst h n) (lst d n) * (Sl.aDk gd m b n P * (Mn.aMn m q * C)))) :
    Calls Tryz.prog 18 #[tPtr g, .int .i64 x] w fun e w' => e = .returned (.tuple #[.agg zero7, .int .i64 1]) ∧ Own w0 No w' (aTr g gd gl hv ov (lst h n) (lst d n) * (Sl.aDk gd m b n P * (Mn.aMn m q * C))) := by
  have S := Lib.hid (hS.alloc zero7 31)
  obtain ⟨AH, cH, rfl⟩ := hS.left.right.vec.slice
  have HP := Lib.hid (fun w hw => place_no hh hn x hx (.slice AH (lst h n).length cH) w hw)
  have HR := Lib.hid (fun w C h' => read_no n g gd gl m b (.slice AH (lst h n).length cH) ov (lst h n) (lst d n) P q x hx w0 w C h')
  unfold num_sheet tPtr zero7 at *
  clear hS hx
  go_enter Tryz.func18, Tryz.ntmps18
  go_upto_region 1 with fail
  obtain ⟨g4, hgz⟩ : ∃ g, g = w.heap.size := ⟨_, rfl⟩
  rw [← hgz] at S ⊢
  clear hgz
  generalize w.alloc _ = w1 at *
  obtain ⟨-, -, c2, -⟩ := tr_cells (S.out.has (Has.r (Has.l (Has.l (has_blk _ _ _)))))
  go_wp2_with fail
  refine (HP.out _ S.out.right.left.right.vec).mono ?_
  rintro e w2 ⟨i, rfl, hX⟩
  have S2 := Lib.hid ((S.out.below hX).re (show _ = aTr g gd gl (.slice AH (lst h n).length cH) ov (lst h n) (lst d n) * (Sl.aDk gd m b n P * (Mn.aMn m q * (Asn.blk g4 31 #[.int .i64 0, .int .i64 0, .int .i64 0, .bool false, .string ⟨#[]⟩, .int .i64 0, .slice none 0 0] * C))) by ac_rfl))
  clear hX S HP c2
  go_wp2_with fail
  refine (HR.out _ _ S2.out).mono ?_
  rintro e w3 ⟨rfl, hX⟩
  have S3 := Lib.hid (hX.re (show _ = Asn.blk g4 31 #[.int .i64 0, .int .i64 0, .int .i64 0, .bool false, .string ⟨#[]⟩, .int .i64 0, .slice none 0 0] * (aTr g gd gl (.slice AH (lst h n).length cH) ov (lst h n) (lst d n) * (Sl.aDk gd m b n P * (Mn.aMn m q * C))) by ac_rfl))
  clear hX S2 HR
  have S4 := Lib.hid (own_front (S3.out.alloc #[.int .i64 0, .int .i64 0, .int .i64 0, .bool false, .string ⟨#[]⟩, .int .i64 0, .slice none 0 0] 31))
  clear S3
  go_upto_region 6 with fail
  obtain ⟨g8, hgz⟩ : ∃ g, g = w3.heap.size := ⟨_, rfl⟩
  rw [← hgz] at S4 ⊢
  clear hgz
  generalize w3.alloc _ = w4 at *
  have HST := Lib.hid (storeN (S4.out.has (Has.l (has_blk _ _ _))) 0 0 0 0 false ⟨#[]⟩ none 0 0)
  have S5 := Lib.hid (own_seven S4.out (.int .i64 0) (.int .i64 0) (.int .i64 0) (.bool false) (.string ⟨#[]⟩) (.int .i64 0) (.slice none 0 0))
  clear S4
  go_wp2_with (with_reducible refine step_store rfl rfl (.tmp 4) (.tmp 32) 31 rfl (.pointer (some ⟨g4, 0, none⟩)) (.agg #[.int .i64 0, .int .i64 0, .int .i64 0, .bool false, .string ⟨#[]⟩, .int .i64 0, .slice none 0 0]) ?c1 ?c2 _ HST.out ?_)
  try (case c1 => rfl)
  try (case c2 => rfl)
  exact bodyPost_ret (resN rfl rfl rfl (S5.out.has (Has.l (has_blk _ _ _)))) rfl ⟨rfl, S5.out.right.right⟩
set_option maxRecDepth 100000 in
set_option maxHeartbeats 4000000 in
theorem node_hit (p : Nat) (hp : p < n) (nd : Nod) (v : Value) (hs : h p = some ⟨p, nd, v⟩) (hl : nd.list.length ≤ 100000) (w0 w : World) (C : Asn) (hS : Own w0 No w (aTr g gd gl hv ov (lst h n) (lst d n) * C)) :
    Calls Tryz.prog 18 #[tPtr g, .int .i64 p] w fun e w' => ∃ v', e = .returned (.tuple #[.agg (nodCells nd v'), .int .i64 0]) ∧ Own w0 No w' (aEnts nd v' * (aTr g gd gl hv ov (lst h n) (lst d n) * C)) := by
  have hmem : (⟨p, nd, v⟩ : Sh) ∈ lst h n := List.mem_of_getElem? (lst_get h p n hp _ hs)
  have hrow : ∀ W : World, ∀ X : Asn, Own w0 No W (X * (aTr g gd gl hv ov (lst h n) (lst d n) * C)) → Row3 W v nd.list := fun W X hW => by
    have h' := hW.right
    rw [tr_b] at h'
    exact ns_at h'.right.right.right hmem
  obtain ⟨A0, c0, hv0⟩ := (ns_at (show Own w0 No w (aNs (lst h n) * C) from by
    have h' := hS
    rw [tr_b] at h'
    exact h'.right.right.right) hmem).slice
  dsimp only at hv0
  subst hv0
  have hlt : (lst h p).length < (lst h n).length := lst_lt h p n hp _ hs
  obtain ⟨bo, cH, rfl⟩ : ∃ b c, hv = .slice (some ⟨b, 0, none⟩) (lst h n).length c := by
    rcases hS.left.right.vec.forms with ⟨-, hz⟩ | ⟨g, cap, he, -⟩
    · omega
    · exact ⟨_, _, he⟩
  have S := Lib.hid (hS.alloc zero7 31)
  have HP := Lib.hid (fun w hw => place_s hh hn p hp (.slice (some ⟨bo, 0, none⟩) (lst h n).length cH) w hw)
  simp only [hs, Option.isSome_some] at HP
  have HROW := Lib.hid hrow
  have HA := Lib.hid (fun w hr => alone_any nd (.slice A0 nd.list.length c0) w hr hl)
  have HG := Lib.hid (fun (j : Nat) (hj : j < 8) => (show (shs (lst h n))[(lst h p).length * 8 + j]? = (shC ⟨p, nd, .slice A0 nd.list.length c0⟩)[j]? from shs_at _ _ _ (lst_get h p n hp _ hs) j hj))
  unfold num_sheet tPtr zero7 nodCells at *
  clear hS hrow hmem hs
  go_enter Tryz.func18, Tryz.ntmps18
  go_upto_region 1 with fail
  obtain ⟨g4, hgz⟩ : ∃ g, g = w.heap.size := ⟨_, rfl⟩
  rw [← hgz] at S ⊢
  clear hgz
  generalize w.alloc _ = w1 at *
  obtain ⟨-, -, c2, -⟩ := tr_cells (S.out.has (Has.r (Has.l (Has.l (has_blk _ _ _)))))
  go_wp2_with fail
  refine (HP.out _ S.out.right.left.right.vec).mono ?_
  rintro e w2 ⟨rfl, hX⟩
  have S2 := Lib.hid (S.out.below hX)
  clear hX S HP c2
  obtain ⟨-, -, c2, -⟩ := tr_cells (S2.out.has (Has.r (Has.l (Has.l (has_blk _ _ _)))))
  have hv' := S2.out.right.left.right.vec
  have q1 := hv'.cell (HG.out 1 (by decide))
  have q2 := hv'.cell (HG.out 2 (by decide))
  have q3 := hv'.cell (HG.out 3 (by decide))
  have q4 := hv'.cell (HG.out 4 (by decide))
  have q5 := hv'.cell (HG.out 5 (by decide))
  have q6 := hv'.cell (HG.out 6 (by decide))
  have q7 := hv'.cell (HG.out 7 (by decide))
  clear hv' HG
  go_wp2_with fail
  refine (HA.out _ (HROW.out _ _ S2.out)).mono ?_
  rintro e w3 ⟨v', rfl, hX⟩
  obtain ⟨A', c', rfl⟩ := hX.addEmp.vec.slice
  have S3 := Lib.hid (own_front (own_join S2.out hX))
  clear hX S2 HA HROW c2 q1 q2 q3 q4 q5 q6 q7
  have HST := Lib.hid (storeN (S3.out.has (Has.l (has_blk _ _ _))) nd.tree nd.level nd.stamp nd.right nd.has (ofL nd.high) A' nd.list.length c')
  have S4 := Lib.hid (own_seven S3.out (.int .i64 nd.tree) (.int .i64 nd.level) (.int .i64 nd.stamp) (.bool nd.has) (.string (ofL nd.high)) (.int .i64 nd.right) (.slice A' nd.list.length c'))
  clear S3
  go_wp2_with (with_reducible refine step_store rfl rfl (.tmp 4) (.tmp 55) 31 rfl (.pointer (some ⟨g4, 0, none⟩)) (.agg #[.int .i64 nd.tree, .int .i64 nd.level, .int .i64 nd.stamp, .bool nd.has, .string (ofL nd.high), .int .i64 nd.right, .slice A' nd.list.length c']) ?c1 ?c2 _ HST.out ?_)
  try (case c1 => rfl)
  try (case c2 => rfl)
  exact bodyPost_ret (resN rfl rfl rfl (S4.out.has (Has.l (has_blk _ _ _)))) rfl ⟨.slice A' nd.list.length c', rfl, S4.out.right⟩
set_option maxRecDepth 100000 in
set_option maxHeartbeats 8000000 in
theorem node_miss (hq : q.on = true) (p : Nat) (hp : p < n) (hs : h p = none) (s : By) (hps : (P p).now = ofL s) (nd : Nod) (hc : Con s nd) (hl : nd.list.length ≤ 100000) (w0 w : World) (C : Asn) (ht : Tab w0) (hS : Own w0 No w (aTr g gd gl hv ov (lst h n) (lst d n) * (Sl.aDk gd m b n P * (Mn.aMn m q * C)))) :
    Calls Tryz.prog 18 #[tPtr g, .int .i64 p] w fun e w' => ∃ r : Value × Value × Value, e = .returned (.tuple #[.agg (nodCells nd r.1), .int .i64 0]) ∧
      Own w0 No w' (aEnts nd r.1 * (aTr g gd gl r.2.1 ov (lst (put h p (some ⟨p, nd, r.2.2⟩)) n) (lst d n) * (Sl.aDk gd m b n P * (Mn.aMn m q * C)))) := by
  have S := Lib.hid (hS.alloc zero7 31)
  obtain ⟨AH, cH, rfl⟩ := hS.left.right.vec.slice
  have HM : Hid ((lst h p).length ≤ (lst h n).length) := Lib.hid (lst_mono h p n (by omega))
  have hln := lst_le h n
  have HP := Lib.hid (fun w hw => place_s hh hn p hp (.slice AH (lst h n).length cH) w hw)
  simp only [hs, Option.isSome_none] at HP
  have HR := Lib.hid (fun w C h' => read_yes n g gd gl m b (.slice AH (lst h n).length cH) ov (lst h n) (lst d n) P q hq p hp s hps nd hc w0 w C ht h')
  have HSV : Hid (∀ x, x ∈ lst h n → ∃ A m c, x.v = .slice A m c) := Lib.hid fun x hx => by
    obtain ⟨A, c, e⟩ := (ns_at (show Own w0 No w (aNs (lst h n) * (Sl.aDk gd m b n P * (Mn.aMn m q * C))) from by
      have := hS
      rw [tr_b] at this
      exact this.right.right.right) hx).slice
    exact ⟨A, _, c, e⟩
  have HA := Lib.hid (fun v w hr => alone_any nd v w hr hl)
  have HS := Lib.hid hs
  unfold num_sheet tPtr zero7 nodCells at *
  clear hS hps hc hs ht
  go_enter Tryz.func18, Tryz.ntmps18
  go_upto_region 1 with fail
  obtain ⟨g4, hgz⟩ : ∃ g, g = w.heap.size := ⟨_, rfl⟩
  rw [← hgz] at S ⊢
  clear hgz
  generalize w.alloc _ = w1 at *
  obtain ⟨-, -, c2, -⟩ := tr_cells (S.out.has (Has.r (Has.l (Has.l (has_blk _ _ _)))))
  go_wp2_with fail
  refine (HP.out _ S.out.right.left.right.vec).mono ?_
  rintro e w2 ⟨rfl, hX⟩
  have S2 := Lib.hid ((S.out.below hX).re (show _ = aTr g gd gl (.slice AH (lst h n).length cH) ov (lst h n) (lst d n) * (Sl.aDk gd m b n P * (Mn.aMn m q * (Asn.blk g4 31 #[.int .i64 0, .int .i64 0, .int .i64 0, .bool false, .string ⟨#[]⟩, .int .i64 0, .slice none 0 0] * C))) by ac_rfl))
  clear hX S HP c2
  go_wp2_with fail
  refine (HR.out _ _ S2.out).mono ?_
  rintro e w3 ⟨v1, rfl, hX⟩
  obtain ⟨A1, c1, rfl⟩ := (show Own w0 No w3 (Asn.vec 83 3 v1 nd.list.length (cells3 nd.list) * _) from hX).vec.slice
  have S3 := hX.alloc #[.int .i64 nd.tree, .int .i64 nd.level, .int .i64 nd.stamp, .bool nd.has, .string (ofL nd.high), .int .i64 nd.right, .slice A1 nd.list.length c1] 31
  have S4 := Lib.hid (S3.re (show _ = Asn.vec 98 8 (.slice AH (lst h n).length cH) (lst h n).length (shs (lst h n)) * (Asn.blk g 109 (trRow gd gl (.slice AH (lst h n).length cH) ov) * (Asn.blk w3.heap.size 31 #[.int .i64 nd.tree, .int .i64 nd.level, .int .i64 nd.stamp, .bool nd.has, .string (ofL nd.high), .int .i64 nd.right, .slice A1 nd.list.length c1] * (Asn.blk g4 31 #[.int .i64 0, .int .i64 0, .int .i64 0, .bool false, .string ⟨#[]⟩, .int .i64 0, .slice none 0 0] * ((Asn.vec 83 3 (.slice A1 nd.list.length c1) nd.list.length (cells3 nd.list) * aNs (lst h n)) * (Asn.vec 114 3 ov (lst d n).length (dbs (lst d n)) * (Sl.aDk gd m b n P * (Mn.aMn m q * C))))))) by unfold aTr aEnts; ac_rfl))
  clear S3 hX S2 HR
  go_upto_region 8 with fail
  obtain ⟨g8, hgz⟩ : ∃ g, g = w3.heap.size := ⟨_, rfl⟩
  rw [← hgz] at S4 ⊢
  clear hgz
  generalize w3.alloc _ = w4 at *
  have HX : Hid (h p = none) := HS
  have HE : Hid ((shs (lst h n)).take ((lst h p).length * 8) ++ [.int .i64 p, .int .i64 nd.tree, .int .i64 nd.level, .int .i64 nd.stamp, .bool nd.has, .string (ofL nd.high), .int .i64 nd.right, .slice A1 nd.list.length c1] ++ (shs (lst h n)).drop ((lst h p).length * 8) = shs (lst (put h p (some ⟨p, nd, .slice A1 nd.list.length c1⟩)) n)) := Lib.hid (by
    rw [put_some hp, lst_none hp HS.out]
    exact shs_ins _ _ ⟨p, nd, .slice A1 nd.list.length c1⟩)
  have HL : Hid ((lst h n).length + 1 = (lst (put h p (some ⟨p, nd, .slice A1 nd.list.length c1⟩)) n).length) := Lib.hid (by rw [put_some hp, lst_none hp HS.out, List.length_append, List.length_append, List.length_cons]; omega)
  have HN : Hid (∀ y, y ∈ lst (put h p (some ⟨p, nd, .slice A1 nd.list.length c1⟩)) n → y = ⟨p, nd, .slice A1 nd.list.length c1⟩ ∨ y ∈ lst h n) := Lib.hid (by
    rw [put_some hp, lst_none hp HS.out]
    intro y hy
    simp only [List.mem_append, List.mem_cons] at hy ⊢
    rcases hy with hy | hy | hy
    · exact Or.inr (Or.inl hy)
    · exact Or.inl hy
    · exact Or.inr (Or.inr hy))
  have S7 := Lib.hid (S4.out.alloc #[.int .i64 p, .int .i64 nd.tree, .int .i64 nd.level, .int .i64 nd.stamp, .bool nd.has, .string (ofL nd.high), .int .i64 nd.right, .slice A1 nd.list.length c1] 98).drew
  have HI := Lib.hid (ins_sheet (ys := [.int .i64 p, .int .i64 nd.tree, .int .i64 nd.level, .int .i64 nd.stamp, .bool nd.has, .string (ofL nd.high), .int .i64 nd.right, .slice A1 nd.list.length c1]) (lst h p).length HM.out (by omega) rfl rfl (by intro u hu; simp at hu; rcases hu with rfl | rfl | rfl | rfl | rfl | rfl | rfl | rfl <;> rfl) (shs_one _ HSV.out) S7.out)
  obtain ⟨-, -, c2, -⟩ := tr_cells (S4.out.has (Has.r (Has.l (has_blk _ _ _))))
  obtain ⟨⟨k0, k1, k2, k3, k4, k5, k6⟩, -⟩ := seven (S4.out.has (Has.r (Has.r (Has.l (has_blk _ _ _)))))
  have c2B := (tr_cells (S7.out.has (Has.r (Has.r (Has.l (has_blk _ _ _)))))).2.2.1
  go_region_with (go_at_call 47; refine HI.out.mono ?_; rintro e w5 ⟨v5, rfl, hX⟩; obtain ⟨A5, c5, rfl⟩ := hX.vec.slice; have S8 := Lib.hid hX; have f22 := (tr_cells (S8.out.has (Has.r (Has.l (has_blk _ _ _))))).2.2.2.2.1; have c22 := (tr_cells (S8.out.has (Has.r (Has.l (has_blk _ _ _))))).2.2.1)
  all_goals
    have S9 := S8.out.set (Sets.r (Sets.l (sets_blk g 109 _ 2 (.slice A5 ((lst h n).length + 1) c5))))
    rw [HE.out] at S9
    have S10 := Lib.hid S9
    clear S8 S9 c22 f22 HI S7 S4 k0 k1 k2 k3 k4 k5 k6 c2 c2B
    generalize World.setCell w5 _ _ = w6 at *
    have S11 := Lib.hid (S10.out.imp (Imp.r (Imp.r (Imp.r (Imp.r (Imp.l (ns_add _ _ ⟨p, nd, .slice A1 nd.list.length c1⟩ HN.out)))))))
    clear S10
    have hlt : (lst h p).length < (lst h n).length + 1 := by have := HM.out; omega
    have hget : (lst (put h p (some ⟨p, nd, .slice A1 nd.list.length c1⟩)) n)[(lst h p).length]? = some ⟨p, nd, .slice A1 nd.list.length c1⟩ := by
      have h1 := lst_get (put h p (some ⟨p, nd, .slice A1 nd.list.length c1⟩)) p n hp _ (put_same h p _)
      rwa [lst_congr (put h p (some ⟨p, nd, .slice A1 nd.list.length c1⟩)) h p (fun i hi => put_other h p i _ (by omega))] at h1
    have hrow := ns_at S11.out.right.right.right.right (List.mem_of_getElem? hget)
    obtain ⟨bo, rfl⟩ : ∃ b, A5 = some ⟨b, 0, none⟩ := by
      rcases S11.out.vec.forms with ⟨he, -⟩ | ⟨g, cap, he, -⟩
      · cases he
      · cases he; exact ⟨_, rfl⟩
    obtain ⟨-, -, c2, -⟩ := tr_cells (S11.out.has (Has.r (Has.l (has_blk _ _ _))))
    have hv' := S11.out.vec
    have q1 := hv'.cell (show (shs (lst (put h p (some ⟨p, nd, .slice A1 nd.list.length c1⟩)) n))[(lst h p).length * 8 + 1]? = some _ from (shs_at _ _ _ hget 1 (by decide)).trans rfl)
    have q2 := hv'.cell (show (shs (lst (put h p (some ⟨p, nd, .slice A1 nd.list.length c1⟩)) n))[(lst h p).length * 8 + 2]? = some _ from (shs_at _ _ _ hget 2 (by decide)).trans rfl)
    have q3 := hv'.cell (show (shs (lst (put h p (some ⟨p, nd, .slice A1 nd.list.length c1⟩)) n))[(lst h p).length * 8 + 3]? = some _ from (shs_at _ _ _ hget 3 (by decide)).trans rfl)
    have q4 := hv'.cell (show (shs (lst (put h p (some ⟨p, nd, .slice A1 nd.list.length c1⟩)) n))[(lst h p).length * 8 + 4]? = some _ from (shs_at _ _ _ hget 4 (by decide)).trans rfl)
    have q5 := hv'.cell (show (shs (lst (put h p (some ⟨p, nd, .slice A1 nd.list.length c1⟩)) n))[(lst h p).length * 8 + 5]? = some _ from (shs_at _ _ _ hget 5 (by decide)).trans rfl)
    have q6 := hv'.cell (show (shs (lst (put h p (some ⟨p, nd, .slice A1 nd.list.length c1⟩)) n))[(lst h p).length * 8 + 6]? = some _ from (shs_at _ _ _ hget 6 (by decide)).trans rfl)
    have q7 := hv'.cell (show (shs (lst (put h p (some ⟨p, nd, .slice A1 nd.list.length c1⟩)) n))[(lst h p).length * 8 + 7]? = some _ from (shs_at _ _ _ hget 7 (by decide)).trans rfl)
    clear hv' hget
    go_wp2_with fail
    refine (HA.out _ _ hrow).mono ?_
    rintro e w7 ⟨v', rfl, hX⟩
    obtain ⟨A', c', rfl⟩ := hX.addEmp.vec.slice
    have SX := own_join S11.out hX
    rw [HL.out] at SX
    have S12 := Lib.hid (SX.re (show _ = Asn.blk g4 31 #[.int .i64 0, .int .i64 0, .int .i64 0, .bool false, .string ⟨#[]⟩, .int .i64 0, .slice none 0 0] * (Asn.blk g8 31 #[.int .i64 nd.tree, .int .i64 nd.level, .int .i64 nd.stamp, .bool nd.has, .string (ofL nd.high), .int .i64 nd.right, .slice A1 nd.list.length c1] * (aEnts nd (.slice A' nd.list.length c') * (aTr g gd gl (.slice (some ⟨bo, 0, none⟩) (lst (put h p (some ⟨p, nd, .slice A1 nd.list.length c1⟩)) n).length c5) ov (lst (put h p (some ⟨p, nd, .slice A1 nd.list.length c1⟩)) n) (lst d n) * (Sl.aDk gd m b n P * (Mn.aMn m q * C))))) by unfold aTr aEnts trRow; ac_rfl))
    clear SX hX S11 hrow c2 q1 q2 q3 q4 q5 q6 q7
    have HST := Lib.hid (storeN (S12.out.has (Has.l (has_blk _ _ _))) nd.tree nd.level nd.stamp nd.right nd.has (ofL nd.high) A' nd.list.length c')
    have S13 := Lib.hid (own_seven S12.out (.int .i64 nd.tree) (.int .i64 nd.level) (.int .i64 nd.stamp) (.bool nd.has) (.string (ofL nd.high)) (.int .i64 nd.right) (.slice A' nd.list.length c'))
    clear S12
    go_wp2_with (with_reducible refine step_store rfl rfl (.tmp 4) (.tmp 55) 31 rfl (.pointer (some ⟨g4, 0, none⟩)) (.agg #[.int .i64 nd.tree, .int .i64 nd.level, .int .i64 nd.stamp, .bool nd.has, .string (ofL nd.high), .int .i64 nd.right, .slice A' nd.list.length c']) ?c1 ?c2 _ HST.out ?_)
    try (case c1 => rfl)
    try (case c2 => rfl)
    exact bodyPost_ret (resN rfl rfl rfl (S13.out.has (Has.l (has_blk _ _ _)))) rfl ⟨(_, _, _), rfl, S13.out.right.right⟩
end
end
end Go.Proofs.YtapdpdhibpblgaaGreatDoor.Tr
