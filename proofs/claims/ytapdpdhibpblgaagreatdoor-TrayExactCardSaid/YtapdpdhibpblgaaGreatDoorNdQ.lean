/- The document's reading of a page. -/
import Derived.Test.YtapdpdhibpblgaaGreatDoorNdY
import Derived.Test.YtapdpdhibpblgaaGreatDoorTrZ
import Derived.Test.YtapdpdhibpblgaaGreatDoorNtB
import Derived.Test.YtapdpdhibpblgaaGreatDoorNdD
import Derived.Test.YtapdpdhibpblgaaGreatDoorNdF
import Derived.Test.YtapdpdhibpblgaaGreatDoorNdBy
import Derived.Deep.CutBlock
import Derived.Deep.RegionHeld3
namespace Go.Proofs.YtapdpdhibpblgaaGreatDoor.Nd
open Go.ChangeShapes Go.WideShapes Go.ChangeAt Go.RowKit Go.PlainAid Aid Cr Nt
set_option linter.unusedVariables false
set_option linter.unusedSimpArgs false
theorem imp_front2 {A B C : Asn} : Imp (A * (B * C)) (B * (A * C)) := fun w O h => sep_assoc ((Imp.l (fun _ _ => sep_comm)) w O (sep_assoc' h))
theorem wpList_store {P : Program} {ops : Array Oper} {rest : List Oper} {o : Oper} {a : Act} {Q : Exit → Act → World → Prop} {w : World} (hgd : o.guard = none) (hd : o.dst = none) (p x : Operand) (t : TypeId) (ho : o.op = .store t p x)
    (pv xv : Value) (hp : a.eval p = pv) (hx : a.eval x = xv) (w' : World) (hr : (Instr.storeAt t pv xv).run P w = .ok () w') (h : wpList P ops Q rest a w') : wpList P ops Q (o :: rest) a w := by
  refine wpList_plain hgd fun K hK => ?_
  unfold Oper.wp execOp
  subst hp hx
  simp only [ho, Sem.run_bind, Sem.run_pure, Result.andThen_ok, hr]
  rw [Oper.upon_skip, hd]
  exact hK _ _ h
set_option maxRecDepth 100000 in
set_option maxHeartbeats 8000000 in
theorem store_nod {w : World} {g : Nat} {a0 a1 a2 a3 a4 a5 a6 : Value} (h : Blk w g 31 #[a0, a1, a2, a3, a4, a5, a6]) (b0 b1 b2 b5 : Int) (b3 : Bool) (b4 : ByteArray) (A : Option Addr) (m c : Nat) :
    (Instr.storeAt 31 (.pointer (some ⟨g, 0, none⟩)) (.agg #[.int .i64 b0, .int .i64 b1, .int .i64 b2, .bool b3, .string b4, .int .i64 b5, .slice A m c])).run Tryz.prog w =
      .ok () (((((((w.setCell ⟨g, 0, none⟩ (.int .i64 b0)).setCell ⟨g, 1, none⟩ (.int .i64 b1)).setCell ⟨g, 2, none⟩ (.int .i64 b2)).setCell ⟨g, 3, none⟩ (.bool b3)).setCell ⟨g, 4, none⟩ (.string b4)).setCell ⟨g, 5, none⟩ (.int .i64 b5)).setCell ⟨g, 6, none⟩ (.slice A m c)) := by
  obtain ⟨⟨d0, d1, d2, d3, d4, d5, d6⟩, f0, f1, f2, f3, f4, f5, f6⟩ := seven h
  clear h
  go_simp
set_option maxRecDepth 100000 in
set_option maxHeartbeats 8000000 in
theorem res_nod {fn : Func} {x y : Nat} {tm : Array Value} {w : World} {g : Nat} {a0 a1 a2 a3 a4 a5 a6 v1 : Value} (hf : fn.results = #[.cell x 31, .tmp y]) (hx : tm[x]?.getD undef = .pointer (some ⟨g, 0, none⟩)) (hy : tm[y]?.getD undef = v1)
    (hB : Blk w g 31 #[a0, a1, a2, a3, a4, a5, a6]) : (results fn tm).run Tryz.prog w = .ok (.tuple #[.agg #[a0, a1, a2, a3, a4, a5, a6], v1]) w := by
  obtain ⟨⟨c0, c1, c2, c3, c4, c5, c6⟩, -⟩ := seven hB
  clear hB
  unfold results
  rw [hf]
  simp [go_sem, hx, hy, c0, c1, c2, c3, c4, c5, c6]
set_option maxRecDepth 100000 in
set_option maxHeartbeats 64000000 in
theorem refRead_page (s : By) (w : World) (hl : s.length = 256) (hsl : sealedL s = true) :
    Calls Tryz.prog 52 #[.string (ofL s)] w fun e w' => ∃ v, e = .returned (dV (readD s) (.agg (nodCells (rN (readD s)) v))) ∧ Own w No w' (aEnts (rN (readD s)) v) := by
  have S := Lib.hid ((Own.none w).alloc zero7 31)
  have HO := Lib.hid (fun w' => refOpen_any (ofL s) w' (by rw [ofL_sz]; omega))
  have hop : openV (ofL s) = .tuple #[.string (ofL (s.take 252)), .bool true] := by
    unfold openV; rw [sealed_ofL, body_ofL, hsl, hl]; rfl
  rw [hop] at HO
  have hy : (ofL (s.take 252)).size = 252 := by rw [ofL_sz, List.length_take]; omega
  clear hop
  obtain ⟨t, ht⟩ : ∃ t, t = s.take 252 := ⟨_, rfl⟩
  rw [← ht] at HO hy
  have HT := Lib.hid ht
  clear ht
  have htl : t.length = 252 := by rw [← ofL_sz]; exact hy
  have HYB : Hid (∀ (i : Nat) (h : i < (ofL t).size), ((ofL t)[i]'h) = t.getD i 0) := Lib.hid fun i h => by
    have h' : i < t.length := h
    rw [List.getD, List.getElem?_eq_getElem h']; rfl
  have HSL : Hid (∀ (a b : Nat), a ≤ b → b ≤ 252 → ∀ W, (Instr.slice 9 (.string (ofL t)) (some (.int .i64 a)) (some (.int .i64 b)) none).run Tryz.prog W = .ok (.string (ofL ((t.drop a).take (b - a)))) W) := Lib.hid fun a b h1 h2 W => by
    have := run_slice_string (P := Tryz.prog) W 9 (ofL t) .i64 .i64 (a : Int) (b : Int) Tryz.underlying9 (by omega) (by omega) (by rw [hy]; omega)
    rw [Int.toNat_natCast, Int.toNat_natCast] at this
    rw [this]
    congr 2
    apply list_inj
    rw [Lib.extract_data]
    rfl
  unfold zero7 at *
  generalize hx : ofL s = x at *
  generalize hyy : ofL t = y at *
  go_enter Tryz.func52, Tryz.ntmps52
  go_wp2_with fail
  obtain ⟨g2, hgz⟩ : ∃ g, g = w.heap.size := ⟨_, rfl⟩
  rw [← hgz] at S ⊢
  clear hgz
  generalize w.alloc _ = w1 at *
  refine (HO.out _).mono ?_
  rintro e w2 ⟨rfl, hX⟩
  have S1 := Lib.hid (S.out.below hX)
  clear hX S HO
  go_upto_region 4 with fail
  have hlt : ∀ i, i < 252 → i < y.size := fun i h => by omega
  have hwa : ∀ (b : UInt8), IntKind.i64.wrap (b.toNat : Int) = (b.toNat : Int) := fun b => by have := b.toNat_lt; rw [IntKind.wrap_i64]; omega
  have hwb : ∀ (b : UInt8), IntKind.i64.wrap ((b.toNat : Int) * 256) = (b.toNat : Int) * 256 := fun b => by have := b.toNat_lt; rw [IntKind.wrap_i64]; omega
  have hwc : ∀ (b : UInt8), IntKind.i64.wrap ((b.toNat : Int) * 65536) = (b.toNat : Int) * 65536 := fun b => by have := b.toNat_lt; rw [IntKind.wrap_i64]; omega
  have hwd : ∀ (b : UInt8), IntKind.i64.wrap ((b.toNat : Int) * 16777216) = (b.toNat : Int) * 16777216 := fun b => by have := b.toNat_lt; rw [IntKind.wrap_i64]; omega
  have hwe : ∀ (a b : UInt8), IntKind.i64.wrap ((a.toNat : Int) + (b.toNat : Int) * 256) = (a.toNat : Int) + (b.toNat : Int) * 256 := fun a b => by have := a.toNat_lt; have := b.toNat_lt; rw [IntKind.wrap_i64]; omega
  have hwf : ∀ (a b c : UInt8), IntKind.i64.wrap ((a.toNat : Int) + (b.toNat : Int) * 256 + (c.toNat : Int) * 65536) = (a.toNat : Int) + (b.toNat : Int) * 256 + (c.toNat : Int) * 65536 := fun a b c => by have := a.toNat_lt; have := b.toNat_lt; have := c.toNat_lt; rw [IntKind.wrap_i64]; omega
  have hwg : ∀ (a b c d : UInt8), IntKind.i64.wrap ((a.toNat : Int) + (b.toNat : Int) * 256 + (c.toNat : Int) * 65536 + (d.toNat : Int) * 16777216) = (a.toNat : Int) + (b.toNat : Int) * 256 + (c.toNat : Int) * 65536 + (d.toNat : Int) * 16777216 := fun a b c d => by have := a.toNat_lt; have := b.toNat_lt; have := c.toNat_lt; have := d.toNat_lt; rw [IntKind.wrap_i64]; omega
  have SD := Lib.hid S1.out.drew
  refine wp_region_held_drew (S := fun W => True) (by kernel_rfl) trivial (fun hHeld => ?_)
  refine' wpAnyH_take (i := 0) (oi := ?op0) (v := ?vp0) ?hp0 ?sp0 ?fp0 ?zp0 ?qp0 ?yp0 ?ap0 ?rp0
  case hp0 => (simp only [List.getElem?_toArray, List.getElem?_cons_succ, List.getElem?_cons_zero]; rfl)
  case sp0 => kernel_rfl
  case fp0 => kernel_rfl
  case zp0 => kernel_rfl
  case qp0 => exact fun _ _ _ h => h
  case yp0 => (refine Or.inl ⟨rfl, ?_⟩; intro w hSw; (try dsimp only at hSw); go_simp; try with_reducible rfl)
  case ap0 => assumption
  case rp0 =>
  simp only [Act.put, List.setIfInBounds_toArray, List.set_cons_zero, List.set_cons_succ]
  refine' wpAnyH_take (i := 1) (oi := ?op1) (v := ?vp1) ?hp1 ?sp1 ?fp1 ?zp1 ?qp1 ?yp1 ?ap1 ?rp1
  case hp1 => (simp only [List.getElem?_toArray, List.getElem?_cons_succ, List.getElem?_cons_zero]; rfl)
  case sp1 => kernel_rfl
  case fp1 => kernel_rfl
  case zp1 => kernel_rfl
  case qp1 => exact fun _ _ _ h => h
  case yp1 => (refine Or.inl ⟨rfl, ?_⟩; intro w hSw; (try dsimp only at hSw); go_simp; try with_reducible rfl)
  case ap1 => assumption
  case rp1 =>
  simp only [Act.put, List.setIfInBounds_toArray, List.set_cons_zero, List.set_cons_succ]
  refine' wpAnyH_take (i := 2) (oi := ?op2) (v := ?vp2) ?hp2 ?sp2 ?fp2 ?zp2 ?qp2 ?yp2 ?ap2 ?rp2
  case hp2 => (simp only [List.getElem?_toArray, List.getElem?_cons_succ, List.getElem?_cons_zero]; rfl)
  case sp2 => kernel_rfl
  case fp2 => kernel_rfl
  case zp2 => kernel_rfl
  case qp2 => exact fun _ _ _ h => h
  case yp2 => (refine Or.inl ⟨rfl, ?_⟩; intro w hSw; (try dsimp only at hSw); go_simp; try with_reducible rfl)
  case ap2 => assumption
  case rp2 =>
  simp only [Act.put, List.setIfInBounds_toArray, List.set_cons_zero, List.set_cons_succ]
  refine' wpAnyH_take (i := 3) (oi := ?op3) (v := ?vp3) ?hp3 ?sp3 ?fp3 ?zp3 ?qp3 ?yp3 ?ap3 ?rp3
  case hp3 => (simp only [List.getElem?_toArray, List.getElem?_cons_succ, List.getElem?_cons_zero]; rfl)
  case sp3 => kernel_rfl
  case fp3 => kernel_rfl
  case zp3 => kernel_rfl
  case qp3 => exact fun _ _ _ h => h
  case yp3 => (refine Or.inl ⟨rfl, ?_⟩; intro w hSw; (try dsimp only at hSw); go_simp; try with_reducible rfl)
  case ap3 => assumption
  case rp3 =>
  simp only [Act.put, List.setIfInBounds_toArray, List.set_cons_zero, List.set_cons_succ]
  refine' wpAnyH_take (i := 4) (oi := ?op4) (v := ?vp4) ?hp4 ?sp4 ?fp4 ?zp4 ?qp4 ?yp4 ?ap4 ?rp4
  case hp4 => (simp only [List.getElem?_toArray, List.getElem?_cons_succ, List.getElem?_cons_zero]; rfl)
  case sp4 => kernel_rfl
  case fp4 => kernel_rfl
  case zp4 => kernel_rfl
  case qp4 => exact fun _ _ _ h => h
  case yp4 => (refine Or.inl ⟨rfl, ?_⟩; intro w hSw; (try dsimp only at hSw); go_simp; try with_reducible rfl)
  case ap4 => assumption
  case rp4 =>
  simp only [Act.put, List.setIfInBounds_toArray, List.set_cons_zero, List.set_cons_succ]
  refine' wpAnyH_take (i := 5) (oi := ?op5) (v := ?vp5) ?hp5 ?sp5 ?fp5 ?zp5 ?qp5 ?yp5 ?ap5 ?rp5
  case hp5 => (simp only [List.getElem?_toArray, List.getElem?_cons_succ, List.getElem?_cons_zero]; rfl)
  case sp5 => kernel_rfl
  case fp5 => kernel_rfl
  case zp5 => kernel_rfl
  case qp5 => exact fun _ _ _ h => h
  case yp5 => (refine Or.inl ⟨rfl, ?_⟩; intro w hSw; (try dsimp only at hSw); go_simp; try with_reducible rfl)
  case ap5 => assumption
  case rp5 =>
  simp only [Act.put, List.setIfInBounds_toArray, List.set_cons_zero, List.set_cons_succ]
  refine' wpAnyH_take (i := 6) (oi := ?op6) (v := ?vp6) ?hp6 ?sp6 ?fp6 ?zp6 ?qp6 ?yp6 ?ap6 ?rp6
  case hp6 => (simp only [List.getElem?_toArray, List.getElem?_cons_succ, List.getElem?_cons_zero]; rfl)
  case sp6 => kernel_rfl
  case fp6 => kernel_rfl
  case zp6 => kernel_rfl
  case qp6 => exact fun _ _ _ h => h
  case yp6 => (refine Or.inl ⟨rfl, ?_⟩; intro w hSw; (try dsimp only at hSw); go_simp; try with_reducible rfl)
  case ap6 => assumption
  case rp6 =>
  simp only [Act.put, List.setIfInBounds_toArray, List.set_cons_zero, List.set_cons_succ]
  refine' wpAnyH_take (i := 7) (oi := ?op7) (v := ?vp7) ?hp7 ?sp7 ?fp7 ?zp7 ?qp7 ?yp7 ?ap7 ?rp7
  case hp7 => (simp only [List.getElem?_toArray, List.getElem?_cons_succ, List.getElem?_cons_zero]; rfl)
  case sp7 => kernel_rfl
  case fp7 => kernel_rfl
  case zp7 => kernel_rfl
  case qp7 => exact fun _ _ _ h => h
  case yp7 => (refine Or.inl ⟨rfl, ?_⟩; intro w hSw; (try dsimp only at hSw); go_simp; try with_reducible rfl)
  case ap7 => assumption
  case rp7 =>
  simp only [Act.put, List.setIfInBounds_toArray, List.set_cons_zero, List.set_cons_succ]
  refine' wpAnyH_take (i := 8) (oi := ?op8) (v := ?vp8) ?hp8 ?sp8 ?fp8 ?zp8 ?qp8 ?yp8 ?ap8 ?rp8
  case hp8 => (simp only [List.getElem?_toArray, List.getElem?_cons_succ, List.getElem?_cons_zero]; rfl)
  case sp8 => kernel_rfl
  case fp8 => kernel_rfl
  case zp8 => kernel_rfl
  case qp8 => exact fun _ _ _ h => h
  case yp8 => (refine Or.inl ⟨rfl, ?_⟩; intro w hSw; (try dsimp only at hSw); go_simp; try with_reducible rfl)
  case ap8 => assumption
  case rp8 =>
  simp only [Act.put, List.setIfInBounds_toArray, List.set_cons_zero, List.set_cons_succ]
  refine' wpAnyH_take (i := 9) (oi := ?op9) (v := ?vp9) ?hp9 ?sp9 ?fp9 ?zp9 ?qp9 ?yp9 ?ap9 ?rp9
  case hp9 => (simp only [List.getElem?_toArray, List.getElem?_cons_succ, List.getElem?_cons_zero]; rfl)
  case sp9 => kernel_rfl
  case fp9 => kernel_rfl
  case zp9 => kernel_rfl
  case qp9 => exact fun _ _ _ h => h
  case yp9 => (refine Or.inl ⟨rfl, ?_⟩; intro w hSw; (try dsimp only at hSw); go_simp; try with_reducible rfl)
  case ap9 => assumption
  case rp9 =>
  simp only [Act.put, List.setIfInBounds_toArray, List.set_cons_zero, List.set_cons_succ]
  refine' wpAnyH_take (i := 10) (oi := ?op10) (v := ?vp10) ?hp10 ?sp10 ?fp10 ?zp10 ?qp10 ?yp10 ?ap10 ?rp10
  case hp10 => (simp only [List.getElem?_toArray, List.getElem?_cons_succ, List.getElem?_cons_zero]; rfl)
  case sp10 => kernel_rfl
  case fp10 => kernel_rfl
  case zp10 => kernel_rfl
  case qp10 => exact fun _ _ _ h => h
  case yp10 => (refine Or.inl ⟨rfl, ?_⟩; intro w hSw; (try dsimp only at hSw); go_simp; try with_reducible rfl)
  case ap10 => assumption
  case rp10 =>
  simp only [Act.put, List.setIfInBounds_toArray, List.set_cons_zero, List.set_cons_succ]
  refine' wpAnyH_take (i := 11) (oi := ?op11) (v := ?vp11) ?hp11 ?sp11 ?fp11 ?zp11 ?qp11 ?yp11 ?ap11 ?rp11
  case hp11 => (simp only [List.getElem?_toArray, List.getElem?_cons_succ, List.getElem?_cons_zero]; rfl)
  case sp11 => kernel_rfl
  case fp11 => kernel_rfl
  case zp11 => kernel_rfl
  case qp11 => exact fun _ _ _ h => h
  case yp11 => (refine Or.inl ⟨rfl, ?_⟩; intro w hSw; (try dsimp only at hSw); go_simp; try with_reducible rfl)
  case ap11 => assumption
  case rp11 =>
  simp only [Act.put, List.setIfInBounds_toArray, List.set_cons_zero, List.set_cons_succ]
  refine' wpAnyH_take (i := 12) (oi := ?op12) (v := ?vp12) ?hp12 ?sp12 ?fp12 ?zp12 ?qp12 ?yp12 ?ap12 ?rp12
  case hp12 => (simp only [List.getElem?_toArray, List.getElem?_cons_succ, List.getElem?_cons_zero]; rfl)
  case sp12 => kernel_rfl
  case fp12 => kernel_rfl
  case zp12 => kernel_rfl
  case qp12 => exact fun _ _ _ h => h
  case yp12 => (refine Or.inl ⟨rfl, ?_⟩; intro w hSw; (try dsimp only at hSw); go_simp; try with_reducible rfl)
  case ap12 => assumption
  case rp12 =>
  simp only [Act.put, List.setIfInBounds_toArray, List.set_cons_zero, List.set_cons_succ]
  refine' wpAnyH_take (i := 13) (oi := ?op13) (v := ?vp13) ?hp13 ?sp13 ?fp13 ?zp13 ?qp13 ?yp13 ?ap13 ?rp13
  case hp13 => (simp only [List.getElem?_toArray, List.getElem?_cons_succ, List.getElem?_cons_zero]; rfl)
  case sp13 => kernel_rfl
  case fp13 => kernel_rfl
  case zp13 => kernel_rfl
  case qp13 => exact fun _ _ _ h => h
  case yp13 => (refine Or.inl ⟨rfl, ?_⟩; intro w hSw; (try dsimp only at hSw); go_simp; try with_reducible rfl)
  case ap13 => assumption
  case rp13 =>
  simp only [Act.put, List.setIfInBounds_toArray, List.set_cons_zero, List.set_cons_succ]
  refine' wpAnyH_take (i := 14) (oi := ?op14) (v := ?vp14) ?hp14 ?sp14 ?fp14 ?zp14 ?qp14 ?yp14 ?ap14 ?rp14
  case hp14 => (simp only [List.getElem?_toArray, List.getElem?_cons_succ, List.getElem?_cons_zero]; rfl)
  case sp14 => kernel_rfl
  case fp14 => kernel_rfl
  case zp14 => kernel_rfl
  case qp14 => exact fun _ _ _ h => h
  case yp14 => (refine Or.inl ⟨rfl, ?_⟩; intro w hSw; (try dsimp only at hSw); go_simp; try with_reducible rfl)
  case ap14 => assumption
  case rp14 =>
  simp only [Act.put, List.setIfInBounds_toArray, List.set_cons_zero, List.set_cons_succ]
  refine' wpAnyH_take (i := 15) (oi := ?op15) (v := ?vp15) ?hp15 ?sp15 ?fp15 ?zp15 ?qp15 ?yp15 ?ap15 ?rp15
  case hp15 => (simp only [List.getElem?_toArray, List.getElem?_cons_succ, List.getElem?_cons_zero]; rfl)
  case sp15 => kernel_rfl
  case fp15 => kernel_rfl
  case zp15 => kernel_rfl
  case qp15 => exact fun _ _ _ h => h
  case yp15 => (refine Or.inl ⟨rfl, ?_⟩; intro w hSw; (try dsimp only at hSw); go_simp; try with_reducible rfl)
  case ap15 => assumption
  case rp15 =>
  simp only [Act.put, List.setIfInBounds_toArray, List.set_cons_zero, List.set_cons_succ]
  refine' wpAnyH_take (i := 16) (oi := ?op16) (v := ?vp16) ?hp16 ?sp16 ?fp16 ?zp16 ?qp16 ?yp16 ?ap16 ?rp16
  case hp16 => (simp only [List.getElem?_toArray, List.getElem?_cons_succ, List.getElem?_cons_zero]; rfl)
  case sp16 => kernel_rfl
  case fp16 => kernel_rfl
  case zp16 => kernel_rfl
  case qp16 => exact fun _ _ _ h => h
  case yp16 => (refine Or.inl ⟨rfl, ?_⟩; intro w hSw; (try dsimp only at hSw); go_simp; try with_reducible rfl)
  case ap16 => assumption
  case rp16 =>
  simp only [Act.put, List.setIfInBounds_toArray, List.set_cons_zero, List.set_cons_succ]
  refine' wpAnyH_take (i := 17) (oi := ?op17) (v := ?vp17) ?hp17 ?sp17 ?fp17 ?zp17 ?qp17 ?yp17 ?ap17 ?rp17
  case hp17 => (simp only [List.getElem?_toArray, List.getElem?_cons_succ, List.getElem?_cons_zero]; rfl)
  case sp17 => kernel_rfl
  case fp17 => kernel_rfl
  case zp17 => kernel_rfl
  case qp17 => exact fun _ _ _ h => h
  case yp17 => (refine Or.inl ⟨rfl, ?_⟩; intro w hSw; (try dsimp only at hSw); go_simp; try with_reducible rfl)
  case ap17 => assumption
  case rp17 =>
  simp only [Act.put, List.setIfInBounds_toArray, List.set_cons_zero, List.set_cons_succ]
  refine' wpAnyH_take (i := 18) (oi := ?op18) (v := ?vp18) ?hp18 ?sp18 ?fp18 ?zp18 ?qp18 ?yp18 ?ap18 ?rp18
  case hp18 => (simp only [List.getElem?_toArray, List.getElem?_cons_succ, List.getElem?_cons_zero]; rfl)
  case sp18 => kernel_rfl
  case fp18 => kernel_rfl
  case zp18 => kernel_rfl
  case qp18 => exact fun _ _ _ h => h
  case yp18 => (refine Or.inl ⟨rfl, ?_⟩; intro w hSw; (try dsimp only at hSw); go_simp; try with_reducible rfl)
  case ap18 => assumption
  case rp18 =>
  simp only [Act.put, List.setIfInBounds_toArray, List.set_cons_zero, List.set_cons_succ]
  refine' wpAnyH_take (i := 19) (oi := ?op19) (v := ?vp19) ?hp19 ?sp19 ?fp19 ?zp19 ?qp19 ?yp19 ?ap19 ?rp19
  case hp19 => (simp only [List.getElem?_toArray, List.getElem?_cons_succ, List.getElem?_cons_zero]; rfl)
  case sp19 => kernel_rfl
  case fp19 => kernel_rfl
  case zp19 => kernel_rfl
  case qp19 => exact fun _ _ _ h => h
  case yp19 => (refine Or.inl ⟨rfl, ?_⟩; intro w hSw; (try dsimp only at hSw); go_simp; try with_reducible rfl)
  case ap19 => assumption
  case rp19 =>
  simp only [Act.put, List.setIfInBounds_toArray, List.set_cons_zero, List.set_cons_succ]
  refine' wpAnyH_take (i := 20) (oi := ?op20) (v := ?vp20) ?hp20 ?sp20 ?fp20 ?zp20 ?qp20 ?yp20 ?ap20 ?rp20
  case hp20 => (simp only [List.getElem?_toArray, List.getElem?_cons_succ, List.getElem?_cons_zero]; rfl)
  case sp20 => kernel_rfl
  case fp20 => kernel_rfl
  case zp20 => kernel_rfl
  case qp20 => exact fun _ _ _ h => h
  case yp20 => (refine Or.inl ⟨rfl, ?_⟩; intro w hSw; (try dsimp only at hSw); go_simp; try with_reducible rfl)
  case ap20 => assumption
  case rp20 =>
  simp only [Act.put, List.setIfInBounds_toArray, List.set_cons_zero, List.set_cons_succ]
  refine' wpAnyH_take (i := 21) (oi := ?op21) (v := ?vp21) ?hp21 ?sp21 ?fp21 ?zp21 ?qp21 ?yp21 ?ap21 ?rp21
  case hp21 => (simp only [List.getElem?_toArray, List.getElem?_cons_succ, List.getElem?_cons_zero]; rfl)
  case sp21 => kernel_rfl
  case fp21 => kernel_rfl
  case zp21 => kernel_rfl
  case qp21 => exact fun _ _ _ h => h
  case yp21 => (refine Or.inl ⟨rfl, ?_⟩; intro w hSw; (try dsimp only at hSw); go_simp; try with_reducible rfl)
  case ap21 => assumption
  case rp21 =>
  simp only [Act.put, List.setIfInBounds_toArray, List.set_cons_zero, List.set_cons_succ]
  refine' wpAnyH_take (i := 22) (oi := ?op22) (v := ?vp22) ?hp22 ?sp22 ?fp22 ?zp22 ?qp22 ?yp22 ?ap22 ?rp22
  case hp22 => (simp only [List.getElem?_toArray, List.getElem?_cons_succ, List.getElem?_cons_zero]; rfl)
  case sp22 => kernel_rfl
  case fp22 => kernel_rfl
  case zp22 => kernel_rfl
  case qp22 => exact fun _ _ _ h => h
  case yp22 => (refine Or.inl ⟨rfl, ?_⟩; intro w hSw; (try dsimp only at hSw); go_simp; try with_reducible rfl)
  case ap22 => assumption
  case rp22 =>
  simp only [Act.put, List.setIfInBounds_toArray, List.set_cons_zero, List.set_cons_succ]
  refine' wpAnyH_take (i := 23) (oi := ?op23) (v := ?vp23) ?hp23 ?sp23 ?fp23 ?zp23 ?qp23 ?yp23 ?ap23 ?rp23
  case hp23 => (simp only [List.getElem?_toArray, List.getElem?_cons_succ, List.getElem?_cons_zero]; rfl)
  case sp23 => kernel_rfl
  case fp23 => kernel_rfl
  case zp23 => kernel_rfl
  case qp23 => exact fun _ _ _ h => h
  case yp23 => (refine Or.inl ⟨rfl, ?_⟩; intro w hSw; (try dsimp only at hSw); go_simp; try with_reducible rfl)
  case ap23 => assumption
  case rp23 =>
  simp only [Act.put, List.setIfInBounds_toArray, List.set_cons_zero, List.set_cons_succ]
  refine' wpAnyH_take (i := 24) (oi := ?op24) (v := ?vp24) ?hp24 ?sp24 ?fp24 ?zp24 ?qp24 ?yp24 ?ap24 ?rp24
  case hp24 => (simp only [List.getElem?_toArray, List.getElem?_cons_succ, List.getElem?_cons_zero]; rfl)
  case sp24 => kernel_rfl
  case fp24 => kernel_rfl
  case zp24 => kernel_rfl
  case qp24 => exact fun _ _ _ h => h
  case yp24 => (refine Or.inl ⟨rfl, ?_⟩; intro w hSw; (try dsimp only at hSw); go_simp; try with_reducible rfl)
  case ap24 => assumption
  case rp24 =>
  simp only [Act.put, List.setIfInBounds_toArray, List.set_cons_zero, List.set_cons_succ]
  refine' wpAnyH_take (i := 25) (oi := ?op25) (v := ?vp25) ?hp25 ?sp25 ?fp25 ?zp25 ?qp25 ?yp25 ?ap25 ?rp25
  case hp25 => (simp only [List.getElem?_toArray, List.getElem?_cons_succ, List.getElem?_cons_zero]; rfl)
  case sp25 => kernel_rfl
  case fp25 => kernel_rfl
  case zp25 => kernel_rfl
  case qp25 => exact fun _ _ _ h => h
  case yp25 => (refine Or.inl ⟨rfl, ?_⟩; intro w hSw; (try dsimp only at hSw); go_simp; try with_reducible rfl)
  case ap25 => assumption
  case rp25 =>
  simp only [Act.put, List.setIfInBounds_toArray, List.set_cons_zero, List.set_cons_succ]
  refine' wpAnyH_take (i := 26) (oi := ?op26) (v := ?vp26) ?hp26 ?sp26 ?fp26 ?zp26 ?qp26 ?yp26 ?ap26 ?rp26
  case hp26 => (simp only [List.getElem?_toArray, List.getElem?_cons_succ, List.getElem?_cons_zero]; rfl)
  case sp26 => kernel_rfl
  case fp26 => kernel_rfl
  case zp26 => kernel_rfl
  case qp26 => exact fun _ _ _ h => h
  case yp26 => (refine Or.inl ⟨rfl, ?_⟩; intro w hSw; (try dsimp only at hSw); go_simp; try with_reducible rfl)
  case ap26 => assumption
  case rp26 =>
  simp only [Act.put, List.setIfInBounds_toArray, List.set_cons_zero, List.set_cons_succ]
  refine' wpAnyH_take (i := 27) (oi := ?op27) (v := ?vp27) ?hp27 ?sp27 ?fp27 ?zp27 ?qp27 ?yp27 ?ap27 ?rp27
  case hp27 => (simp only [List.getElem?_toArray, List.getElem?_cons_succ, List.getElem?_cons_zero]; rfl)
  case sp27 => kernel_rfl
  case fp27 => kernel_rfl
  case zp27 => kernel_rfl
  case qp27 => exact fun _ _ _ h => h
  case yp27 => (refine Or.inl ⟨rfl, ?_⟩; intro w hSw; (try dsimp only at hSw); go_simp; try with_reducible rfl)
  case ap27 => assumption
  case rp27 =>
  simp only [Act.put, List.setIfInBounds_toArray, List.set_cons_zero, List.set_cons_succ]
  refine' wpAnyH_take (i := 28) (oi := ?op28) (v := ?vp28) ?hp28 ?sp28 ?fp28 ?zp28 ?qp28 ?yp28 ?ap28 ?rp28
  case hp28 => (simp only [List.getElem?_toArray, List.getElem?_cons_succ, List.getElem?_cons_zero]; rfl)
  case sp28 => kernel_rfl
  case fp28 => kernel_rfl
  case zp28 => kernel_rfl
  case qp28 => exact fun _ _ _ h => h
  case yp28 => (refine Or.inl ⟨rfl, ?_⟩; intro w hSw; (try dsimp only at hSw); go_simp; try with_reducible rfl)
  case ap28 => assumption
  case rp28 =>
  simp only [Act.put, List.setIfInBounds_toArray, List.set_cons_zero, List.set_cons_succ]
  refine' wpAnyH_take (i := 29) (oi := ?op29) (v := ?vp29) ?hp29 ?sp29 ?fp29 ?zp29 ?qp29 ?yp29 ?ap29 ?rp29
  case hp29 => (simp only [List.getElem?_toArray, List.getElem?_cons_succ, List.getElem?_cons_zero]; rfl)
  case sp29 => kernel_rfl
  case fp29 => kernel_rfl
  case zp29 => kernel_rfl
  case qp29 => exact fun _ _ _ h => h
  case yp29 => (refine Or.inl ⟨rfl, ?_⟩; intro w hSw; (try dsimp only at hSw); go_simp; try with_reducible rfl)
  case ap29 => assumption
  case rp29 =>
  simp only [Act.put, List.setIfInBounds_toArray, List.set_cons_zero, List.set_cons_succ]
  refine' wpAnyH_take (i := 30) (oi := ?op30) (v := ?vp30) ?hp30 ?sp30 ?fp30 ?zp30 ?qp30 ?yp30 ?ap30 ?rp30
  case hp30 => (simp only [List.getElem?_toArray, List.getElem?_cons_succ, List.getElem?_cons_zero]; rfl)
  case sp30 => kernel_rfl
  case fp30 => kernel_rfl
  case zp30 => kernel_rfl
  case qp30 => exact fun _ _ _ h => h
  case yp30 => (refine Or.inl ⟨rfl, ?_⟩; intro w hSw; (try dsimp only at hSw); go_simp; try with_reducible rfl)
  case ap30 => assumption
  case rp30 =>
  simp only [Act.put, List.setIfInBounds_toArray, List.set_cons_zero, List.set_cons_succ]
  refine' wpAnyH_take (i := 31) (oi := ?op31) (v := ?vp31) ?hp31 ?sp31 ?fp31 ?zp31 ?qp31 ?yp31 ?ap31 ?rp31
  case hp31 => (simp only [List.getElem?_toArray, List.getElem?_cons_succ, List.getElem?_cons_zero]; rfl)
  case sp31 => kernel_rfl
  case fp31 => kernel_rfl
  case zp31 => kernel_rfl
  case qp31 => exact fun _ _ _ h => h
  case yp31 => (refine Or.inl ⟨rfl, ?_⟩; intro w hSw; (try dsimp only at hSw); go_simp; try with_reducible rfl)
  case ap31 => assumption
  case rp31 =>
  simp only [Act.put, List.setIfInBounds_toArray, List.set_cons_zero, List.set_cons_succ]
  refine' wpAnyH_take (i := 32) (oi := ?op32) (v := ?vp32) ?hp32 ?sp32 ?fp32 ?zp32 ?qp32 ?yp32 ?ap32 ?rp32
  case hp32 => (simp only [List.getElem?_toArray, List.getElem?_cons_succ, List.getElem?_cons_zero]; rfl)
  case sp32 => kernel_rfl
  case fp32 => kernel_rfl
  case zp32 => kernel_rfl
  case qp32 => exact fun _ _ _ h => h
  case yp32 => (refine Or.inl ⟨rfl, ?_⟩; intro w hSw; (try dsimp only at hSw); go_simp; try with_reducible rfl)
  case ap32 => assumption
  case rp32 =>
  simp only [Act.put, List.setIfInBounds_toArray, List.set_cons_zero, List.set_cons_succ]
  refine' wpAnyH_take (i := 33) (oi := ?op33) (v := ?vp33) ?hp33 ?sp33 ?fp33 ?zp33 ?qp33 ?yp33 ?ap33 ?rp33
  case hp33 => (simp only [List.getElem?_toArray, List.getElem?_cons_succ, List.getElem?_cons_zero]; rfl)
  case sp33 => kernel_rfl
  case fp33 => kernel_rfl
  case zp33 => kernel_rfl
  case qp33 => exact fun _ _ _ h => h
  case yp33 => (refine Or.inl ⟨rfl, ?_⟩; intro w hSw; (try dsimp only at hSw); go_simp; try with_reducible rfl)
  case ap33 => assumption
  case rp33 =>
  simp only [Act.put, List.setIfInBounds_toArray, List.set_cons_zero, List.set_cons_succ]
  refine' wpAnyH_take (i := 34) (oi := ?op34) (v := ?vp34) ?hp34 ?sp34 ?fp34 ?zp34 ?qp34 ?yp34 ?ap34 ?rp34
  case hp34 => (simp only [List.getElem?_toArray, List.getElem?_cons_succ, List.getElem?_cons_zero]; rfl)
  case sp34 => kernel_rfl
  case fp34 => kernel_rfl
  case zp34 => kernel_rfl
  case qp34 => exact fun _ _ _ h => h
  case yp34 => (refine Or.inl ⟨rfl, ?_⟩; intro w hSw; (try dsimp only at hSw); go_simp; try with_reducible rfl)
  case ap34 => assumption
  case rp34 =>
  simp only [Act.put, List.setIfInBounds_toArray, List.set_cons_zero, List.set_cons_succ]
  refine' wpAnyH_take (i := 35) (oi := ?op35) (v := ?vp35) ?hp35 ?sp35 ?fp35 ?zp35 ?qp35 ?yp35 ?ap35 ?rp35
  case hp35 => (simp only [List.getElem?_toArray, List.getElem?_cons_succ, List.getElem?_cons_zero]; rfl)
  case sp35 => kernel_rfl
  case fp35 => kernel_rfl
  case zp35 => kernel_rfl
  case qp35 => exact fun _ _ _ h => h
  case yp35 => (refine Or.inl ⟨rfl, ?_⟩; intro w hSw; (try dsimp only at hSw); go_simp; try with_reducible rfl)
  case ap35 => assumption
  case rp35 =>
  simp only [Act.put, List.setIfInBounds_toArray, List.set_cons_zero, List.set_cons_succ]
  refine wpAnyH_ready (rs := [36]) (by kernel_rfl) (by simp) ?_
  refine' AllReadyH.cons (o := ?op36) ?hp36 ?kp36 AllReadyH.nil
  case hp36 => (simp only [List.getElem?_toArray, List.getElem?_cons_succ, List.getElem?_cons_zero]; rfl)
  case kp36 =>
  intro K hK
  go_simp
  refine hK.out _ _ ?_ (fun hHeld => ?_)
  · trivial
  clear hK K
  (try simp only [Act.put, List.setIfInBounds_toArray, List.set_cons_zero, List.set_cons_succ])
  have SA := Lib.hid (S1.out.alloc zero7 31).drew
  unfold zero7 at SA
  clear S1
  obtain ⟨g6, hg6⟩ : ∃ g, g = w2.heap.size := ⟨_, rfl⟩
  rw [← hg6] at SA ⊢
  clear hg6 SD
  generalize (w2.alloc _).drew = w3 at *
  obtain ⟨⟨d0, d1, d2, d3, d4, d5, d6⟩, f0, f1, f2, f3, f4, f5, f6⟩ := seven (SA.out.has (Has.l (has_blk _ _ _)))
  refine wpAnyH_ready (rs := [37]) (by kernel_rfl) (by simp) ?_
  refine' AllReadyH.cons (o := ?o37) ?h37 ?k37 AllReadyH.nil
  case h37 => (simp only [List.getElem?_toArray, List.getElem?_cons_succ, List.getElem?_cons_zero]; rfl)
  case k37 =>
  intro K hK
  go_simp
  refine hK.out _ _ trivial (fun hHeld => ?_)
  clear hK K
  (try simp only [Act.put, List.setIfInBounds_toArray, List.set_cons_zero, List.set_cons_succ])
  have T1 := Lib.hid (own_seven SA.out (.int .i64 (y[0]'(hlt 0 (by decide))).toNat) (.int .i64 (y[1]'(hlt 1 (by decide))).toNat) (.int .i64 ((y[2]'(hlt 2 (by decide))).toNat + (y[3]'(hlt 3 (by decide))).toNat * 256 + (y[4]'(hlt 4 (by decide))).toNat * 65536 + (y[5]'(hlt 5 (by decide))).toNat * 16777216)) (.bool (((y[6]'(hlt 6 (by decide))).toNat : Int) == 1)) (.string ⟨#[]⟩) (.int .i64 ((y[16]'(hlt 16 (by decide))).toNat + (y[17]'(hlt 17 (by decide))).toNat * 256)) (.slice none 0 0))
  clear SA d0 d1 d2 d3 d4 d5 d6 f0 f1 f2 f3 f4 f5 f6
  refine wpAnyH_done (by kernel_rfl) ?_ _
  generalize World.setCell (World.setCell (World.setCell (World.setCell (World.setCell (World.setCell (World.setCell w3 _ _) _ _) _ _) _ _) _ _) _ _) _ _ = w4 at *
  simp only [HYB.out] at T1
  clear hlt hwa hwb hwc hwd hwe hwf hwg
  obtain ⟨n0, hn0⟩ : ∃ n, n = refN t [] := ⟨_, rfl⟩
  have T2 : Hid (Own w No w4 (Asn.blk g6 31 #[.int .i64 n0.tree, .int .i64 n0.level, .int .i64 n0.stamp, .bool n0.has, .string ⟨#[]⟩, .int .i64 n0.right, .slice none 0 0] * (Asn.blk g2 31 #[.int .i64 0, .int .i64 0, .int .i64 0, .bool false, .string ⟨#[]⟩, .int .i64 0, .slice none 0 0] * Asn.emp))) := by
    have e4 : ((t.getD 2 0).toNat : Int) + (t.getD 3 0).toNat * ((256 : Nat) : Int) + (t.getD 4 0).toNat * ((65536 : Nat) : Int) + (t.getD 5 0).toNat * 16777216 = ((num4 t 2 : Nat) : Int) := by simp only [num4, Nat.reduceAdd]; omega
    have e6 : (((t.getD 6 0).toNat : Int) == 1) = decide ((t.getD 6 0).toNat = 1) := by
      rw [Bool.eq_iff_iff]; simp only [beq_iff_eq, decide_eq_true_eq]; omega
    have e5 : ((t.getD 16 0).toNat : Int) + (t.getD 17 0).toNat * 256 = ((num2 t 16 : Nat) : Int) := by simp only [num2, Nat.reduceAdd]; omega
    rw [e4, e6, e5] at T1
    rw [hn0]
    exact T1
  have hhi : n0.high = if n0.has then (t.drop 7).take 9 else [] := by rw [hn0]; rfl
  have HRD : Hid (refD t = match goD t (num2 t 18) 20 [] with | none => none | some es => some { n0 with list := es }) := Lib.hid (by rw [hn0]; rfl)
  have HC1 : Hid (((y[18]'(by omega)).toNat : Int) + ((y[19]'(by omega)).toNat : Int) * 256 = ((num2 t 18 : Nat) : Int)) := Lib.hid (by rw [HYB.out, HYB.out]; simp only [num2, Nat.reduceAdd]; omega)
  have hcs : num2 t 18 ≤ 65535 := by simp only [num2, Nat.reduceAdd]; have := (t.getD 18 0).toNat_lt; have := (t.getD 19 0).toNat_lt; omega
  generalize num2 t 18 = C at *
  clear T1 hn0
  obtain ⟨⟨c0, c1, c2, c3, c4, c5, c6⟩, f0, f1, f2, f3, f4, f5, f6⟩ := seven (T2.out.has (Has.l (has_blk _ _ _)))
  rcases Bool.eq_false_or_eq_true n0.has with hb | hb
  · as_aux_lemma =>
    rw [hb] at T2 c3 hhi
    rw [if_pos rfl] at hhi
    have hs6 := HSL.out 7 16 (by decide) (by decide)
    rw [show 16 - 7 = 9 from rfl, ← hhi] at hs6
    have hs7 : ∀ W, (Instr.slice 9 (.string y) (some (.int .i64 7)) (some (.int .i64 16)) none).run Tryz.prog W = .ok (.string (ofL n0.high)) W := hs6
    clear hs6 hhi
    go_upto_region 7 with fail
    have T3 : Hid (Own w No (World.setCell w4 ⟨g6, 4, none⟩ (.string (ofL n0.high))) (Asn.vec 83 3 (.slice none 0 0) (([] : List Ent)).length (cells3 ([] : List Ent)) * (Asn.blk g6 31 #[.int .i64 n0.tree, .int .i64 n0.level, .int .i64 n0.stamp, .bool true, .string (ofL n0.high), .int .i64 n0.right, (.slice none 0 0)] * (Asn.blk g2 31 #[.int .i64 0, .int .i64 0, .int .i64 0, .bool false, .string ⟨#[]⟩, .int .i64 0, .slice none 0 0] * Asn.emp)))) := Lib.hid ((T2.out.set (Sets.l (sets_blk g6 31 _ 4 (.string (ofL n0.high))))).nilVec 83 3)
    clear T2 c0 c1 c2 c3 c4 c5 c6 f0 f1 f2 f3 f4 f5 f6 hs7
    generalize World.setCell w4 _ _ = w5 at *
    have hlt : 18 < y.size ∧ 19 < y.size := by omega
    have hwa : ∀ (b : UInt8), IntKind.i64.wrap (b.toNat : Int) = (b.toNat : Int) := fun b => by have := b.toNat_lt; rw [IntKind.wrap_i64]; omega
    have hwb : ∀ (b : UInt8), IntKind.i64.wrap ((b.toNat : Int) * 256) = (b.toNat : Int) * 256 := fun b => by have := b.toNat_lt; rw [IntKind.wrap_i64]; omega
    have hwe : ∀ (a b : UInt8), IntKind.i64.wrap ((a.toNat : Int) + (b.toNat : Int) * 256) = (a.toNat : Int) + (b.toNat : Int) * 256 := fun a b => by have := a.toNat_lt; have := b.toNat_lt; rw [IntKind.wrap_i64]; omega
    go_wp2_with fail
    go_quiet (fail)
    have T4 := Lib.hid (T3.out.drewN nq)
    clear T3 hwa hwb hwe hlt
    generalize w5.drewN nq = w6 at *
    try rw [HC1.out]
    clear HC1
    generalize (y[0]'(by omega)) = z0 at *
    generalize (y[1]'(by omega)) = z1 at *
    generalize (y[2]'(by omega)) = z2 at *
    generalize (y[3]'(by omega)) = z3 at *
    generalize (y[4]'(by omega)) = z4 at *
    generalize (y[5]'(by omega)) = z5 at *
    generalize (y[6]'(by omega)) = z6 at *
    generalize (y[16]'(by omega)) = z16 at *
    generalize (y[17]'(by omega)) = z17 at *
    generalize (y[18]'(by omega)) = z18 at *
    generalize (y[19]'(by omega)) = z19 at *
    generalize ((z0.toNat : Nat) : Int) = i0 at *
    generalize ((z1.toNat : Nat) : Int) = i1 at *
    generalize ((z2.toNat : Nat) : Int) = i2 at *
    generalize ((z3.toNat : Nat) : Int) = i3 at *
    generalize ((z4.toNat : Nat) : Int) = i4 at *
    generalize ((z5.toNat : Nat) : Int) = i5 at *
    generalize ((z6.toNat : Nat) : Int) = i6 at *
    generalize ((z16.toNat : Nat) : Int) = i16 at *
    generalize ((z17.toNat : Nat) : Int) = i17 at *
    generalize ((z18.toNat : Nat) : Int) = i18 at *
    generalize ((z19.toNat : Nat) : Int) = i19 at *
    generalize (i3 * 256 : Int) = m3 at *
    generalize (i2 + m3 : Int) = a3 at *
    generalize (i4 * 65536 : Int) = m4 at *
    generalize (a3 + m4 : Int) = a4 at *
    generalize (i5 * 16777216 : Int) = m5 at *
    generalize (a4 + m5 : Int) = a5 at *
    generalize (i17 * 256 : Int) = m17 at *
    generalize (i16 + m17 : Int) = a17 at *
    generalize (i19 * 256 : Int) = m19 at *
    generalize (i6 == 1) = b6 at *
    go_wp2_with fail
    clear hyy
    go_loopw [8, 9, 10] (fun p i q wr => ∃ (k a : Nat) (es : List Ent) (v : Value), k ≤ C ∧ i = .int .i64 k ∧ p = .int .i64 a ∧ a ≤ 252 ∧ es.length = k ∧ goD t C 20 [] = goD t (C - k) a es ∧ Hid (Own w No wr (Asn.vec 83 3 v (es).length (cells3 es) * (Asn.blk g6 31 #[.int .i64 n0.tree, .int .i64 n0.level, .int .i64 n0.stamp, .bool true, .string (ofL n0.high), .int .i64 n0.right, v] * (Asn.blk g2 31 #[.int .i64 0, .int .i64 0, .int .i64 0, .bool false, .string ⟨#[]⟩, .int .i64 0, .slice none 0 0] * Asn.emp))))) (fun _ i _ _ => C - (intOf i).toNat)
    case atStart => exact ⟨0, 20, [], .slice none 0 0, Nat.zero_le _, rfl, rfl, by decide, rfl, rfl, T4⟩
    case round =>
      clear T4
      obtain ⟨k, a, es, v, hk, rfl, rfl, ha, hes, hgo, X⟩ := hrel
      by_cases hlt : k < C
      · rw [show C - k = (C - (k + 1)) + 1 by omega, goD] at hgo
        by_cases h11 : 252 < a + 11
        · as_aux_lemma =>
          rw [if_pos h11] at hgo
          have X1 := Lib.hid X.out.right.right
          clear X
          have hst := store_nod (X1.out.has (Has.l (has_blk _ _ _))) 0 0 0 0 false ⟨#[]⟩ none 0 0
          have hN : readD s = none := by
            unfold readD
            rw [hsl, decide_eq_true hl, if_pos (by rfl), ← HT.out, HRD.out, hgo]
          have HST := Lib.hid hst
          clear hst
          go_wp2_with (with_reducible refine wpList_store rfl rfl (.tmp 2) (.tmp 92) 31 rfl (.pointer (some ⟨g2, 0, none⟩)) (.agg #[.int .i64 0, .int .i64 0, .int .i64 0, .bool false, .string ⟨#[]⟩, .int .i64 0, .slice none 0 0]) ?c1s1 ?c2s1 _ HST.out ?_)
          try (case c1s1 => rfl)
          try (case c2s1 => rfl)
          clear HST
          have U1 := Lib.hid (own_seven X1.out (.int .i64 0) (.int .i64 0) (.int .i64 0) (.bool false) (.string ⟨#[]⟩) (.int .i64 0) (.slice none 0 0))
          clear X1
          generalize World.setCell (World.setCell (World.setCell (World.setCell (World.setCell (World.setCell (World.setCell wr _ _) _ _) _ _) _ _) _ _) _ _) _ _ = w7 at *
          obtain ⟨⟨c0, c1, c2, c3, c4, c5, c6⟩, -⟩ := seven (U1.out.has (Has.l (has_blk _ _ _)))
          have TN : Hid (Own w No w7 (aEnts Nod.none (.slice none 0 0))) := Lib.hid (none_ents U1.out).left
          exact bodyPost_ret (v := .tuple #[.agg #[.int .i64 0, .int .i64 0, .int .i64 0, .bool false, .string ⟨#[]⟩, .int .i64 0, .slice none 0 0], .bool false]) (res_nod (x := 2) (y := 3) (by kernel_rfl) rfl rfl (U1.out.has (Has.l (has_blk _ _ _)))) rfl ⟨.slice none 0 0, by first | rfl | (rw [hN]; rfl), by first | exact TN.out | (rw [hN]; exact TN.out)⟩

        · rw [if_neg h11] at hgo
          have hw10 : IntKind.i64.wrap ((a : Int) + 10) = ((a + 10 : Nat) : Int) := by rw [IntKind.wrap_i64]; omega
          have hi10 : a + 10 < y.size := by omega
          have hb10 : (y[a + 10]'hi10).toNat = (t.getD (a + 10) 0).toNat := by rw [HYB.out]
          have hbl := (t.getD (a + 10) 0).toNat_lt
          generalize hB : (t.getD (a + 10) 0).toNat = B at *
          by_cases h2 : 252 < a + 11 + B
          · as_aux_lemma =>
            rw [if_pos h2] at hgo
            have X1 := Lib.hid X.out.right.right
            clear X
            have hst := store_nod (X1.out.has (Has.l (has_blk _ _ _))) 0 0 0 0 false ⟨#[]⟩ none 0 0
            have hN : readD s = none := by
              unfold readD
              rw [hsl, decide_eq_true hl, if_pos (by rfl), ← HT.out, HRD.out, hgo]
            have HST := Lib.hid hst
            clear hst
            go_wp2_with (with_reducible refine wpList_store rfl rfl (.tmp 2) (.tmp 92) 31 rfl (.pointer (some ⟨g2, 0, none⟩)) (.agg #[.int .i64 0, .int .i64 0, .int .i64 0, .bool false, .string ⟨#[]⟩, .int .i64 0, .slice none 0 0]) ?c1s2 ?c2s2 _ HST.out ?_)
            try (case c1s2 => rfl)
            try (case c2s2 => rfl)
            clear HST
            have U1 := Lib.hid (own_seven X1.out (.int .i64 0) (.int .i64 0) (.int .i64 0) (.bool false) (.string ⟨#[]⟩) (.int .i64 0) (.slice none 0 0))
            clear X1
            generalize World.setCell (World.setCell (World.setCell (World.setCell (World.setCell (World.setCell (World.setCell wr _ _) _ _) _ _) _ _) _ _) _ _) _ _ = w7 at *
            obtain ⟨⟨c0, c1, c2, c3, c4, c5, c6⟩, -⟩ := seven (U1.out.has (Has.l (has_blk _ _ _)))
            have TN : Hid (Own w No w7 (aEnts Nod.none (.slice none 0 0))) := Lib.hid (none_ents U1.out).left
            exact bodyPost_ret (v := .tuple #[.agg #[.int .i64 0, .int .i64 0, .int .i64 0, .bool false, .string ⟨#[]⟩, .int .i64 0, .slice none 0 0], .bool false]) (res_nod (x := 2) (y := 3) (by kernel_rfl) rfl rfl (U1.out.has (Has.l (has_blk _ _ _)))) rfl ⟨.slice none 0 0, by first | rfl | (rw [hN]; rfl), by first | exact TN.out | (rw [hN]; exact TN.out)⟩

          · as_aux_lemma =>
            rw [if_neg h2] at hgo
            obtain ⟨kL, hkL⟩ : ∃ kL, kL = (t.drop a).take 9 := ⟨_, rfl⟩
            obtain ⟨vL, hvL⟩ : ∃ vL, vL = (t.drop (a + 11)).take B := ⟨_, rfl⟩
            have hs1 := HSL.out a (a + 9) (by omega) (by omega)
            rw [Nat.add_sub_cancel_left, ← hkL] at hs1
            have hs2 : ∀ W, (Instr.slice 9 (.string y) (some (.int .i64 (a : Int))) (some (.int .i64 ((a : Int) + 9))) none).run Tryz.prog W = .ok (.string (ofL kL)) W := hs1
            have hs3 := HSL.out (a + 11) (a + 11 + B) (by omega) (by omega)
            rw [Nat.add_sub_cancel_left, ← hvL] at hs3
            have hs4 : ∀ W, (Instr.slice 9 (.string y) (some (.int .i64 ((a : Int) + 11))) (some (.int .i64 ((a : Int) + 11 + (B : Int)))) none).run Tryz.prog W = .ok (.string (ofL vL)) W := hs3
            clear hs1 hs3
            have hw9 : IntKind.i64.wrap ((a : Int) + 9) = (a : Int) + 9 := by rw [IntKind.wrap_i64]; omega
            have hw11 : IntKind.i64.wrap ((a : Int) + 11) = (a : Int) + 11 := by rw [IntKind.wrap_i64]; omega
            have hIX : ∀ W : World, (Instr.index 9 (.string y) (.int .i64 ((a : Int) + 9))).run Tryz.prog W = .ok (.int .u8 ((t.getD (a + 9) 0).toNat : Int)) W := fun W => by
              have hi9 : ((a : Int) + 9).toNat < y.size := by omega
              have e9 : (y[((a : Int) + 9).toNat]'hi9) = t.getD (a + 9) 0 := by
                rw [HYB.out, show ((a : Int) + 9).toNat = a + 9 by omega]
              rw [run_index_string W _ y .i64 _ Tryz.underlying9, dif_pos (by omega), e9]
            have HIX := Lib.hid hIX
            clear hIX
            have hgb : decide ((t.getD (a + 9) 0).toNat = 1) = ((((t.getD (a + 9) 0).toNat : Nat) : Int) == 1) := by
              rw [Bool.eq_iff_iff]; simp only [beq_iff_eq, decide_eq_true_eq]; omega
            rw [← hkL, ← hvL, hgb] at hgo
            clear hgb hkL hvL
            generalize hB9 : (t.getD (a + 9) 0).toNat = B9 at *
            go_upto_region 15 with fail
            have hIX := HIX.out
            clear hw10 hi10 hb10 hB
            have HEN : Hid (cells3 es ++ [.string (ofL kL), .string (ofL vL), .bool ((B9 : Int) == 1)] = cells3 (es ++ [⟨kL, vL, (B9 : Int) == 1⟩])) := Lib.hid (by simp [cells3])
            have HGO := Lib.hid hgo
            have HES := Lib.hid hes
            have hle : es.length ≤ 65535 := by omega
            clear hgo hes
            obtain ⟨A, c, rfl⟩ := X.out.vec.slice
            generalize hgbb : ((B9 : Int) == 1) = gb at *
            obtain ⟨xk, hxk⟩ : ∃ xk, xk = ofL kL := ⟨_, rfl⟩
            obtain ⟨xv, hxv⟩ : ∃ xv, xv = ofL vL := ⟨_, rfl⟩
            rw [← hxk] at hs2 HEN
            rw [← hxv] at hs4 HEN
            clear hxk hxv
            have XD := Lib.hid X.out.drew
            refine wp_region_held_drew (S := fun W => True) (by kernel_rfl) trivial (fun hHeld => ?_)
            refine' wpAnyH_take (i := 0) (oi := ?oq0t) (v := ?vq0t) ?hq0t ?sq0t ?fq0t ?zq0t ?qq0t ?yq0t ?aq0t ?rq0t
            case hq0t => (simp only [List.getElem?_toArray, List.getElem?_cons_succ, List.getElem?_cons_zero]; rfl)
            case sq0t => kernel_rfl
            case fq0t => kernel_rfl
            case zq0t => kernel_rfl
            case qq0t => exact fun _ _ _ h => h
            case yq0t => (refine Or.inl ⟨rfl, ?_⟩; intro w hSw; (try dsimp only at hSw); go_simp; try with_reducible rfl)
            case aq0t => assumption
            case rq0t =>
            simp only [Act.put, List.setIfInBounds_toArray, List.set_cons_zero, List.set_cons_succ]
            refine' wpAnyH_take (i := 2) (oi := ?oq2t) (v := ?vq2t) ?hq2t ?sq2t ?fq2t ?zq2t ?qq2t ?yq2t ?aq2t ?rq2t
            case hq2t => (simp only [List.getElem?_toArray, List.getElem?_cons_succ, List.getElem?_cons_zero]; rfl)
            case sq2t => kernel_rfl
            case fq2t => kernel_rfl
            case zq2t => kernel_rfl
            case qq2t => exact fun _ _ _ h => h
            case yq2t => (refine Or.inl ⟨rfl, ?_⟩; intro w hSw; (try dsimp only at hSw); go_simp; try with_reducible rfl)
            case aq2t => assumption
            case rq2t =>
            simp only [Act.put, List.setIfInBounds_toArray, List.set_cons_zero, List.set_cons_succ]
            refine' wpAnyH_take (i := 3) (oi := ?oq3t) (v := ?vq3t) ?hq3t ?sq3t ?fq3t ?zq3t ?qq3t ?yq3t ?aq3t ?rq3t
            case hq3t => (simp only [List.getElem?_toArray, List.getElem?_cons_succ, List.getElem?_cons_zero]; rfl)
            case sq3t => kernel_rfl
            case fq3t => kernel_rfl
            case zq3t => kernel_rfl
            case qq3t => exact fun _ _ _ h => h
            case yq3t => (refine Or.inl ⟨rfl, ?_⟩; intro w hSw; (try dsimp only at hSw); go_simp; try with_reducible rfl)
            case aq3t => assumption
            case rq3t =>
            simp only [Act.put, List.setIfInBounds_toArray, List.set_cons_zero, List.set_cons_succ]
            refine' wpAnyH_take (i := 4) (oi := ?oq4t) (v := ?vq4t) ?hq4t ?sq4t ?fq4t ?zq4t ?qq4t ?yq4t ?aq4t ?rq4t
            case hq4t => (simp only [List.getElem?_toArray, List.getElem?_cons_succ, List.getElem?_cons_zero]; rfl)
            case sq4t => kernel_rfl
            case fq4t => kernel_rfl
            case zq4t => kernel_rfl
            case qq4t => exact fun _ _ _ h => h
            case yq4t => (refine Or.inl ⟨rfl, ?_⟩; intro w hSw; (try dsimp only at hSw); go_simp; try with_reducible rfl)
            case aq4t => assumption
            case rq4t =>
            simp only [Act.put, List.setIfInBounds_toArray, List.set_cons_zero, List.set_cons_succ]
            refine' wpAnyH_take (i := 5) (oi := ?oq5t) (v := ?vq5t) ?hq5t ?sq5t ?fq5t ?zq5t ?qq5t ?yq5t ?aq5t ?rq5t
            case hq5t => (simp only [List.getElem?_toArray, List.getElem?_cons_succ, List.getElem?_cons_zero]; rfl)
            case sq5t => kernel_rfl
            case fq5t => kernel_rfl
            case zq5t => kernel_rfl
            case qq5t => exact fun _ _ _ h => h
            case yq5t => (refine Or.inl ⟨rfl, ?_⟩; intro w hSw; (try dsimp only at hSw); go_simp; try with_reducible rfl)
            case aq5t => assumption
            case rq5t =>
            simp only [Act.put, List.setIfInBounds_toArray, List.set_cons_zero, List.set_cons_succ]
            refine' wpAnyH_take (i := 6) (oi := ?oq6t) (v := ?vq6t) ?hq6t ?sq6t ?fq6t ?zq6t ?qq6t ?yq6t ?aq6t ?rq6t
            case hq6t => (simp only [List.getElem?_toArray, List.getElem?_cons_succ, List.getElem?_cons_zero]; rfl)
            case sq6t => kernel_rfl
            case fq6t => kernel_rfl
            case zq6t => kernel_rfl
            case qq6t => exact fun _ _ _ h => h
            case yq6t => (refine Or.inl ⟨rfl, ?_⟩; intro w hSw; (try dsimp only at hSw); go_simp; try with_reducible rfl)
            case aq6t => assumption
            case rq6t =>
            simp only [Act.put, List.setIfInBounds_toArray, List.set_cons_zero, List.set_cons_succ]
            refine' wpAnyH_take (i := 7) (oi := ?oq7t) (v := ?vq7t) ?hq7t ?sq7t ?fq7t ?zq7t ?qq7t ?yq7t ?aq7t ?rq7t
            case hq7t => (simp only [List.getElem?_toArray, List.getElem?_cons_succ, List.getElem?_cons_zero]; rfl)
            case sq7t => kernel_rfl
            case fq7t => kernel_rfl
            case zq7t => kernel_rfl
            case qq7t => exact fun _ _ _ h => h
            case yq7t => (refine Or.inl ⟨rfl, ?_⟩; intro w hSw; (try dsimp only at hSw); go_simp; try with_reducible rfl)
            case aq7t => assumption
            case rq7t =>
            simp only [Act.put, List.setIfInBounds_toArray, List.set_cons_zero, List.set_cons_succ]
            refine' wpAnyH_take (i := 8) (oi := ?oq8t) (v := ?vq8t) ?hq8t ?sq8t ?fq8t ?zq8t ?qq8t ?yq8t ?aq8t ?rq8t
            case hq8t => (simp only [List.getElem?_toArray, List.getElem?_cons_succ, List.getElem?_cons_zero]; rfl)
            case sq8t => kernel_rfl
            case fq8t => kernel_rfl
            case zq8t => kernel_rfl
            case qq8t => exact fun _ _ _ h => h
            case yq8t => (refine Or.inl ⟨rfl, ?_⟩; intro w hSw; (try dsimp only at hSw); go_simp; try with_reducible rfl)
            case aq8t => assumption
            case rq8t =>
            simp only [Act.put, List.setIfInBounds_toArray, List.set_cons_zero, List.set_cons_succ]
            refine' wpAnyH_take (i := 9) (oi := ?oq9t) (v := ?vq9t) ?hq9t ?sq9t ?fq9t ?zq9t ?qq9t ?yq9t ?aq9t ?rq9t
            case hq9t => (simp only [List.getElem?_toArray, List.getElem?_cons_succ, List.getElem?_cons_zero]; rfl)
            case sq9t => kernel_rfl
            case fq9t => kernel_rfl
            case zq9t => kernel_rfl
            case qq9t => exact fun _ _ _ h => h
            case yq9t => (refine Or.inl ⟨rfl, ?_⟩; intro w hSw; (try dsimp only at hSw); go_simp; try with_reducible rfl)
            case aq9t => assumption
            case rq9t =>
            simp only [Act.put, List.setIfInBounds_toArray, List.set_cons_zero, List.set_cons_succ]
            refine' wpAnyH_take (i := 10) (oi := ?oq10t) (v := ?vq10t) ?hq10t ?sq10t ?fq10t ?zq10t ?qq10t ?yq10t ?aq10t ?rq10t
            case hq10t => (simp only [List.getElem?_toArray, List.getElem?_cons_succ, List.getElem?_cons_zero]; rfl)
            case sq10t => kernel_rfl
            case fq10t => kernel_rfl
            case zq10t => kernel_rfl
            case qq10t => exact fun _ _ _ h => h
            case yq10t => (refine Or.inl ⟨rfl, ?_⟩; intro w hSw; (try dsimp only at hSw); go_simp; try with_reducible rfl)
            case aq10t => assumption
            case rq10t =>
            simp only [Act.put, List.setIfInBounds_toArray, List.set_cons_zero, List.set_cons_succ]
            refine' wpAnyH_take (i := 11) (oi := ?oq11t) (v := ?vq11t) ?hq11t ?sq11t ?fq11t ?zq11t ?qq11t ?yq11t ?aq11t ?rq11t
            case hq11t => (simp only [List.getElem?_toArray, List.getElem?_cons_succ, List.getElem?_cons_zero]; rfl)
            case sq11t => kernel_rfl
            case fq11t => kernel_rfl
            case zq11t => kernel_rfl
            case qq11t => exact fun _ _ _ h => h
            case yq11t => (refine Or.inl ⟨rfl, ?_⟩; intro w hSw; (try dsimp only at hSw); go_simp; try with_reducible rfl)
            case aq11t => assumption
            case rq11t =>
            simp only [Act.put, List.setIfInBounds_toArray, List.set_cons_zero, List.set_cons_succ]
            refine' wpAnyH_take (i := 12) (oi := ?oq12t) (v := ?vq12t) ?hq12t ?sq12t ?fq12t ?zq12t ?qq12t ?yq12t ?aq12t ?rq12t
            case hq12t => (simp only [List.getElem?_toArray, List.getElem?_cons_succ, List.getElem?_cons_zero]; rfl)
            case sq12t => kernel_rfl
            case fq12t => kernel_rfl
            case zq12t => kernel_rfl
            case qq12t => exact fun _ _ _ h => h
            case yq12t => (refine Or.inl ⟨rfl, ?_⟩; intro w hSw; (try dsimp only at hSw); go_simp; try with_reducible rfl)
            case aq12t => assumption
            case rq12t =>
            simp only [Act.put, List.setIfInBounds_toArray, List.set_cons_zero, List.set_cons_succ]
            refine' wpAnyH_take (i := 13) (oi := ?oq13t) (v := ?vq13t) ?hq13t ?sq13t ?fq13t ?zq13t ?qq13t ?yq13t ?aq13t ?rq13t
            case hq13t => (simp only [List.getElem?_toArray, List.getElem?_cons_succ, List.getElem?_cons_zero]; rfl)
            case sq13t => kernel_rfl
            case fq13t => kernel_rfl
            case zq13t => kernel_rfl
            case qq13t => exact fun _ _ _ h => h
            case yq13t => (refine Or.inl ⟨rfl, ?_⟩; intro w hSw; (try dsimp only at hSw); go_simp; try with_reducible rfl)
            case aq13t => assumption
            case rq13t =>
            simp only [Act.put, List.setIfInBounds_toArray, List.set_cons_zero, List.set_cons_succ]
            refine' wpAnyH_take (i := 14) (oi := ?oq14t) (v := ?vq14t) ?hq14t ?sq14t ?fq14t ?zq14t ?qq14t ?yq14t ?aq14t ?rq14t
            case hq14t => (simp only [List.getElem?_toArray, List.getElem?_cons_succ, List.getElem?_cons_zero]; rfl)
            case sq14t => kernel_rfl
            case fq14t => kernel_rfl
            case zq14t => kernel_rfl
            case qq14t => exact fun _ _ _ h => h
            case yq14t => (refine Or.inl ⟨rfl, ?_⟩; intro w hSw; (try dsimp only at hSw); go_simp; try with_reducible rfl)
            case aq14t => assumption
            case rq14t =>
            simp only [Act.put, List.setIfInBounds_toArray, List.set_cons_zero, List.set_cons_succ]
            refine' wpAnyH_take (i := 15) (oi := ?oq15t) (v := ?vq15t) ?hq15t ?sq15t ?fq15t ?zq15t ?qq15t ?yq15t ?aq15t ?rq15t
            case hq15t => (simp only [List.getElem?_toArray, List.getElem?_cons_succ, List.getElem?_cons_zero]; rfl)
            case sq15t => kernel_rfl
            case fq15t => kernel_rfl
            case zq15t => kernel_rfl
            case qq15t => exact fun _ _ _ h => h
            case yq15t => (refine Or.inl ⟨rfl, ?_⟩; intro w hSw; (try dsimp only at hSw); go_simp; try with_reducible rfl)
            case aq15t => assumption
            case rq15t =>
            simp only [Act.put, List.setIfInBounds_toArray, List.set_cons_zero, List.set_cons_succ]
            refine' wpAnyH_take (i := 16) (oi := ?oq16t) (v := ?vq16t) ?hq16t ?sq16t ?fq16t ?zq16t ?qq16t ?yq16t ?aq16t ?rq16t
            case hq16t => (simp only [List.getElem?_toArray, List.getElem?_cons_succ, List.getElem?_cons_zero]; rfl)
            case sq16t => kernel_rfl
            case fq16t => kernel_rfl
            case zq16t => kernel_rfl
            case qq16t => exact fun _ _ _ h => h
            case yq16t => (refine Or.inl ⟨rfl, ?_⟩; intro w hSw; (try dsimp only at hSw); go_simp; try with_reducible rfl)
            case aq16t => assumption
            case rq16t =>
            simp only [Act.put, List.setIfInBounds_toArray, List.set_cons_zero, List.set_cons_succ]
            refine' wpAnyH_take (i := 17) (oi := ?oq17t) (v := ?vq17t) ?hq17t ?sq17t ?fq17t ?zq17t ?qq17t ?yq17t ?aq17t ?rq17t
            case hq17t => (simp only [List.getElem?_toArray, List.getElem?_cons_succ, List.getElem?_cons_zero]; rfl)
            case sq17t => kernel_rfl
            case fq17t => kernel_rfl
            case zq17t => kernel_rfl
            case qq17t => exact fun _ _ _ h => h
            case yq17t => (refine Or.inl ⟨rfl, ?_⟩; intro w hSw; (try dsimp only at hSw); go_simp; try with_reducible rfl)
            case aq17t => assumption
            case rq17t =>
            simp only [Act.put, List.setIfInBounds_toArray, List.set_cons_zero, List.set_cons_succ]

            refine wpAnyH_ready (rs := [1, 18]) (by kernel_rfl) (by simp) ?_
            refine' AllReadyH.cons (o := ?oA1t) ?hA1t ?kA1t ?mA18t
            case hA1t => (simp only [List.getElem?_toArray, List.getElem?_cons_succ, List.getElem?_cons_zero]; rfl)
            case kA1t =>
              intro K hK
              obtain ⟨-, -, -, -, -, -, l6⟩ := (seven (XD.out.has (Has.r (Has.l (has_blk _ _ _))))).1
              go_simp
              refine hK.out _ _ trivial (fun hHeld => ?_)
              clear hK K l6
              (try simp only [Act.put, List.setIfInBounds_toArray, List.set_cons_zero, List.set_cons_succ])
              refine wpAnyH_ready (rs := [18]) (by kernel_rfl) (by simp) ?_
              refine' AllReadyH.cons (o := ?oB18t) ?hB18t ?kB18t AllReadyH.nil
              case hB18t => (simp only [List.getElem?_toArray, List.getElem?_cons_succ, List.getElem?_cons_zero]; rfl)
              case kB18t =>
              intro K hK
              have XE := Lib.hid (Aid.own_front (X.out.alloc #[.string xk, .string xv, .bool gb] 83)).drew
              go_simp
              refine hK.out _ _ trivial (fun hHeld => ?_)
              clear hK K
              (try simp only [Act.put, List.setIfInBounds_toArray, List.set_cons_zero, List.set_cons_succ])
              obtain ⟨ge, hge⟩ : ∃ g, g = wr.heap.size := ⟨_, rfl⟩
              rw [← hge] at XE ⊢
              clear hge
              generalize (wr.alloc _).drew = wx at *
              refine wpAnyH_ready (rs := [19]) (by kernel_rfl) (by simp) ?_
              refine' AllReadyH.cons (o := ?oB19t) ?hB19t ?kB19t AllReadyH.nil
              case hB19t => (simp only [List.getElem?_toArray, List.getElem?_cons_succ, List.getElem?_cons_zero]; rfl)
              case kB19t =>
              intro K hK
              have cx := Lib.hid (Src.ofSlice (P := Tryz.prog) (size := 3) wx Tryz.underlying29 ⟨ge, 0, none⟩ 1 1 [.string xk, .string xv, .bool gb] rfl (append3 (XE.out.has (Has.r (Has.l (has_blk _ _ _))))) (by intro u hu; simp at hu; rcases hu with rfl | rfl | rfl <;> rfl))
              refine step_append_vec rfl (.tmp 102) (.tmp 119) 29 29 rfl 83 _ 3 40 Tryz.underlying29 infoEnt rfl (by decide) (.slice A es.length c) es.length (cells3 es) rfl XE.out.vec (.slice (some ⟨ge, 0, none⟩) 1 1) rfl 1 [.string xk, .string xv, .bool gb] cx.out (by unfold maxLen; omega) (by omega) ?_
              intro v' w' hv hc hf
              have XF := Lib.hid (XE.out.app hv hc hf)
              obtain ⟨A', c', rfl⟩ := hv.slice
              clear hv hc hf cx XE
              refine hK.out _ _ trivial (fun hHeld => ?_)
              clear hK K
              (try simp only [Act.put, List.setIfInBounds_toArray, List.set_cons_zero, List.set_cons_succ])
              refine wpAnyH_ready (rs := [20]) (by kernel_rfl) (by simp) ?_
              refine' AllReadyH.cons (o := ?oB20t) ?hB20t ?kB20t AllReadyH.nil
              case hB20t => (simp only [List.getElem?_toArray, List.getElem?_cons_succ, List.getElem?_cons_zero]; rfl)
              case kB20t =>
              intro K hK
              go_simp
              refine hK.out _ _ trivial (fun hHeld => ?_)
              clear hK K
              (try simp only [Act.put, List.setIfInBounds_toArray, List.set_cons_zero, List.set_cons_succ])
              refine wpAnyH_ready (rs := [21]) (by kernel_rfl) (by simp) ?_
              refine' AllReadyH.cons (o := ?oB21t) ?hB21t ?kB21t AllReadyH.nil
              case hB21t => (simp only [List.getElem?_toArray, List.getElem?_cons_succ, List.getElem?_cons_zero]; rfl)
              case kB21t =>
              intro K hK
              obtain ⟨⟨d0, d1, d2, d3, d4, d5, d6⟩, f0, f1, f2, f3, f4, f5, f6⟩ := seven (XF.out.has (Has.r (Has.r (Has.l (has_blk _ _ _)))))
              go_simp
              refine hK.out _ _ trivial (fun hHeld => ?_)
              clear hK K d0 d1 d2 d3 d4 d5 d6 f0 f1 f2 f3 f4 f5 f6
              (try simp only [Act.put, List.setIfInBounds_toArray, List.set_cons_zero, List.set_cons_succ])
              have XG := (Aid.own_front (XF.out.set (Sets.r (Sets.r (Sets.l (sets_blk g6 31 _ 6 (.slice A' (es.length + 1) c'))))))).right
              rw [HEN.out] at XG
              have XH := Lib.hid XG
              clear XG XF
              refine wpAnyH_done (by kernel_rfl) ?_ _
              generalize World.setCell w' _ _ = wz at *
              have hlen : (es ++ [(⟨kL, vL, gb⟩ : Ent)]).length = es.length + 1 := by rw [List.length_append]; rfl
              have HLEN := Lib.hid hlen
              clear hlen
              go_wp2_with fail
              (first | go_round | go_roundw)
              case rel => exact ⟨k + 1, a + 11 + B, es ++ [⟨kL, vL, gb⟩], .slice A' (es.length + 1) c', by omega, by go_num, by go_num, by omega, by rw [HLEN.out]; have := HES.out; omega, HGO.out, by rw [HLEN.out]; exact XH⟩
              case measure => simp [intOf]; omega
            case mA18t =>
              refine' AllReadyH.cons (o := ?oC18t) ?hC18t ?kC18t AllReadyH.nil
              case hC18t => (simp only [List.getElem?_toArray, List.getElem?_cons_succ, List.getElem?_cons_zero]; rfl)
              case kC18t =>
              intro K hK
              have XE := Lib.hid (Aid.own_front (X.out.alloc #[.string xk, .string xv, .bool gb] 83)).drew
              go_simp
              refine hK.out _ _ trivial (fun hHeld => ?_)
              clear hK K
              (try simp only [Act.put, List.setIfInBounds_toArray, List.set_cons_zero, List.set_cons_succ])
              obtain ⟨ge, hge⟩ : ∃ g, g = wr.heap.size := ⟨_, rfl⟩
              rw [← hge] at XE ⊢
              clear hge
              generalize (wr.alloc _).drew = wx at *
              refine wpAnyH_ready (rs := [1]) (by kernel_rfl) (by simp) ?_
              refine' AllReadyH.cons (o := ?oC1t) ?hC1t ?kC1t AllReadyH.nil
              case hC1t => (simp only [List.getElem?_toArray, List.getElem?_cons_succ, List.getElem?_cons_zero]; rfl)
              case kC1t =>
              intro K hK
              obtain ⟨-, -, -, -, -, -, l6⟩ := (seven (XE.out.has (Has.r (Has.r (Has.l (has_blk _ _ _)))))).1
              go_simp
              refine hK.out _ _ trivial (fun hHeld => ?_)
              clear hK K l6
              (try simp only [Act.put, List.setIfInBounds_toArray, List.set_cons_zero, List.set_cons_succ])
              refine wpAnyH_ready (rs := [19]) (by kernel_rfl) (by simp) ?_
              refine' AllReadyH.cons (o := ?oC19t) ?hC19t ?kC19t AllReadyH.nil
              case hC19t => (simp only [List.getElem?_toArray, List.getElem?_cons_succ, List.getElem?_cons_zero]; rfl)
              case kC19t =>
              intro K hK
              have cx := Lib.hid (Src.ofSlice (P := Tryz.prog) (size := 3) wx Tryz.underlying29 ⟨ge, 0, none⟩ 1 1 [.string xk, .string xv, .bool gb] rfl (append3 (XE.out.has (Has.r (Has.l (has_blk _ _ _))))) (by intro u hu; simp at hu; rcases hu with rfl | rfl | rfl <;> rfl))
              refine step_append_vec rfl (.tmp 102) (.tmp 119) 29 29 rfl 83 _ 3 40 Tryz.underlying29 infoEnt rfl (by decide) (.slice A es.length c) es.length (cells3 es) rfl XE.out.vec (.slice (some ⟨ge, 0, none⟩) 1 1) rfl 1 [.string xk, .string xv, .bool gb] cx.out (by unfold maxLen; omega) (by omega) ?_
              intro v' w' hv hc hf
              have XF := Lib.hid (XE.out.app hv hc hf)
              obtain ⟨A', c', rfl⟩ := hv.slice
              clear hv hc hf cx XE
              refine hK.out _ _ trivial (fun hHeld => ?_)
              clear hK K
              (try simp only [Act.put, List.setIfInBounds_toArray, List.set_cons_zero, List.set_cons_succ])
              refine wpAnyH_ready (rs := [20]) (by kernel_rfl) (by simp) ?_
              refine' AllReadyH.cons (o := ?oC20t) ?hC20t ?kC20t AllReadyH.nil
              case hC20t => (simp only [List.getElem?_toArray, List.getElem?_cons_succ, List.getElem?_cons_zero]; rfl)
              case kC20t =>
              intro K hK
              go_simp
              refine hK.out _ _ trivial (fun hHeld => ?_)
              clear hK K
              (try simp only [Act.put, List.setIfInBounds_toArray, List.set_cons_zero, List.set_cons_succ])
              refine wpAnyH_ready (rs := [21]) (by kernel_rfl) (by simp) ?_
              refine' AllReadyH.cons (o := ?oC21t) ?hC21t ?kC21t AllReadyH.nil
              case hC21t => (simp only [List.getElem?_toArray, List.getElem?_cons_succ, List.getElem?_cons_zero]; rfl)
              case kC21t =>
              intro K hK
              obtain ⟨⟨d0, d1, d2, d3, d4, d5, d6⟩, f0, f1, f2, f3, f4, f5, f6⟩ := seven (XF.out.has (Has.r (Has.r (Has.l (has_blk _ _ _)))))
              go_simp
              refine hK.out _ _ trivial (fun hHeld => ?_)
              clear hK K d0 d1 d2 d3 d4 d5 d6 f0 f1 f2 f3 f4 f5 f6
              (try simp only [Act.put, List.setIfInBounds_toArray, List.set_cons_zero, List.set_cons_succ])
              have XG := (Aid.own_front (XF.out.set (Sets.r (Sets.r (Sets.l (sets_blk g6 31 _ 6 (.slice A' (es.length + 1) c'))))))).right
              rw [HEN.out] at XG
              have XH := Lib.hid XG
              clear XG XF
              refine wpAnyH_done (by kernel_rfl) ?_ _
              generalize World.setCell w' _ _ = wz at *
              have hlen : (es ++ [(⟨kL, vL, gb⟩ : Ent)]).length = es.length + 1 := by rw [List.length_append]; rfl
              have HLEN := Lib.hid hlen
              clear hlen
              go_wp2_with fail
              (first | go_round | go_roundw)
              case rel => exact ⟨k + 1, a + 11 + B, es ++ [⟨kL, vL, gb⟩], .slice A' (es.length + 1) c', by omega, by go_num, by go_num, by omega, by rw [HLEN.out]; have := HES.out; omega, HGO.out, by rw [HLEN.out]; exact XH⟩
              case measure => simp [intOf]; omega
      · as_aux_lemma =>
        obtain rfl : k = C := by omega
        rw [Nat.sub_self, goD] at hgo
        obtain ⟨A, c, rfl⟩ := X.out.vec.slice
        obtain ⟨n1, hn1⟩ : ∃ n, n = ({ n0 with list := es } : Nod) := ⟨_, rfl⟩
        have X1 : Hid (Own w No wr (Asn.vec 83 3 (.slice A n1.list.length c) n1.list.length (cells3 n1.list) * (Asn.blk g6 31 #[.int .i64 n1.tree, .int .i64 n1.level, .int .i64 n1.stamp, .bool n1.has, .string (ofL n1.high), .int .i64 n1.right, .slice A n1.list.length c] * (Asn.blk g2 31 #[.int .i64 0, .int .i64 0, .int .i64 0, .bool false, .string ⟨#[]⟩, .int .i64 0, .slice none 0 0] * Asn.emp)))) := by
          rw [hn1]
          dsimp only
          rw [hb]
          exact X
        have HRd : readD s = if (goodB n1 && decide (bytes n1 = s)) = true then some n1 else none := by
          unfold readD
          rw [hsl, decide_eq_true hl, if_pos (by rfl), ← HT.out, HRD.out, hgo, hn1]
        have HV : NodAt wr (.agg (nodCells n1 (.slice A n1.list.length c))) n1 := ⟨_, rfl, Row3.of_vec X1.out.vec⟩
        have EG : Hid (∀ w', Below wr.heap.size wr w' → _) := Lib.hid (fun w' hbb => refGood_any n1 _ w' (HV.keep hbb))
        have EB : Hid (∀ w', Below wr.heap.size wr w' → goodB n1 = true → _) := Lib.hid (fun w' hbb hg => refBytes_any n1 _ w' (HV.keep hbb) hg)
        have hpg := str_eq (ofL (bytes n1)) (ofL s)
        have hpq : decide (ofL (bytes n1) = ofL s) = decide (bytes n1 = s) := decide_eq_decide.2 ⟨ofL_inj, fun h => by rw [h]⟩
        rw [hpq, hx] at hpg
        have HRD1 := Lib.hid HRd
        have HPG := Lib.hid hpg
        clear hpq hpg HRd HV hgo hn1 hb X HRD hx hes hk hlt
        generalize hq : decide (bytes n1 = s) = q at *
        generalize hxb : ofL (bytes n1) = x1 at *
        clear hq hxb
        unfold nodCells at EG EB
        obtain ⟨c0, c1, c2, c3, c4, c5, c6⟩ := nod_cells (X1.out.has (Has.r (Has.l (has_blk _ _ _))))
        go_wp2_with fail
        refine (EG.out _ (Below.refl _ _)).mono ?_
        rintro e w7 ⟨rfl, hX⟩
        have X2 := Lib.hid (X1.out.below hX)
        have BX := Lib.hid hX
        clear hX X1 c0 c1 c2 c3 c4 c5 c6
        cases hg : goodB n1 with
        | false =>
          have HN : Hid (readD s = none) := Lib.hid (by rw [HRD1.out, hg]; rfl)
          clear hg EB EG HRD1
          have X8 := Lib.hid X2.out.right.right
          clear X2
          have hst := store_nod (X8.out.has (Has.l (has_blk _ _ _))) 0 0 0 0 false ⟨#[]⟩ none 0 0
          have HST := Lib.hid hst
          clear hst
          go_wp2_with (with_reducible refine wpList_store rfl rfl (.tmp 2) (.tmp 132) 31 rfl (.pointer (some ⟨g2, 0, none⟩)) (.agg #[.int .i64 0, .int .i64 0, .int .i64 0, .bool false, .string ⟨#[]⟩, .int .i64 0, .slice none 0 0]) ?c1s3 ?c2s3 _ HST.out ?_)
          try (case c1s3 => rfl)
          try (case c2s3 => rfl)
          clear HST
          have U1 := Lib.hid (own_seven X8.out (.int .i64 0) (.int .i64 0) (.int .i64 0) (.bool false) (.string ⟨#[]⟩) (.int .i64 0) (.slice none 0 0))
          clear X8
          generalize World.setCell (World.setCell (World.setCell (World.setCell (World.setCell (World.setCell (World.setCell w7 _ _) _ _) _ _) _ _) _ _) _ _) _ _ = w7 at *
          obtain ⟨⟨c0, c1, c2, c3, c4, c5, c6⟩, -⟩ := seven (U1.out.has (Has.l (has_blk _ _ _)))
          have TN : Hid (Own w No w7 (aEnts Nod.none (.slice none 0 0))) := Lib.hid (none_ents U1.out).left
          exact bodyPost_ret (v := .tuple #[.agg #[.int .i64 0, .int .i64 0, .int .i64 0, .bool false, .string ⟨#[]⟩, .int .i64 0, .slice none 0 0], .bool false]) (res_nod (x := 2) (y := 3) (by kernel_rfl) rfl rfl (U1.out.has (Has.l (has_blk _ _ _)))) rfl ⟨.slice none 0 0, by rw [HN.out]; rfl, by rw [HN.out]; exact TN.out⟩

        | true =>
          have EB2 := Lib.hid (EB.out w7 BX.out hg)
          obtain ⟨c0, c1, c2, c3, c4, c5, c6⟩ := nod_cells (X2.out.has (Has.r (Has.l (has_blk _ _ _))))
          go_wp2_with fail
          refine EB2.out.mono ?_
          rintro e w8 ⟨rfl, hX⟩
          have X3 := Lib.hid (X2.out.below hX)
          clear hX X2 BX EB EB2 EG c0 c1 c2 c3 c4 c5 c6
          have hp := HPG.out
          cases q with
          | false =>
            have HN : Hid (readD s = none) := Lib.hid (by rw [HRD1.out, hg]; rfl)
            clear hg HRD1
            have X8 := Lib.hid X3.out.right.right
            clear X3
            have hst := store_nod (X8.out.has (Has.l (has_blk _ _ _))) 0 0 0 0 false ⟨#[]⟩ none 0 0
            have HST := Lib.hid hst
            clear hst
            go_wp2_with (with_reducible refine wpList_store rfl rfl (.tmp 2) (.tmp 132) 31 rfl (.pointer (some ⟨g2, 0, none⟩)) (.agg #[.int .i64 0, .int .i64 0, .int .i64 0, .bool false, .string ⟨#[]⟩, .int .i64 0, .slice none 0 0]) ?c1s4 ?c2s4 _ HST.out ?_)
            try (case c1s4 => rfl)
            try (case c2s4 => rfl)
            clear HST
            have U1 := Lib.hid (own_seven X8.out (.int .i64 0) (.int .i64 0) (.int .i64 0) (.bool false) (.string ⟨#[]⟩) (.int .i64 0) (.slice none 0 0))
            clear X8
            generalize World.setCell (World.setCell (World.setCell (World.setCell (World.setCell (World.setCell (World.setCell w8 _ _) _ _) _ _) _ _) _ _) _ _) _ _ = w7 at *
            obtain ⟨⟨c0, c1, c2, c3, c4, c5, c6⟩, -⟩ := seven (U1.out.has (Has.l (has_blk _ _ _)))
            have TN : Hid (Own w No w7 (aEnts Nod.none (.slice none 0 0))) := Lib.hid (none_ents U1.out).left
            exact bodyPost_ret (v := .tuple #[.agg #[.int .i64 0, .int .i64 0, .int .i64 0, .bool false, .string ⟨#[]⟩, .int .i64 0, .slice none 0 0], .bool false]) (res_nod (x := 2) (y := 3) (by kernel_rfl) rfl rfl (U1.out.has (Has.l (has_blk _ _ _)))) rfl ⟨.slice none 0 0, by rw [HN.out]; rfl, by rw [HN.out]; exact TN.out⟩

          | true =>
            have HN : Hid (readD s = some n1) := Lib.hid (by rw [HRD1.out, hg]; rfl)
            clear hg HRD1
            have X4 := Lib.hid (X3.out.imp (Imp.r imp_front2))
            obtain ⟨⟨c0, c1, c2, c3, c4, c5, c6⟩, -⟩ := seven (X4.out.has (Has.r (Has.r (Has.l (has_blk _ _ _)))))
            have X5 := Lib.hid (Aid.own_front X4.out)
            have hst := store_nod (X5.out.has (Has.l (has_blk _ _ _))) n1.tree n1.level n1.stamp n1.right n1.has (ofL n1.high) A n1.list.length c
            clear X3
            have HST := Lib.hid hst
            clear hst
            go_wp2_with (with_reducible refine wpList_store rfl rfl (.tmp 2) (.tmp 133) 31 rfl (.pointer (some ⟨g2, 0, none⟩)) (.agg #[.int .i64 n1.tree, .int .i64 n1.level, .int .i64 n1.stamp, .bool n1.has, .string (ofL n1.high), .int .i64 n1.right, .slice A n1.list.length c]) ?c1s5 ?c2s5 _ HST.out ?_)
            try (case c1s5 => rfl)
            try (case c2s5 => rfl)
            clear HST
            have U1 := Lib.hid (own_seven X5.out (.int .i64 n1.tree) (.int .i64 n1.level) (.int .i64 n1.stamp) (.bool n1.has) (.string (ofL n1.high)) (.int .i64 n1.right) (.slice A n1.list.length c))
            clear X4 X5 c0 c1 c2 c3 c4 c5 c6
            generalize World.setCell (World.setCell (World.setCell (World.setCell (World.setCell (World.setCell (World.setCell w8 _ _) _ _) _ _) _ _) _ _) _ _) _ _ = w9 at *
            obtain ⟨⟨c0, c1, c2, c3, c4, c5, c6⟩, -⟩ := seven (U1.out.has (Has.l (has_blk _ _ _)))
            exact bodyPost_ret (v := .tuple #[.agg #[.int .i64 n1.tree, .int .i64 n1.level, .int .i64 n1.stamp, .bool n1.has, .string (ofL n1.high), .int .i64 n1.right, .slice A n1.list.length c], .bool true]) (res_nod (x := 2) (y := 3) (by kernel_rfl) rfl rfl (U1.out.has (Has.l (has_blk _ _ _)))) rfl ⟨.slice A n1.list.length c, by rw [HN.out]; rfl, by rw [HN.out]; exact U1.out.right.left⟩
  · as_aux_lemma =>
    rw [hb] at T2 c3 hhi
    rw [if_neg (by decide)] at hhi
    go_upto_region 7 with fail
    have T3 : Hid (Own w No w4 (Asn.vec 83 3 (.slice none 0 0) (([] : List Ent)).length (cells3 ([] : List Ent)) * (Asn.blk g6 31 #[.int .i64 n0.tree, .int .i64 n0.level, .int .i64 n0.stamp, .bool false, .string (ofL n0.high), .int .i64 n0.right, (.slice none 0 0)] * (Asn.blk g2 31 #[.int .i64 0, .int .i64 0, .int .i64 0, .bool false, .string ⟨#[]⟩, .int .i64 0, .slice none 0 0] * Asn.emp)))) := by
      rw [hhi]
      exact Lib.hid (T2.out.nilVec 83 3)
    clear hhi T2 c0 c1 c2 c3 c4 c5 c6 f0 f1 f2 f3 f4 f5 f6
    generalize w4 = w5 at *
    have hlt : 18 < y.size ∧ 19 < y.size := by omega
    have hwa : ∀ (b : UInt8), IntKind.i64.wrap (b.toNat : Int) = (b.toNat : Int) := fun b => by have := b.toNat_lt; rw [IntKind.wrap_i64]; omega
    have hwb : ∀ (b : UInt8), IntKind.i64.wrap ((b.toNat : Int) * 256) = (b.toNat : Int) * 256 := fun b => by have := b.toNat_lt; rw [IntKind.wrap_i64]; omega
    have hwe : ∀ (a b : UInt8), IntKind.i64.wrap ((a.toNat : Int) + (b.toNat : Int) * 256) = (a.toNat : Int) + (b.toNat : Int) * 256 := fun a b => by have := a.toNat_lt; have := b.toNat_lt; rw [IntKind.wrap_i64]; omega
    go_wp2_with fail
    go_quiet (fail)
    have T4 := Lib.hid (T3.out.drewN nq)
    clear T3 hwa hwb hwe hlt
    generalize w5.drewN nq = w6 at *
    try rw [HC1.out]
    clear HC1
    generalize (y[0]'(by omega)) = z0 at *
    generalize (y[1]'(by omega)) = z1 at *
    generalize (y[2]'(by omega)) = z2 at *
    generalize (y[3]'(by omega)) = z3 at *
    generalize (y[4]'(by omega)) = z4 at *
    generalize (y[5]'(by omega)) = z5 at *
    generalize (y[6]'(by omega)) = z6 at *
    generalize (y[16]'(by omega)) = z16 at *
    generalize (y[17]'(by omega)) = z17 at *
    generalize (y[18]'(by omega)) = z18 at *
    generalize (y[19]'(by omega)) = z19 at *
    generalize ((z0.toNat : Nat) : Int) = i0 at *
    generalize ((z1.toNat : Nat) : Int) = i1 at *
    generalize ((z2.toNat : Nat) : Int) = i2 at *
    generalize ((z3.toNat : Nat) : Int) = i3 at *
    generalize ((z4.toNat : Nat) : Int) = i4 at *
    generalize ((z5.toNat : Nat) : Int) = i5 at *
    generalize ((z6.toNat : Nat) : Int) = i6 at *
    generalize ((z16.toNat : Nat) : Int) = i16 at *
    generalize ((z17.toNat : Nat) : Int) = i17 at *
    generalize ((z18.toNat : Nat) : Int) = i18 at *
    generalize ((z19.toNat : Nat) : Int) = i19 at *
    generalize (i3 * 256 : Int) = m3 at *
    generalize (i2 + m3 : Int) = a3 at *
    generalize (i4 * 65536 : Int) = m4 at *
    generalize (a3 + m4 : Int) = a4 at *
    generalize (i5 * 16777216 : Int) = m5 at *
    generalize (a4 + m5 : Int) = a5 at *
    generalize (i17 * 256 : Int) = m17 at *
    generalize (i16 + m17 : Int) = a17 at *
    generalize (i19 * 256 : Int) = m19 at *
    generalize (i6 == 1) = b6 at *
    go_wp2_with fail
    clear hyy
    go_loopw [8, 9, 10] (fun p i q wr => ∃ (k a : Nat) (es : List Ent) (v : Value), k ≤ C ∧ i = .int .i64 k ∧ p = .int .i64 a ∧ a ≤ 252 ∧ es.length = k ∧ goD t C 20 [] = goD t (C - k) a es ∧ Hid (Own w No wr (Asn.vec 83 3 v (es).length (cells3 es) * (Asn.blk g6 31 #[.int .i64 n0.tree, .int .i64 n0.level, .int .i64 n0.stamp, .bool false, .string (ofL n0.high), .int .i64 n0.right, v] * (Asn.blk g2 31 #[.int .i64 0, .int .i64 0, .int .i64 0, .bool false, .string ⟨#[]⟩, .int .i64 0, .slice none 0 0] * Asn.emp))))) (fun _ i _ _ => C - (intOf i).toNat)
    case atStart => exact ⟨0, 20, [], .slice none 0 0, Nat.zero_le _, rfl, rfl, by decide, rfl, rfl, T4⟩
    case round =>
      clear T4
      obtain ⟨k, a, es, v, hk, rfl, rfl, ha, hes, hgo, X⟩ := hrel
      by_cases hlt : k < C
      · rw [show C - k = (C - (k + 1)) + 1 by omega, goD] at hgo
        by_cases h11 : 252 < a + 11
        · as_aux_lemma =>
          rw [if_pos h11] at hgo
          have X1 := Lib.hid X.out.right.right
          clear X
          have hst := store_nod (X1.out.has (Has.l (has_blk _ _ _))) 0 0 0 0 false ⟨#[]⟩ none 0 0
          have hN : readD s = none := by
            unfold readD
            rw [hsl, decide_eq_true hl, if_pos (by rfl), ← HT.out, HRD.out, hgo]
          have HST := Lib.hid hst
          clear hst
          go_wp2_with (with_reducible refine wpList_store rfl rfl (.tmp 2) (.tmp 92) 31 rfl (.pointer (some ⟨g2, 0, none⟩)) (.agg #[.int .i64 0, .int .i64 0, .int .i64 0, .bool false, .string ⟨#[]⟩, .int .i64 0, .slice none 0 0]) ?c1s6 ?c2s6 _ HST.out ?_)
          try (case c1s6 => rfl)
          try (case c2s6 => rfl)
          clear HST
          have U1 := Lib.hid (own_seven X1.out (.int .i64 0) (.int .i64 0) (.int .i64 0) (.bool false) (.string ⟨#[]⟩) (.int .i64 0) (.slice none 0 0))
          clear X1
          generalize World.setCell (World.setCell (World.setCell (World.setCell (World.setCell (World.setCell (World.setCell wr _ _) _ _) _ _) _ _) _ _) _ _) _ _ = w7 at *
          obtain ⟨⟨c0, c1, c2, c3, c4, c5, c6⟩, -⟩ := seven (U1.out.has (Has.l (has_blk _ _ _)))
          have TN : Hid (Own w No w7 (aEnts Nod.none (.slice none 0 0))) := Lib.hid (none_ents U1.out).left
          exact bodyPost_ret (v := .tuple #[.agg #[.int .i64 0, .int .i64 0, .int .i64 0, .bool false, .string ⟨#[]⟩, .int .i64 0, .slice none 0 0], .bool false]) (res_nod (x := 2) (y := 3) (by kernel_rfl) rfl rfl (U1.out.has (Has.l (has_blk _ _ _)))) rfl ⟨.slice none 0 0, by first | rfl | (rw [hN]; rfl), by first | exact TN.out | (rw [hN]; exact TN.out)⟩

        · rw [if_neg h11] at hgo
          have hw10 : IntKind.i64.wrap ((a : Int) + 10) = ((a + 10 : Nat) : Int) := by rw [IntKind.wrap_i64]; omega
          have hi10 : a + 10 < y.size := by omega
          have hb10 : (y[a + 10]'hi10).toNat = (t.getD (a + 10) 0).toNat := by rw [HYB.out]
          have hbl := (t.getD (a + 10) 0).toNat_lt
          generalize hB : (t.getD (a + 10) 0).toNat = B at *
          by_cases h2 : 252 < a + 11 + B
          · as_aux_lemma =>
            rw [if_pos h2] at hgo
            have X1 := Lib.hid X.out.right.right
            clear X
            have hst := store_nod (X1.out.has (Has.l (has_blk _ _ _))) 0 0 0 0 false ⟨#[]⟩ none 0 0
            have hN : readD s = none := by
              unfold readD
              rw [hsl, decide_eq_true hl, if_pos (by rfl), ← HT.out, HRD.out, hgo]
            have HST := Lib.hid hst
            clear hst
            go_wp2_with (with_reducible refine wpList_store rfl rfl (.tmp 2) (.tmp 92) 31 rfl (.pointer (some ⟨g2, 0, none⟩)) (.agg #[.int .i64 0, .int .i64 0, .int .i64 0, .bool false, .string ⟨#[]⟩, .int .i64 0, .slice none 0 0]) ?c1s7 ?c2s7 _ HST.out ?_)
            try (case c1s7 => rfl)
            try (case c2s7 => rfl)
            clear HST
            have U1 := Lib.hid (own_seven X1.out (.int .i64 0) (.int .i64 0) (.int .i64 0) (.bool false) (.string ⟨#[]⟩) (.int .i64 0) (.slice none 0 0))
            clear X1
            generalize World.setCell (World.setCell (World.setCell (World.setCell (World.setCell (World.setCell (World.setCell wr _ _) _ _) _ _) _ _) _ _) _ _) _ _ = w7 at *
            obtain ⟨⟨c0, c1, c2, c3, c4, c5, c6⟩, -⟩ := seven (U1.out.has (Has.l (has_blk _ _ _)))
            have TN : Hid (Own w No w7 (aEnts Nod.none (.slice none 0 0))) := Lib.hid (none_ents U1.out).left
            exact bodyPost_ret (v := .tuple #[.agg #[.int .i64 0, .int .i64 0, .int .i64 0, .bool false, .string ⟨#[]⟩, .int .i64 0, .slice none 0 0], .bool false]) (res_nod (x := 2) (y := 3) (by kernel_rfl) rfl rfl (U1.out.has (Has.l (has_blk _ _ _)))) rfl ⟨.slice none 0 0, by first | rfl | (rw [hN]; rfl), by first | exact TN.out | (rw [hN]; exact TN.out)⟩

          · as_aux_lemma =>
            rw [if_neg h2] at hgo
            obtain ⟨kL, hkL⟩ : ∃ kL, kL = (t.drop a).take 9 := ⟨_, rfl⟩
            obtain ⟨vL, hvL⟩ : ∃ vL, vL = (t.drop (a + 11)).take B := ⟨_, rfl⟩
            have hs1 := HSL.out a (a + 9) (by omega) (by omega)
            rw [Nat.add_sub_cancel_left, ← hkL] at hs1
            have hs2 : ∀ W, (Instr.slice 9 (.string y) (some (.int .i64 (a : Int))) (some (.int .i64 ((a : Int) + 9))) none).run Tryz.prog W = .ok (.string (ofL kL)) W := hs1
            have hs3 := HSL.out (a + 11) (a + 11 + B) (by omega) (by omega)
            rw [Nat.add_sub_cancel_left, ← hvL] at hs3
            have hs4 : ∀ W, (Instr.slice 9 (.string y) (some (.int .i64 ((a : Int) + 11))) (some (.int .i64 ((a : Int) + 11 + (B : Int)))) none).run Tryz.prog W = .ok (.string (ofL vL)) W := hs3
            clear hs1 hs3
            have hw9 : IntKind.i64.wrap ((a : Int) + 9) = (a : Int) + 9 := by rw [IntKind.wrap_i64]; omega
            have hw11 : IntKind.i64.wrap ((a : Int) + 11) = (a : Int) + 11 := by rw [IntKind.wrap_i64]; omega
            have hIX : ∀ W : World, (Instr.index 9 (.string y) (.int .i64 ((a : Int) + 9))).run Tryz.prog W = .ok (.int .u8 ((t.getD (a + 9) 0).toNat : Int)) W := fun W => by
              have hi9 : ((a : Int) + 9).toNat < y.size := by omega
              have e9 : (y[((a : Int) + 9).toNat]'hi9) = t.getD (a + 9) 0 := by
                rw [HYB.out, show ((a : Int) + 9).toNat = a + 9 by omega]
              rw [run_index_string W _ y .i64 _ Tryz.underlying9, dif_pos (by omega), e9]
            have HIX := Lib.hid hIX
            clear hIX
            have hgb : decide ((t.getD (a + 9) 0).toNat = 1) = ((((t.getD (a + 9) 0).toNat : Nat) : Int) == 1) := by
              rw [Bool.eq_iff_iff]; simp only [beq_iff_eq, decide_eq_true_eq]; omega
            rw [← hkL, ← hvL, hgb] at hgo
            clear hgb hkL hvL
            generalize hB9 : (t.getD (a + 9) 0).toNat = B9 at *
            go_upto_region 15 with fail
            have hIX := HIX.out
            clear hw10 hi10 hb10 hB
            have HEN : Hid (cells3 es ++ [.string (ofL kL), .string (ofL vL), .bool ((B9 : Int) == 1)] = cells3 (es ++ [⟨kL, vL, (B9 : Int) == 1⟩])) := Lib.hid (by simp [cells3])
            have HGO := Lib.hid hgo
            have HES := Lib.hid hes
            have hle : es.length ≤ 65535 := by omega
            clear hgo hes
            obtain ⟨A, c, rfl⟩ := X.out.vec.slice
            generalize hgbb : ((B9 : Int) == 1) = gb at *
            obtain ⟨xk, hxk⟩ : ∃ xk, xk = ofL kL := ⟨_, rfl⟩
            obtain ⟨xv, hxv⟩ : ∃ xv, xv = ofL vL := ⟨_, rfl⟩
            rw [← hxk] at hs2 HEN
            rw [← hxv] at hs4 HEN
            clear hxk hxv
            have XD := Lib.hid X.out.drew
            refine wp_region_held_drew (S := fun W => True) (by kernel_rfl) trivial (fun hHeld => ?_)
            refine' wpAnyH_take (i := 0) (oi := ?oq0f) (v := ?vq0f) ?hq0f ?sq0f ?fq0f ?zq0f ?qq0f ?yq0f ?aq0f ?rq0f
            case hq0f => (simp only [List.getElem?_toArray, List.getElem?_cons_succ, List.getElem?_cons_zero]; rfl)
            case sq0f => kernel_rfl
            case fq0f => kernel_rfl
            case zq0f => kernel_rfl
            case qq0f => exact fun _ _ _ h => h
            case yq0f => (refine Or.inl ⟨rfl, ?_⟩; intro w hSw; (try dsimp only at hSw); go_simp; try with_reducible rfl)
            case aq0f => assumption
            case rq0f =>
            simp only [Act.put, List.setIfInBounds_toArray, List.set_cons_zero, List.set_cons_succ]
            refine' wpAnyH_take (i := 2) (oi := ?oq2f) (v := ?vq2f) ?hq2f ?sq2f ?fq2f ?zq2f ?qq2f ?yq2f ?aq2f ?rq2f
            case hq2f => (simp only [List.getElem?_toArray, List.getElem?_cons_succ, List.getElem?_cons_zero]; rfl)
            case sq2f => kernel_rfl
            case fq2f => kernel_rfl
            case zq2f => kernel_rfl
            case qq2f => exact fun _ _ _ h => h
            case yq2f => (refine Or.inl ⟨rfl, ?_⟩; intro w hSw; (try dsimp only at hSw); go_simp; try with_reducible rfl)
            case aq2f => assumption
            case rq2f =>
            simp only [Act.put, List.setIfInBounds_toArray, List.set_cons_zero, List.set_cons_succ]
            refine' wpAnyH_take (i := 3) (oi := ?oq3f) (v := ?vq3f) ?hq3f ?sq3f ?fq3f ?zq3f ?qq3f ?yq3f ?aq3f ?rq3f
            case hq3f => (simp only [List.getElem?_toArray, List.getElem?_cons_succ, List.getElem?_cons_zero]; rfl)
            case sq3f => kernel_rfl
            case fq3f => kernel_rfl
            case zq3f => kernel_rfl
            case qq3f => exact fun _ _ _ h => h
            case yq3f => (refine Or.inl ⟨rfl, ?_⟩; intro w hSw; (try dsimp only at hSw); go_simp; try with_reducible rfl)
            case aq3f => assumption
            case rq3f =>
            simp only [Act.put, List.setIfInBounds_toArray, List.set_cons_zero, List.set_cons_succ]
            refine' wpAnyH_take (i := 4) (oi := ?oq4f) (v := ?vq4f) ?hq4f ?sq4f ?fq4f ?zq4f ?qq4f ?yq4f ?aq4f ?rq4f
            case hq4f => (simp only [List.getElem?_toArray, List.getElem?_cons_succ, List.getElem?_cons_zero]; rfl)
            case sq4f => kernel_rfl
            case fq4f => kernel_rfl
            case zq4f => kernel_rfl
            case qq4f => exact fun _ _ _ h => h
            case yq4f => (refine Or.inl ⟨rfl, ?_⟩; intro w hSw; (try dsimp only at hSw); go_simp; try with_reducible rfl)
            case aq4f => assumption
            case rq4f =>
            simp only [Act.put, List.setIfInBounds_toArray, List.set_cons_zero, List.set_cons_succ]
            refine' wpAnyH_take (i := 5) (oi := ?oq5f) (v := ?vq5f) ?hq5f ?sq5f ?fq5f ?zq5f ?qq5f ?yq5f ?aq5f ?rq5f
            case hq5f => (simp only [List.getElem?_toArray, List.getElem?_cons_succ, List.getElem?_cons_zero]; rfl)
            case sq5f => kernel_rfl
            case fq5f => kernel_rfl
            case zq5f => kernel_rfl
            case qq5f => exact fun _ _ _ h => h
            case yq5f => (refine Or.inl ⟨rfl, ?_⟩; intro w hSw; (try dsimp only at hSw); go_simp; try with_reducible rfl)
            case aq5f => assumption
            case rq5f =>
            simp only [Act.put, List.setIfInBounds_toArray, List.set_cons_zero, List.set_cons_succ]
            refine' wpAnyH_take (i := 6) (oi := ?oq6f) (v := ?vq6f) ?hq6f ?sq6f ?fq6f ?zq6f ?qq6f ?yq6f ?aq6f ?rq6f
            case hq6f => (simp only [List.getElem?_toArray, List.getElem?_cons_succ, List.getElem?_cons_zero]; rfl)
            case sq6f => kernel_rfl
            case fq6f => kernel_rfl
            case zq6f => kernel_rfl
            case qq6f => exact fun _ _ _ h => h
            case yq6f => (refine Or.inl ⟨rfl, ?_⟩; intro w hSw; (try dsimp only at hSw); go_simp; try with_reducible rfl)
            case aq6f => assumption
            case rq6f =>
            simp only [Act.put, List.setIfInBounds_toArray, List.set_cons_zero, List.set_cons_succ]
            refine' wpAnyH_take (i := 7) (oi := ?oq7f) (v := ?vq7f) ?hq7f ?sq7f ?fq7f ?zq7f ?qq7f ?yq7f ?aq7f ?rq7f
            case hq7f => (simp only [List.getElem?_toArray, List.getElem?_cons_succ, List.getElem?_cons_zero]; rfl)
            case sq7f => kernel_rfl
            case fq7f => kernel_rfl
            case zq7f => kernel_rfl
            case qq7f => exact fun _ _ _ h => h
            case yq7f => (refine Or.inl ⟨rfl, ?_⟩; intro w hSw; (try dsimp only at hSw); go_simp; try with_reducible rfl)
            case aq7f => assumption
            case rq7f =>
            simp only [Act.put, List.setIfInBounds_toArray, List.set_cons_zero, List.set_cons_succ]
            refine' wpAnyH_take (i := 8) (oi := ?oq8f) (v := ?vq8f) ?hq8f ?sq8f ?fq8f ?zq8f ?qq8f ?yq8f ?aq8f ?rq8f
            case hq8f => (simp only [List.getElem?_toArray, List.getElem?_cons_succ, List.getElem?_cons_zero]; rfl)
            case sq8f => kernel_rfl
            case fq8f => kernel_rfl
            case zq8f => kernel_rfl
            case qq8f => exact fun _ _ _ h => h
            case yq8f => (refine Or.inl ⟨rfl, ?_⟩; intro w hSw; (try dsimp only at hSw); go_simp; try with_reducible rfl)
            case aq8f => assumption
            case rq8f =>
            simp only [Act.put, List.setIfInBounds_toArray, List.set_cons_zero, List.set_cons_succ]
            refine' wpAnyH_take (i := 9) (oi := ?oq9f) (v := ?vq9f) ?hq9f ?sq9f ?fq9f ?zq9f ?qq9f ?yq9f ?aq9f ?rq9f
            case hq9f => (simp only [List.getElem?_toArray, List.getElem?_cons_succ, List.getElem?_cons_zero]; rfl)
            case sq9f => kernel_rfl
            case fq9f => kernel_rfl
            case zq9f => kernel_rfl
            case qq9f => exact fun _ _ _ h => h
            case yq9f => (refine Or.inl ⟨rfl, ?_⟩; intro w hSw; (try dsimp only at hSw); go_simp; try with_reducible rfl)
            case aq9f => assumption
            case rq9f =>
            simp only [Act.put, List.setIfInBounds_toArray, List.set_cons_zero, List.set_cons_succ]
            refine' wpAnyH_take (i := 10) (oi := ?oq10f) (v := ?vq10f) ?hq10f ?sq10f ?fq10f ?zq10f ?qq10f ?yq10f ?aq10f ?rq10f
            case hq10f => (simp only [List.getElem?_toArray, List.getElem?_cons_succ, List.getElem?_cons_zero]; rfl)
            case sq10f => kernel_rfl
            case fq10f => kernel_rfl
            case zq10f => kernel_rfl
            case qq10f => exact fun _ _ _ h => h
            case yq10f => (refine Or.inl ⟨rfl, ?_⟩; intro w hSw; (try dsimp only at hSw); go_simp; try with_reducible rfl)
            case aq10f => assumption
            case rq10f =>
            simp only [Act.put, List.setIfInBounds_toArray, List.set_cons_zero, List.set_cons_succ]
            refine' wpAnyH_take (i := 11) (oi := ?oq11f) (v := ?vq11f) ?hq11f ?sq11f ?fq11f ?zq11f ?qq11f ?yq11f ?aq11f ?rq11f
            case hq11f => (simp only [List.getElem?_toArray, List.getElem?_cons_succ, List.getElem?_cons_zero]; rfl)
            case sq11f => kernel_rfl
            case fq11f => kernel_rfl
            case zq11f => kernel_rfl
            case qq11f => exact fun _ _ _ h => h
            case yq11f => (refine Or.inl ⟨rfl, ?_⟩; intro w hSw; (try dsimp only at hSw); go_simp; try with_reducible rfl)
            case aq11f => assumption
            case rq11f =>
            simp only [Act.put, List.setIfInBounds_toArray, List.set_cons_zero, List.set_cons_succ]
            refine' wpAnyH_take (i := 12) (oi := ?oq12f) (v := ?vq12f) ?hq12f ?sq12f ?fq12f ?zq12f ?qq12f ?yq12f ?aq12f ?rq12f
            case hq12f => (simp only [List.getElem?_toArray, List.getElem?_cons_succ, List.getElem?_cons_zero]; rfl)
            case sq12f => kernel_rfl
            case fq12f => kernel_rfl
            case zq12f => kernel_rfl
            case qq12f => exact fun _ _ _ h => h
            case yq12f => (refine Or.inl ⟨rfl, ?_⟩; intro w hSw; (try dsimp only at hSw); go_simp; try with_reducible rfl)
            case aq12f => assumption
            case rq12f =>
            simp only [Act.put, List.setIfInBounds_toArray, List.set_cons_zero, List.set_cons_succ]
            refine' wpAnyH_take (i := 13) (oi := ?oq13f) (v := ?vq13f) ?hq13f ?sq13f ?fq13f ?zq13f ?qq13f ?yq13f ?aq13f ?rq13f
            case hq13f => (simp only [List.getElem?_toArray, List.getElem?_cons_succ, List.getElem?_cons_zero]; rfl)
            case sq13f => kernel_rfl
            case fq13f => kernel_rfl
            case zq13f => kernel_rfl
            case qq13f => exact fun _ _ _ h => h
            case yq13f => (refine Or.inl ⟨rfl, ?_⟩; intro w hSw; (try dsimp only at hSw); go_simp; try with_reducible rfl)
            case aq13f => assumption
            case rq13f =>
            simp only [Act.put, List.setIfInBounds_toArray, List.set_cons_zero, List.set_cons_succ]
            refine' wpAnyH_take (i := 14) (oi := ?oq14f) (v := ?vq14f) ?hq14f ?sq14f ?fq14f ?zq14f ?qq14f ?yq14f ?aq14f ?rq14f
            case hq14f => (simp only [List.getElem?_toArray, List.getElem?_cons_succ, List.getElem?_cons_zero]; rfl)
            case sq14f => kernel_rfl
            case fq14f => kernel_rfl
            case zq14f => kernel_rfl
            case qq14f => exact fun _ _ _ h => h
            case yq14f => (refine Or.inl ⟨rfl, ?_⟩; intro w hSw; (try dsimp only at hSw); go_simp; try with_reducible rfl)
            case aq14f => assumption
            case rq14f =>
            simp only [Act.put, List.setIfInBounds_toArray, List.set_cons_zero, List.set_cons_succ]
            refine' wpAnyH_take (i := 15) (oi := ?oq15f) (v := ?vq15f) ?hq15f ?sq15f ?fq15f ?zq15f ?qq15f ?yq15f ?aq15f ?rq15f
            case hq15f => (simp only [List.getElem?_toArray, List.getElem?_cons_succ, List.getElem?_cons_zero]; rfl)
            case sq15f => kernel_rfl
            case fq15f => kernel_rfl
            case zq15f => kernel_rfl
            case qq15f => exact fun _ _ _ h => h
            case yq15f => (refine Or.inl ⟨rfl, ?_⟩; intro w hSw; (try dsimp only at hSw); go_simp; try with_reducible rfl)
            case aq15f => assumption
            case rq15f =>
            simp only [Act.put, List.setIfInBounds_toArray, List.set_cons_zero, List.set_cons_succ]
            refine' wpAnyH_take (i := 16) (oi := ?oq16f) (v := ?vq16f) ?hq16f ?sq16f ?fq16f ?zq16f ?qq16f ?yq16f ?aq16f ?rq16f
            case hq16f => (simp only [List.getElem?_toArray, List.getElem?_cons_succ, List.getElem?_cons_zero]; rfl)
            case sq16f => kernel_rfl
            case fq16f => kernel_rfl
            case zq16f => kernel_rfl
            case qq16f => exact fun _ _ _ h => h
            case yq16f => (refine Or.inl ⟨rfl, ?_⟩; intro w hSw; (try dsimp only at hSw); go_simp; try with_reducible rfl)
            case aq16f => assumption
            case rq16f =>
            simp only [Act.put, List.setIfInBounds_toArray, List.set_cons_zero, List.set_cons_succ]
            refine' wpAnyH_take (i := 17) (oi := ?oq17f) (v := ?vq17f) ?hq17f ?sq17f ?fq17f ?zq17f ?qq17f ?yq17f ?aq17f ?rq17f
            case hq17f => (simp only [List.getElem?_toArray, List.getElem?_cons_succ, List.getElem?_cons_zero]; rfl)
            case sq17f => kernel_rfl
            case fq17f => kernel_rfl
            case zq17f => kernel_rfl
            case qq17f => exact fun _ _ _ h => h
            case yq17f => (refine Or.inl ⟨rfl, ?_⟩; intro w hSw; (try dsimp only at hSw); go_simp; try with_reducible rfl)
            case aq17f => assumption
            case rq17f =>
            simp only [Act.put, List.setIfInBounds_toArray, List.set_cons_zero, List.set_cons_succ]

            refine wpAnyH_ready (rs := [1, 18]) (by kernel_rfl) (by simp) ?_
            refine' AllReadyH.cons (o := ?oA1f) ?hA1f ?kA1f ?mA18f
            case hA1f => (simp only [List.getElem?_toArray, List.getElem?_cons_succ, List.getElem?_cons_zero]; rfl)
            case kA1f =>
              intro K hK
              obtain ⟨-, -, -, -, -, -, l6⟩ := (seven (XD.out.has (Has.r (Has.l (has_blk _ _ _))))).1
              go_simp
              refine hK.out _ _ trivial (fun hHeld => ?_)
              clear hK K l6
              (try simp only [Act.put, List.setIfInBounds_toArray, List.set_cons_zero, List.set_cons_succ])
              refine wpAnyH_ready (rs := [18]) (by kernel_rfl) (by simp) ?_
              refine' AllReadyH.cons (o := ?oB18f) ?hB18f ?kB18f AllReadyH.nil
              case hB18f => (simp only [List.getElem?_toArray, List.getElem?_cons_succ, List.getElem?_cons_zero]; rfl)
              case kB18f =>
              intro K hK
              have XE := Lib.hid (Aid.own_front (X.out.alloc #[.string xk, .string xv, .bool gb] 83)).drew
              go_simp
              refine hK.out _ _ trivial (fun hHeld => ?_)
              clear hK K
              (try simp only [Act.put, List.setIfInBounds_toArray, List.set_cons_zero, List.set_cons_succ])
              obtain ⟨ge, hge⟩ : ∃ g, g = wr.heap.size := ⟨_, rfl⟩
              rw [← hge] at XE ⊢
              clear hge
              generalize (wr.alloc _).drew = wx at *
              refine wpAnyH_ready (rs := [19]) (by kernel_rfl) (by simp) ?_
              refine' AllReadyH.cons (o := ?oB19f) ?hB19f ?kB19f AllReadyH.nil
              case hB19f => (simp only [List.getElem?_toArray, List.getElem?_cons_succ, List.getElem?_cons_zero]; rfl)
              case kB19f =>
              intro K hK
              have cx := Lib.hid (Src.ofSlice (P := Tryz.prog) (size := 3) wx Tryz.underlying29 ⟨ge, 0, none⟩ 1 1 [.string xk, .string xv, .bool gb] rfl (append3 (XE.out.has (Has.r (Has.l (has_blk _ _ _))))) (by intro u hu; simp at hu; rcases hu with rfl | rfl | rfl <;> rfl))
              refine step_append_vec rfl (.tmp 102) (.tmp 119) 29 29 rfl 83 _ 3 40 Tryz.underlying29 infoEnt rfl (by decide) (.slice A es.length c) es.length (cells3 es) rfl XE.out.vec (.slice (some ⟨ge, 0, none⟩) 1 1) rfl 1 [.string xk, .string xv, .bool gb] cx.out (by unfold maxLen; omega) (by omega) ?_
              intro v' w' hv hc hf
              have XF := Lib.hid (XE.out.app hv hc hf)
              obtain ⟨A', c', rfl⟩ := hv.slice
              clear hv hc hf cx XE
              refine hK.out _ _ trivial (fun hHeld => ?_)
              clear hK K
              (try simp only [Act.put, List.setIfInBounds_toArray, List.set_cons_zero, List.set_cons_succ])
              refine wpAnyH_ready (rs := [20]) (by kernel_rfl) (by simp) ?_
              refine' AllReadyH.cons (o := ?oB20f) ?hB20f ?kB20f AllReadyH.nil
              case hB20f => (simp only [List.getElem?_toArray, List.getElem?_cons_succ, List.getElem?_cons_zero]; rfl)
              case kB20f =>
              intro K hK
              go_simp
              refine hK.out _ _ trivial (fun hHeld => ?_)
              clear hK K
              (try simp only [Act.put, List.setIfInBounds_toArray, List.set_cons_zero, List.set_cons_succ])
              refine wpAnyH_ready (rs := [21]) (by kernel_rfl) (by simp) ?_
              refine' AllReadyH.cons (o := ?oB21f) ?hB21f ?kB21f AllReadyH.nil
              case hB21f => (simp only [List.getElem?_toArray, List.getElem?_cons_succ, List.getElem?_cons_zero]; rfl)
              case kB21f =>
              intro K hK
              obtain ⟨⟨d0, d1, d2, d3, d4, d5, d6⟩, f0, f1, f2, f3, f4, f5, f6⟩ := seven (XF.out.has (Has.r (Has.r (Has.l (has_blk _ _ _)))))
              go_simp
              refine hK.out _ _ trivial (fun hHeld => ?_)
              clear hK K d0 d1 d2 d3 d4 d5 d6 f0 f1 f2 f3 f4 f5 f6
              (try simp only [Act.put, List.setIfInBounds_toArray, List.set_cons_zero, List.set_cons_succ])
              have XG := (Aid.own_front (XF.out.set (Sets.r (Sets.r (Sets.l (sets_blk g6 31 _ 6 (.slice A' (es.length + 1) c'))))))).right
              rw [HEN.out] at XG
              have XH := Lib.hid XG
              clear XG XF
              refine wpAnyH_done (by kernel_rfl) ?_ _
              generalize World.setCell w' _ _ = wz at *
              have hlen : (es ++ [(⟨kL, vL, gb⟩ : Ent)]).length = es.length + 1 := by rw [List.length_append]; rfl
              have HLEN := Lib.hid hlen
              clear hlen
              go_wp2_with fail
              (first | go_round | go_roundw)
              case rel => exact ⟨k + 1, a + 11 + B, es ++ [⟨kL, vL, gb⟩], .slice A' (es.length + 1) c', by omega, by go_num, by go_num, by omega, by rw [HLEN.out]; have := HES.out; omega, HGO.out, by rw [HLEN.out]; exact XH⟩
              case measure => simp [intOf]; omega
            case mA18f =>
              refine' AllReadyH.cons (o := ?oC18f) ?hC18f ?kC18f AllReadyH.nil
              case hC18f => (simp only [List.getElem?_toArray, List.getElem?_cons_succ, List.getElem?_cons_zero]; rfl)
              case kC18f =>
              intro K hK
              have XE := Lib.hid (Aid.own_front (X.out.alloc #[.string xk, .string xv, .bool gb] 83)).drew
              go_simp
              refine hK.out _ _ trivial (fun hHeld => ?_)
              clear hK K
              (try simp only [Act.put, List.setIfInBounds_toArray, List.set_cons_zero, List.set_cons_succ])
              obtain ⟨ge, hge⟩ : ∃ g, g = wr.heap.size := ⟨_, rfl⟩
              rw [← hge] at XE ⊢
              clear hge
              generalize (wr.alloc _).drew = wx at *
              refine wpAnyH_ready (rs := [1]) (by kernel_rfl) (by simp) ?_
              refine' AllReadyH.cons (o := ?oC1f) ?hC1f ?kC1f AllReadyH.nil
              case hC1f => (simp only [List.getElem?_toArray, List.getElem?_cons_succ, List.getElem?_cons_zero]; rfl)
              case kC1f =>
              intro K hK
              obtain ⟨-, -, -, -, -, -, l6⟩ := (seven (XE.out.has (Has.r (Has.r (Has.l (has_blk _ _ _)))))).1
              go_simp
              refine hK.out _ _ trivial (fun hHeld => ?_)
              clear hK K l6
              (try simp only [Act.put, List.setIfInBounds_toArray, List.set_cons_zero, List.set_cons_succ])
              refine wpAnyH_ready (rs := [19]) (by kernel_rfl) (by simp) ?_
              refine' AllReadyH.cons (o := ?oC19f) ?hC19f ?kC19f AllReadyH.nil
              case hC19f => (simp only [List.getElem?_toArray, List.getElem?_cons_succ, List.getElem?_cons_zero]; rfl)
              case kC19f =>
              intro K hK
              have cx := Lib.hid (Src.ofSlice (P := Tryz.prog) (size := 3) wx Tryz.underlying29 ⟨ge, 0, none⟩ 1 1 [.string xk, .string xv, .bool gb] rfl (append3 (XE.out.has (Has.r (Has.l (has_blk _ _ _))))) (by intro u hu; simp at hu; rcases hu with rfl | rfl | rfl <;> rfl))
              refine step_append_vec rfl (.tmp 102) (.tmp 119) 29 29 rfl 83 _ 3 40 Tryz.underlying29 infoEnt rfl (by decide) (.slice A es.length c) es.length (cells3 es) rfl XE.out.vec (.slice (some ⟨ge, 0, none⟩) 1 1) rfl 1 [.string xk, .string xv, .bool gb] cx.out (by unfold maxLen; omega) (by omega) ?_
              intro v' w' hv hc hf
              have XF := Lib.hid (XE.out.app hv hc hf)
              obtain ⟨A', c', rfl⟩ := hv.slice
              clear hv hc hf cx XE
              refine hK.out _ _ trivial (fun hHeld => ?_)
              clear hK K
              (try simp only [Act.put, List.setIfInBounds_toArray, List.set_cons_zero, List.set_cons_succ])
              refine wpAnyH_ready (rs := [20]) (by kernel_rfl) (by simp) ?_
              refine' AllReadyH.cons (o := ?oC20f) ?hC20f ?kC20f AllReadyH.nil
              case hC20f => (simp only [List.getElem?_toArray, List.getElem?_cons_succ, List.getElem?_cons_zero]; rfl)
              case kC20f =>
              intro K hK
              go_simp
              refine hK.out _ _ trivial (fun hHeld => ?_)
              clear hK K
              (try simp only [Act.put, List.setIfInBounds_toArray, List.set_cons_zero, List.set_cons_succ])
              refine wpAnyH_ready (rs := [21]) (by kernel_rfl) (by simp) ?_
              refine' AllReadyH.cons (o := ?oC21f) ?hC21f ?kC21f AllReadyH.nil
              case hC21f => (simp only [List.getElem?_toArray, List.getElem?_cons_succ, List.getElem?_cons_zero]; rfl)
              case kC21f =>
              intro K hK
              obtain ⟨⟨d0, d1, d2, d3, d4, d5, d6⟩, f0, f1, f2, f3, f4, f5, f6⟩ := seven (XF.out.has (Has.r (Has.r (Has.l (has_blk _ _ _)))))
              go_simp
              refine hK.out _ _ trivial (fun hHeld => ?_)
              clear hK K d0 d1 d2 d3 d4 d5 d6 f0 f1 f2 f3 f4 f5 f6
              (try simp only [Act.put, List.setIfInBounds_toArray, List.set_cons_zero, List.set_cons_succ])
              have XG := (Aid.own_front (XF.out.set (Sets.r (Sets.r (Sets.l (sets_blk g6 31 _ 6 (.slice A' (es.length + 1) c'))))))).right
              rw [HEN.out] at XG
              have XH := Lib.hid XG
              clear XG XF
              refine wpAnyH_done (by kernel_rfl) ?_ _
              generalize World.setCell w' _ _ = wz at *
              have hlen : (es ++ [(⟨kL, vL, gb⟩ : Ent)]).length = es.length + 1 := by rw [List.length_append]; rfl
              have HLEN := Lib.hid hlen
              clear hlen
              go_wp2_with fail
              (first | go_round | go_roundw)
              case rel => exact ⟨k + 1, a + 11 + B, es ++ [⟨kL, vL, gb⟩], .slice A' (es.length + 1) c', by omega, by go_num, by go_num, by omega, by rw [HLEN.out]; have := HES.out; omega, HGO.out, by rw [HLEN.out]; exact XH⟩
              case measure => simp [intOf]; omega
      · as_aux_lemma =>
        obtain rfl : k = C := by omega
        rw [Nat.sub_self, goD] at hgo
        obtain ⟨A, c, rfl⟩ := X.out.vec.slice
        obtain ⟨n1, hn1⟩ : ∃ n, n = ({ n0 with list := es } : Nod) := ⟨_, rfl⟩
        have X1 : Hid (Own w No wr (Asn.vec 83 3 (.slice A n1.list.length c) n1.list.length (cells3 n1.list) * (Asn.blk g6 31 #[.int .i64 n1.tree, .int .i64 n1.level, .int .i64 n1.stamp, .bool n1.has, .string (ofL n1.high), .int .i64 n1.right, .slice A n1.list.length c] * (Asn.blk g2 31 #[.int .i64 0, .int .i64 0, .int .i64 0, .bool false, .string ⟨#[]⟩, .int .i64 0, .slice none 0 0] * Asn.emp)))) := by
          rw [hn1]
          dsimp only
          rw [hb]
          exact X
        have HRd : readD s = if (goodB n1 && decide (bytes n1 = s)) = true then some n1 else none := by
          unfold readD
          rw [hsl, decide_eq_true hl, if_pos (by rfl), ← HT.out, HRD.out, hgo, hn1]
        have HV : NodAt wr (.agg (nodCells n1 (.slice A n1.list.length c))) n1 := ⟨_, rfl, Row3.of_vec X1.out.vec⟩
        have EG : Hid (∀ w', Below wr.heap.size wr w' → _) := Lib.hid (fun w' hbb => refGood_any n1 _ w' (HV.keep hbb))
        have EB : Hid (∀ w', Below wr.heap.size wr w' → goodB n1 = true → _) := Lib.hid (fun w' hbb hg => refBytes_any n1 _ w' (HV.keep hbb) hg)
        have hpg := str_eq (ofL (bytes n1)) (ofL s)
        have hpq : decide (ofL (bytes n1) = ofL s) = decide (bytes n1 = s) := decide_eq_decide.2 ⟨ofL_inj, fun h => by rw [h]⟩
        rw [hpq, hx] at hpg
        have HRD1 := Lib.hid HRd
        have HPG := Lib.hid hpg
        clear hpq hpg HRd HV hgo hn1 hb X HRD hx hes hk hlt
        generalize hq : decide (bytes n1 = s) = q at *
        generalize hxb : ofL (bytes n1) = x1 at *
        clear hq hxb
        unfold nodCells at EG EB
        obtain ⟨c0, c1, c2, c3, c4, c5, c6⟩ := nod_cells (X1.out.has (Has.r (Has.l (has_blk _ _ _))))
        go_wp2_with fail
        refine (EG.out _ (Below.refl _ _)).mono ?_
        rintro e w7 ⟨rfl, hX⟩
        have X2 := Lib.hid (X1.out.below hX)
        have BX := Lib.hid hX
        clear hX X1 c0 c1 c2 c3 c4 c5 c6
        cases hg : goodB n1 with
        | false =>
          have HN : Hid (readD s = none) := Lib.hid (by rw [HRD1.out, hg]; rfl)
          clear hg EB EG HRD1
          have X8 := Lib.hid X2.out.right.right
          clear X2
          have hst := store_nod (X8.out.has (Has.l (has_blk _ _ _))) 0 0 0 0 false ⟨#[]⟩ none 0 0
          have HST := Lib.hid hst
          clear hst
          go_wp2_with (with_reducible refine wpList_store rfl rfl (.tmp 2) (.tmp 132) 31 rfl (.pointer (some ⟨g2, 0, none⟩)) (.agg #[.int .i64 0, .int .i64 0, .int .i64 0, .bool false, .string ⟨#[]⟩, .int .i64 0, .slice none 0 0]) ?c1s8 ?c2s8 _ HST.out ?_)
          try (case c1s8 => rfl)
          try (case c2s8 => rfl)
          clear HST
          have U1 := Lib.hid (own_seven X8.out (.int .i64 0) (.int .i64 0) (.int .i64 0) (.bool false) (.string ⟨#[]⟩) (.int .i64 0) (.slice none 0 0))
          clear X8
          generalize World.setCell (World.setCell (World.setCell (World.setCell (World.setCell (World.setCell (World.setCell w7 _ _) _ _) _ _) _ _) _ _) _ _) _ _ = w7 at *
          obtain ⟨⟨c0, c1, c2, c3, c4, c5, c6⟩, -⟩ := seven (U1.out.has (Has.l (has_blk _ _ _)))
          have TN : Hid (Own w No w7 (aEnts Nod.none (.slice none 0 0))) := Lib.hid (none_ents U1.out).left
          exact bodyPost_ret (v := .tuple #[.agg #[.int .i64 0, .int .i64 0, .int .i64 0, .bool false, .string ⟨#[]⟩, .int .i64 0, .slice none 0 0], .bool false]) (res_nod (x := 2) (y := 3) (by kernel_rfl) rfl rfl (U1.out.has (Has.l (has_blk _ _ _)))) rfl ⟨.slice none 0 0, by rw [HN.out]; rfl, by rw [HN.out]; exact TN.out⟩

        | true =>
          have EB2 := Lib.hid (EB.out w7 BX.out hg)
          obtain ⟨c0, c1, c2, c3, c4, c5, c6⟩ := nod_cells (X2.out.has (Has.r (Has.l (has_blk _ _ _))))
          go_wp2_with fail
          refine EB2.out.mono ?_
          rintro e w8 ⟨rfl, hX⟩
          have X3 := Lib.hid (X2.out.below hX)
          clear hX X2 BX EB EB2 EG c0 c1 c2 c3 c4 c5 c6
          have hp := HPG.out
          cases q with
          | false =>
            have HN : Hid (readD s = none) := Lib.hid (by rw [HRD1.out, hg]; rfl)
            clear hg HRD1
            have X8 := Lib.hid X3.out.right.right
            clear X3
            have hst := store_nod (X8.out.has (Has.l (has_blk _ _ _))) 0 0 0 0 false ⟨#[]⟩ none 0 0
            have HST := Lib.hid hst
            clear hst
            go_wp2_with (with_reducible refine wpList_store rfl rfl (.tmp 2) (.tmp 132) 31 rfl (.pointer (some ⟨g2, 0, none⟩)) (.agg #[.int .i64 0, .int .i64 0, .int .i64 0, .bool false, .string ⟨#[]⟩, .int .i64 0, .slice none 0 0]) ?c1s9 ?c2s9 _ HST.out ?_)
            try (case c1s9 => rfl)
            try (case c2s9 => rfl)
            clear HST
            have U1 := Lib.hid (own_seven X8.out (.int .i64 0) (.int .i64 0) (.int .i64 0) (.bool false) (.string ⟨#[]⟩) (.int .i64 0) (.slice none 0 0))
            clear X8
            generalize World.setCell (World.setCell (World.setCell (World.setCell (World.setCell (World.setCell (World.setCell w8 _ _) _ _) _ _) _ _) _ _) _ _) _ _ = w7 at *
            obtain ⟨⟨c0, c1, c2, c3, c4, c5, c6⟩, -⟩ := seven (U1.out.has (Has.l (has_blk _ _ _)))
            have TN : Hid (Own w No w7 (aEnts Nod.none (.slice none 0 0))) := Lib.hid (none_ents U1.out).left
            exact bodyPost_ret (v := .tuple #[.agg #[.int .i64 0, .int .i64 0, .int .i64 0, .bool false, .string ⟨#[]⟩, .int .i64 0, .slice none 0 0], .bool false]) (res_nod (x := 2) (y := 3) (by kernel_rfl) rfl rfl (U1.out.has (Has.l (has_blk _ _ _)))) rfl ⟨.slice none 0 0, by rw [HN.out]; rfl, by rw [HN.out]; exact TN.out⟩

          | true =>
            have HN : Hid (readD s = some n1) := Lib.hid (by rw [HRD1.out, hg]; rfl)
            clear hg HRD1
            have X4 := Lib.hid (X3.out.imp (Imp.r imp_front2))
            obtain ⟨⟨c0, c1, c2, c3, c4, c5, c6⟩, -⟩ := seven (X4.out.has (Has.r (Has.r (Has.l (has_blk _ _ _)))))
            have X5 := Lib.hid (Aid.own_front X4.out)
            have hst := store_nod (X5.out.has (Has.l (has_blk _ _ _))) n1.tree n1.level n1.stamp n1.right n1.has (ofL n1.high) A n1.list.length c
            clear X3
            have HST := Lib.hid hst
            clear hst
            go_wp2_with (with_reducible refine wpList_store rfl rfl (.tmp 2) (.tmp 133) 31 rfl (.pointer (some ⟨g2, 0, none⟩)) (.agg #[.int .i64 n1.tree, .int .i64 n1.level, .int .i64 n1.stamp, .bool n1.has, .string (ofL n1.high), .int .i64 n1.right, .slice A n1.list.length c]) ?c1s10 ?c2s10 _ HST.out ?_)
            try (case c1s10 => rfl)
            try (case c2s10 => rfl)
            clear HST
            have U1 := Lib.hid (own_seven X5.out (.int .i64 n1.tree) (.int .i64 n1.level) (.int .i64 n1.stamp) (.bool n1.has) (.string (ofL n1.high)) (.int .i64 n1.right) (.slice A n1.list.length c))
            clear X4 X5 c0 c1 c2 c3 c4 c5 c6
            generalize World.setCell (World.setCell (World.setCell (World.setCell (World.setCell (World.setCell (World.setCell w8 _ _) _ _) _ _) _ _) _ _) _ _) _ _ = w9 at *
            obtain ⟨⟨c0, c1, c2, c3, c4, c5, c6⟩, -⟩ := seven (U1.out.has (Has.l (has_blk _ _ _)))
            exact bodyPost_ret (v := .tuple #[.agg #[.int .i64 n1.tree, .int .i64 n1.level, .int .i64 n1.stamp, .bool n1.has, .string (ofL n1.high), .int .i64 n1.right, .slice A n1.list.length c], .bool true]) (res_nod (x := 2) (y := 3) (by kernel_rfl) rfl rfl (U1.out.has (Has.l (has_blk _ _ _)))) rfl ⟨.slice A n1.list.length c, by rw [HN.out]; rfl, by rw [HN.out]; exact U1.out.right.left⟩
theorem refRead_any (s : By) (w : World) (hs : s.length ≤ 140737488355328) :
    Calls Tryz.prog 52 #[.string (ofL s)] w fun e w' => ∃ v, e = .returned (dV (readN s) (.agg (nodCells (rN (readN s)) v))) ∧ Own w No w' (aEnts (rN (readN s)) v) := by
  rw [← readD_eq]
  by_cases h : (sealedL s && decide (s.length = 256)) = true
  · simp only [Bool.and_eq_true, decide_eq_true_eq] at h
    exact refRead_page s w h.2 h.1
  · have e : readD s = none := by unfold readD; rw [if_neg h]
    rw [e]
    exact refRead_shut s w hs (by simpa using h)
end Go.Proofs.YtapdpdhibpblgaaGreatDoor.Nd
