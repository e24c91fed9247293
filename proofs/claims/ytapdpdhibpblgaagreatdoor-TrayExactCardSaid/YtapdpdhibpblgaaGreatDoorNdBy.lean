/- The document's bytes of a node. -/
import Derived.Test.YtapdpdhibpblgaaGreatDoorNdW
import Derived.Test.YtapdpdhibpblgaaGreatDoorNdF
import Derived.Test.YtapdpdhibpblgaaGreatDoorNdY
import Derived.Test.YtapdpdhibpblgaaGreatDoorTrZ
import Derived.Deep.CutBlock
import Derived.Deep.LoopGhost
import Derived.Deep.RegionHeld3
namespace Go.Proofs.YtapdpdhibpblgaaGreatDoor.Nd
open Go.ChangeShapes Go.WideShapes Go.ChangeAt Go.RowKit Go.PlainAid Aid Cr Nt
set_option linter.unusedVariables false
set_option linter.unusedSimpArgs false
theorem str_add (a b : ByteArray) (h : ¬ 9223372036854775807 < a.size + b.size) (W : World) : (binOp .add 9 (.string a) (.string b)).run Tryz.prog W = .ok (.string (a ++ b)) W := by
  simp [binOp, go_sem, h]
theorem u8n (n : Int) : ((UInt8.ofNat (n % 256).toNat).toNat : Int) = n % 256 := by
  rw [UInt8.toNat_ofNat']; omega
def head7 (n : Nod) : By := numI 1 n.tree ++ numI 1 n.level ++ numI 4 n.stamp ++ flagL n.has
theorem head7_len (n : Nod) : (head7 n).length = 7 := by simp only [head7, List.length_append, numI, numL_length, flag_len]
theorem numZ_cells (k : Nat) (n : Int) : Lib.byteCells (numZ (k + 1) n) = .int .u8 (n % 256) :: Lib.byteCells (numZ k (n / 256)) := by
  simp only [numZ, Lib.byteCells, List.map_cons, u8n]
theorem cells_app (a b : By) : Lib.byteCells (a ++ b) = Lib.byteCells a ++ Lib.byteCells b := by simp [Lib.byteCells]
theorem flag_cells (b : Bool) : Lib.byteCells (flagL b) = [.int .u8 (if b then 1 else 0)] := by cases b <;> rfl
theorem head7_cells (n : Nod) (g : Goods n) : Lib.byteCells (head7 n) = [.int .u8 (IntKind.u8.wrap n.tree), .int .u8 (IntKind.u8.wrap n.level), .int .u8 (IntKind.u8.wrap n.stamp), .int .u8 (IntKind.u8.wrap (n.stamp / 256)), .int .u8 (IntKind.u8.wrap (n.stamp / 65536)), .int .u8 (IntKind.u8.wrap (n.stamp / 16777216)), .int .u8 (if n.has then 1 else 0)] := by
  have e2 : n.stamp / 256 / 256 = n.stamp / 65536 := by omega
  have e3 : n.stamp / 65536 / 256 = n.stamp / 16777216 := by omega
  unfold head7
  rw [cells_app, cells_app, cells_app, ← numZ_I 1 _ g.t1, ← numZ_I 1 _ g.l1, ← numZ_I 4 _ g.s1, flag_cells]
  simp only [numZ, e2, e3, Lib.byteCells, List.map_cons, List.map_nil, u8n, IntKind.wrap_u8]
  rfl
theorem bEnt_cells (e : Ent) : Lib.byteCells (bEnt e) = Lib.byteCells e.key ++ [.int .u8 (if e.ghost then 1 else 0)] ++ Lib.byteCells (numL 1 e.val.length) ++ Lib.byteCells e.val := by
  unfold bEnt
  rw [cells_app, cells_app, cells_app, flag_cells]
theorem head_cells (n : Nod) (g : Goods n) : Lib.byteCells (headL n) = Lib.byteCells (head7 n ++ highL n) ++ [.int .u8 (n.right % 256), .int .u8 (n.right / 256 % 256), .int .u8 (n.list.length : Int), .int .u8 ((n.list.length : Int) / 256)] := by
  have e1 : headL n = head7 n ++ highL n ++ (numI 2 n.right ++ numL 2 n.list.length) := by simp only [headL, head7, List.append_assoc]
  have hl := g.ll
  have e2 : (n.list.length : Int) % 256 = n.list.length := by omega
  have e3 : (n.list.length : Int) / 256 % 256 = (n.list.length : Int) / 256 := by omega
  rw [e1, cells_app]
  congr 1
  rw [cells_app, ← numZ_I 2 _ g.r1, ← numZ_nat]
  have e4 : ((UInt8.ofNat ((n.list.length : Int) % 256).toNat).toNat : Int) = n.list.length := by rw [u8n, e2]
  have e5 : ((UInt8.ofNat ((n.list.length : Int) / 256 % 256).toNat).toNat : Int) = (n.list.length : Int) / 256 := by rw [u8n, e3]
  simp only [numZ, Lib.byteCells, List.map_cons, List.map_nil, e4, e5, u8n]
  rfl
/-- A block, whole, is a row. -/
theorem blk_vec {w0 w : World} {O0 : Nat → Prop} {A : Asn} {g : Nat} {e : TypeId} {cs : Array Value} (m : Nat) (hm : cs.size = m) (hl : m ≤ maxLen) (h : Own w0 O0 w (Asn.blk g e cs * A)) : Own w0 O0 w (Asn.vec e 1 (.slice (some ⟨g, 0, none⟩) m m) m cs.toList * A) :=
  h.imp (Imp.l fun w O hb => ⟨⟨by rw [Array.length_toList, hm, Nat.mul_one], Or.inr ⟨g, m, cs, rfl, Nat.zero_le _, hb.1, Nat.le_refl _, hl, by rw [hm, Nat.mul_one], by rw [List.take_of_length_le]; rw [Array.length_toList, hm, Nat.mul_one]; exact Nat.le_refl _⟩⟩, fun k => (hb.2 k).trans ⟨fun e => by simp [VB, Value.ownBlock, e], fun e => by simp [VB, Value.ownBlock] at e; exact e.symm⟩⟩)
set_option maxRecDepth 100000 in
set_option maxHeartbeats 16000000 in
theorem refBytes_any (n : Nod) (v : Value) (w : World) (hv : NodAt w v n) (hg : goodB n = true) :
    Calls Tryz.prog 92 #[v] w fun e w' => e = .returned (.string (ofL (bytes n))) ∧ Below w.heap.size w w' := by
  obtain ⟨p, rfl, hp⟩ := hv
  obtain ⟨A1, m1, rfl⟩ := hp.slice
  have G := goods hg
  have HG := Lib.hid G
  have HP := Lib.hid hp
  have S := Lib.hid ((Own.none w).alloc (nodCells n (.slice A1 n.list.length m1)) 31).left
  have E1 := Lib.hid (fun w => one_any n.has w)
  have h7 := head7_cells n G
  have H7 := Lib.hid h7
  obtain ⟨Z, hZ⟩ : ∃ Z, Z = ofL (bytes n) := ⟨_, rfl⟩
  rw [← hZ]
  have HZ := Lib.hid hZ
  clear hp hg h7 hZ
  unfold nodCells at *
  generalize hone : (if n.has then (1 : Int) else 0) = o7 at *
  go_enter Tryz.func92, Tryz.ntmps92
  go_upto_region 1 with fail
  obtain ⟨g, hgz⟩ : ∃ g, g = w.heap.size := ⟨_, rfl⟩
  rw [← hgz] at S ⊢
  clear hgz
  generalize w.alloc _ = w1 at *
  have SD := Lib.hid S.out.drew
  have t0 := (seven (SD.out.has (has_blk _ _ _))).1
  have t1 := (seven ((S.out.alloc #[.int .u8 (IntKind.u8.wrap n.tree), .int .u8 (IntKind.u8.wrap n.level), .int .u8 (IntKind.u8.wrap n.stamp), .int .u8 (IntKind.u8.wrap (n.stamp / 256)), .int .u8 (IntKind.u8.wrap (n.stamp / 65536)), .int .u8 (IntKind.u8.wrap (n.stamp / 16777216)), .int .u8 o7] 5).drew.right.has (has_blk _ _ _))).1
  refine wp_region_held_drew (S := fun W => W.cell? ⟨g, 0, none⟩ = some (.int .i64 n.tree) ∧ W.cell? ⟨g, 1, none⟩ = some (.int .i64 n.level) ∧ W.cell? ⟨g, 2, none⟩ = some (.int .i64 n.stamp) ∧ W.cell? ⟨g, 3, none⟩ = some (.bool n.has) ∧ W.cell? ⟨g, 4, none⟩ = some (.string (ofL n.high)) ∧ W.cell? ⟨g, 5, none⟩ = some (.int .i64 n.right) ∧ W.cell? ⟨g, 6, none⟩ = some (.slice A1 n.list.length m1)) (by kernel_rfl) t0 (fun hHeld => ?_)
  refine' wpAnyH_take (i := 0) (oi := ?op0) (v := ?vp0) ?hp0 ?sp0 ?fp0 ?zp0 ?qp0 ?yp0 ?ap0 ?rp0
  case hp0 => (simp only [List.getElem?_toArray, List.getElem?_cons_succ, List.getElem?_cons_zero]; rfl)
  case sp0 => kernel_rfl
  case fp0 => kernel_rfl
  case zp0 => kernel_rfl
  case qp0 => exact fun _ _ _ h => h
  case yp0 => (refine Or.inl ⟨rfl, ?_⟩; intro w hSw; (try dsimp only at hSw); go_simp; try with_reducible rfl)
  case ap0 => assumption
  case rp0 =>
  simp only [Act.put, List.setIfInBounds_toArray, List.set_cons_zero, List.set_cons_succ]
  refine' wpAnyH_take (i := 1) (oi := ?op1) (v := ?vp1) ?hp1 ?sp1 ?fp1 ?zp1 ?qp1 ?yp1 ?ap1 ?rp1
  case hp1 => (simp only [List.getElem?_toArray, List.getElem?_cons_succ, List.getElem?_cons_zero]; rfl)
  case sp1 => kernel_rfl
  case fp1 => kernel_rfl
  case zp1 => kernel_rfl
  case qp1 => exact fun _ _ _ h => h
  case yp1 => (refine Or.inl ⟨rfl, ?_⟩; intro w hSw; (try dsimp only at hSw); go_simp; try with_reducible rfl)
  case ap1 => assumption
  case rp1 =>
  simp only [Act.put, List.setIfInBounds_toArray, List.set_cons_zero, List.set_cons_succ]
  refine' wpAnyH_take (i := 2) (oi := ?op2) (v := ?vp2) ?hp2 ?sp2 ?fp2 ?zp2 ?qp2 ?yp2 ?ap2 ?rp2
  case hp2 => (simp only [List.getElem?_toArray, List.getElem?_cons_succ, List.getElem?_cons_zero]; rfl)
  case sp2 => kernel_rfl
  case fp2 => kernel_rfl
  case zp2 => kernel_rfl
  case qp2 => exact fun _ _ _ h => h
  case yp2 => (refine Or.inl ⟨rfl, ?_⟩; intro w hSw; (try dsimp only at hSw); go_simp; try with_reducible rfl)
  case ap2 => assumption
  case rp2 =>
  simp only [Act.put, List.setIfInBounds_toArray, List.set_cons_zero, List.set_cons_succ]
  refine' wpAnyH_take (i := 3) (oi := ?op3) (v := ?vp3) ?hp3 ?sp3 ?fp3 ?zp3 ?qp3 ?yp3 ?ap3 ?rp3
  case hp3 => (simp only [List.getElem?_toArray, List.getElem?_cons_succ, List.getElem?_cons_zero]; rfl)
  case sp3 => kernel_rfl
  case fp3 => kernel_rfl
  case zp3 => kernel_rfl
  case qp3 => exact fun _ _ _ h => h
  case yp3 => (refine Or.inl ⟨rfl, ?_⟩; intro w hSw; (try dsimp only at hSw); go_simp; try with_reducible rfl)
  case ap3 => assumption
  case rp3 =>
  simp only [Act.put, List.setIfInBounds_toArray, List.set_cons_zero, List.set_cons_succ]
  refine' wpAnyH_take (i := 4) (oi := ?op4) (v := ?vp4) ?hp4 ?sp4 ?fp4 ?zp4 ?qp4 ?yp4 ?ap4 ?rp4
  case hp4 => (simp only [List.getElem?_toArray, List.getElem?_cons_succ, List.getElem?_cons_zero]; rfl)
  case sp4 => kernel_rfl
  case fp4 => kernel_rfl
  case zp4 => kernel_rfl
  case qp4 => exact fun _ _ _ h => h
  case yp4 => (refine Or.inl ⟨rfl, ?_⟩; intro w hSw; (try dsimp only at hSw); go_simp; try with_reducible rfl)
  case ap4 => assumption
  case rp4 =>
  simp only [Act.put, List.setIfInBounds_toArray, List.set_cons_zero, List.set_cons_succ]
  refine' wpAnyH_take (i := 5) (oi := ?op5) (v := ?vp5) ?hp5 ?sp5 ?fp5 ?zp5 ?qp5 ?yp5 ?ap5 ?rp5
  case hp5 => (simp only [List.getElem?_toArray, List.getElem?_cons_succ, List.getElem?_cons_zero]; rfl)
  case sp5 => kernel_rfl
  case fp5 => kernel_rfl
  case zp5 => kernel_rfl
  case qp5 => exact fun _ _ _ h => h
  case yp5 => (refine Or.inl ⟨rfl, ?_⟩; intro w hSw; (try dsimp only at hSw); go_simp; try with_reducible rfl)
  case ap5 => assumption
  case rp5 =>
  simp only [Act.put, List.setIfInBounds_toArray, List.set_cons_zero, List.set_cons_succ]
  refine' wpAnyH_take (i := 6) (oi := ?op6) (v := ?vp6) ?hp6 ?sp6 ?fp6 ?zp6 ?qp6 ?yp6 ?ap6 ?rp6
  case hp6 => (simp only [List.getElem?_toArray, List.getElem?_cons_succ, List.getElem?_cons_zero]; rfl)
  case sp6 => kernel_rfl
  case fp6 => kernel_rfl
  case zp6 => kernel_rfl
  case qp6 => exact fun _ _ _ h => h
  case yp6 => (refine Or.inl ⟨rfl, ?_⟩; intro w hSw; (try dsimp only at hSw); go_simp; try with_reducible rfl)
  case ap6 => assumption
  case rp6 =>
  simp only [Act.put, List.setIfInBounds_toArray, List.set_cons_zero, List.set_cons_succ]
  refine' wpAnyH_take (i := 7) (oi := ?op7) (v := ?vp7) ?hp7 ?sp7 ?fp7 ?zp7 ?qp7 ?yp7 ?ap7 ?rp7
  case hp7 => (simp only [List.getElem?_toArray, List.getElem?_cons_succ, List.getElem?_cons_zero]; rfl)
  case sp7 => kernel_rfl
  case fp7 => kernel_rfl
  case zp7 => kernel_rfl
  case qp7 => exact fun _ _ _ h => h
  case yp7 => (refine Or.inl ⟨rfl, ?_⟩; intro w hSw; (try dsimp only at hSw); go_simp; try with_reducible rfl)
  case ap7 => assumption
  case rp7 =>
  simp only [Act.put, List.setIfInBounds_toArray, List.set_cons_zero, List.set_cons_succ]
  refine' wpAnyH_take (i := 8) (oi := ?op8) (v := ?vp8) ?hp8 ?sp8 ?fp8 ?zp8 ?qp8 ?yp8 ?ap8 ?rp8
  case hp8 => (simp only [List.getElem?_toArray, List.getElem?_cons_succ, List.getElem?_cons_zero]; rfl)
  case sp8 => kernel_rfl
  case fp8 => kernel_rfl
  case zp8 => kernel_rfl
  case qp8 => exact fun _ _ _ h => h
  case yp8 => (refine Or.inl ⟨rfl, ?_⟩; intro w hSw; (try dsimp only at hSw); go_simp; try with_reducible rfl)
  case ap8 => assumption
  case rp8 =>
  simp only [Act.put, List.setIfInBounds_toArray, List.set_cons_zero, List.set_cons_succ]
  refine' wpAnyH_take (i := 9) (oi := ?op9) (v := ?vp9) ?hp9 ?sp9 ?fp9 ?zp9 ?qp9 ?yp9 ?ap9 ?rp9
  case hp9 => (simp only [List.getElem?_toArray, List.getElem?_cons_succ, List.getElem?_cons_zero]; rfl)
  case sp9 => kernel_rfl
  case fp9 => kernel_rfl
  case zp9 => kernel_rfl
  case qp9 => exact fun _ _ _ h => h
  case yp9 => (refine Or.inl ⟨rfl, ?_⟩; intro w hSw; (try dsimp only at hSw); go_simp; try with_reducible rfl)
  case ap9 => assumption
  case rp9 =>
  simp only [Act.put, List.setIfInBounds_toArray, List.set_cons_zero, List.set_cons_succ]
  refine' wpAnyH_take (i := 10) (oi := ?op10) (v := ?vp10) ?hp10 ?sp10 ?fp10 ?zp10 ?qp10 ?yp10 ?ap10 ?rp10
  case hp10 => (simp only [List.getElem?_toArray, List.getElem?_cons_succ, List.getElem?_cons_zero]; rfl)
  case sp10 => kernel_rfl
  case fp10 => kernel_rfl
  case zp10 => kernel_rfl
  case qp10 => exact fun _ _ _ h => h
  case yp10 => (refine Or.inl ⟨rfl, ?_⟩; intro w hSw; (try dsimp only at hSw); go_simp; try with_reducible rfl)
  case ap10 => assumption
  case rp10 =>
  simp only [Act.put, List.setIfInBounds_toArray, List.set_cons_zero, List.set_cons_succ]
  refine' wpAnyH_take (i := 11) (oi := ?op11) (v := ?vp11) ?hp11 ?sp11 ?fp11 ?zp11 ?qp11 ?yp11 ?ap11 ?rp11
  case hp11 => (simp only [List.getElem?_toArray, List.getElem?_cons_succ, List.getElem?_cons_zero]; rfl)
  case sp11 => kernel_rfl
  case fp11 => kernel_rfl
  case zp11 => kernel_rfl
  case qp11 => exact fun _ _ _ h => h
  case yp11 => (refine Or.inl ⟨rfl, ?_⟩; intro w hSw; (try dsimp only at hSw); go_simp; try with_reducible rfl)
  case ap11 => assumption
  case rp11 =>
  simp only [Act.put, List.setIfInBounds_toArray, List.set_cons_zero, List.set_cons_succ]
  refine' wpAnyH_take (i := 12) (oi := ?op12) (v := ?vp12) ?hp12 ?sp12 ?fp12 ?zp12 ?qp12 ?yp12 ?ap12 ?rp12
  case hp12 => (simp only [List.getElem?_toArray, List.getElem?_cons_succ, List.getElem?_cons_zero]; rfl)
  case sp12 => kernel_rfl
  case fp12 => kernel_rfl
  case zp12 => kernel_rfl
  case qp12 => exact fun _ _ _ h => h
  case yp12 => (refine Or.inl ⟨rfl, ?_⟩; intro w hSw; (try dsimp only at hSw); go_simp; try with_reducible rfl)
  case ap12 => assumption
  case rp12 =>
  simp only [Act.put, List.setIfInBounds_toArray, List.set_cons_zero, List.set_cons_succ]
  refine' wpAnyH_take (i := 13) (oi := ?op13) (v := ?vp13) ?hp13 ?sp13 ?fp13 ?zp13 ?qp13 ?yp13 ?ap13 ?rp13
  case hp13 => (simp only [List.getElem?_toArray, List.getElem?_cons_succ, List.getElem?_cons_zero]; rfl)
  case sp13 => kernel_rfl
  case fp13 => kernel_rfl
  case zp13 => kernel_rfl
  case qp13 => exact fun _ _ _ h => h
  case yp13 => (refine Or.inl ⟨rfl, ?_⟩; intro w hSw; (try dsimp only at hSw); go_simp; try with_reducible rfl)
  case ap13 => assumption
  case rp13 =>
  simp only [Act.put, List.setIfInBounds_toArray, List.set_cons_zero, List.set_cons_succ]
  refine' wpAnyH_take (i := 14) (oi := ?op14) (v := ?vp14) ?hp14 ?sp14 ?fp14 ?zp14 ?qp14 ?yp14 ?ap14 ?rp14
  case hp14 => (simp only [List.getElem?_toArray, List.getElem?_cons_succ, List.getElem?_cons_zero]; rfl)
  case sp14 => kernel_rfl
  case fp14 => kernel_rfl
  case zp14 => kernel_rfl
  case qp14 => exact fun _ _ _ h => h
  case yp14 => (refine Or.inl ⟨rfl, ?_⟩; intro w hSw; (try dsimp only at hSw); go_simp; try with_reducible rfl)
  case ap14 => assumption
  case rp14 =>
  simp only [Act.put, List.setIfInBounds_toArray, List.set_cons_zero, List.set_cons_succ]
  refine' wpAnyH_take (i := 15) (oi := ?op15) (v := ?vp15) ?hp15 ?sp15 ?fp15 ?zp15 ?qp15 ?yp15 ?ap15 ?rp15
  case hp15 => (simp only [List.getElem?_toArray, List.getElem?_cons_succ, List.getElem?_cons_zero]; rfl)
  case sp15 => kernel_rfl
  case fp15 => kernel_rfl
  case zp15 => kernel_rfl
  case qp15 => exact fun _ _ _ h => h
  case yp15 => (refine Or.inl ⟨rfl, ?_⟩; intro w hSw; (try dsimp only at hSw); go_simp; try with_reducible rfl)
  case ap15 => assumption
  case rp15 =>
  simp only [Act.put, List.setIfInBounds_toArray, List.set_cons_zero, List.set_cons_succ]
  refine' wpAnyH_take (i := 16) (oi := ?op16) (v := ?vp16) ?hp16 ?sp16 ?fp16 ?zp16 ?qp16 ?yp16 ?ap16 ?rp16
  case hp16 => (simp only [List.getElem?_toArray, List.getElem?_cons_succ, List.getElem?_cons_zero]; rfl)
  case sp16 => kernel_rfl
  case fp16 => kernel_rfl
  case zp16 => kernel_rfl
  case qp16 => exact fun _ _ _ h => h
  case yp16 => (refine Or.inl ⟨rfl, ?_⟩; intro w hSw; (try dsimp only at hSw); go_simp; try with_reducible rfl)
  case ap16 => assumption
  case rp16 =>
  simp only [Act.put, List.setIfInBounds_toArray, List.set_cons_zero, List.set_cons_succ]
  refine' wpAnyH_take (i := 17) (oi := ?op17) (v := ?vp17) ?hp17 ?sp17 ?fp17 ?zp17 ?qp17 ?yp17 ?ap17 ?rp17
  case hp17 => (simp only [List.getElem?_toArray, List.getElem?_cons_succ, List.getElem?_cons_zero]; rfl)
  case sp17 => kernel_rfl
  case fp17 => kernel_rfl
  case zp17 => kernel_rfl
  case qp17 => exact fun _ _ _ h => h
  case yp17 => (refine Or.inl ⟨rfl, ?_⟩; intro w hSw; (try dsimp only at hSw); go_simp; try with_reducible rfl)
  case ap17 => assumption
  case rp17 =>
  simp only [Act.put, List.setIfInBounds_toArray, List.set_cons_zero, List.set_cons_succ]
  refine' wpAnyH_take (i := 18) (oi := ?op18) (v := ?vp18) ?hp18 ?sp18 ?fp18 ?zp18 ?qp18 ?yp18 ?ap18 ?rp18
  case hp18 => (simp only [List.getElem?_toArray, List.getElem?_cons_succ, List.getElem?_cons_zero]; rfl)
  case sp18 => kernel_rfl
  case fp18 => kernel_rfl
  case zp18 => kernel_rfl
  case qp18 => exact fun _ _ _ h => h
  case yp18 => (refine Or.inl ⟨rfl, ?_⟩; intro w hSw; (try dsimp only at hSw); go_simp; try with_reducible rfl)
  case ap18 => assumption
  case rp18 =>
  simp only [Act.put, List.setIfInBounds_toArray, List.set_cons_zero, List.set_cons_succ]
  refine' wpAnyH_take (i := 19) (oi := ?op19) (v := ?vp19) ?hp19 ?sp19 ?fp19 ?zp19 ?qp19 ?yp19 ?ap19 ?rp19
  case hp19 => (simp only [List.getElem?_toArray, List.getElem?_cons_succ, List.getElem?_cons_zero]; rfl)
  case sp19 => kernel_rfl
  case fp19 => kernel_rfl
  case zp19 => kernel_rfl
  case qp19 => exact fun _ _ _ h => h
  case yp19 => (refine Or.inl ⟨rfl, ?_⟩; intro w hSw; (try dsimp only at hSw); go_simp; try with_reducible rfl)
  case ap19 => assumption
  case rp19 =>
  simp only [Act.put, List.setIfInBounds_toArray, List.set_cons_zero, List.set_cons_succ]
  refine' wpAnyH_take (i := 20) (oi := ?op20) (v := ?vp20) ?hp20 ?sp20 ?fp20 ?zp20 ?qp20 ?yp20 ?ap20 ?rp20
  case hp20 => (simp only [List.getElem?_toArray, List.getElem?_cons_succ, List.getElem?_cons_zero]; rfl)
  case sp20 => kernel_rfl
  case fp20 => kernel_rfl
  case zp20 => kernel_rfl
  case qp20 => exact fun _ _ _ h => h
  case yp20 => (refine Or.inl ⟨rfl, ?_⟩; intro w hSw; (try dsimp only at hSw); go_simp; try with_reducible rfl)
  case ap20 => assumption
  case rp20 =>
  simp only [Act.put, List.setIfInBounds_toArray, List.set_cons_zero, List.set_cons_succ]
  refine' wpAnyH_take (i := 21) (oi := ?op21) (v := ?vp21) ?hp21 ?sp21 ?fp21 ?zp21 ?qp21 ?yp21 ?ap21 ?rp21
  case hp21 => (simp only [List.getElem?_toArray, List.getElem?_cons_succ, List.getElem?_cons_zero]; rfl)
  case sp21 => kernel_rfl
  case fp21 => kernel_rfl
  case zp21 => kernel_rfl
  case qp21 => exact fun _ _ _ h => h
  case yp21 => (refine Or.inl ⟨rfl, ?_⟩; intro w hSw; (try dsimp only at hSw); go_simp; try with_reducible rfl)
  case ap21 => assumption
  case rp21 =>
  simp only [Act.put, List.setIfInBounds_toArray, List.set_cons_zero, List.set_cons_succ]
  refine' wpAnyH_take (i := 22) (oi := ?op22) (v := ?vp22) ?hp22 ?sp22 ?fp22 ?zp22 ?qp22 ?yp22 ?ap22 ?rp22
  case hp22 => (simp only [List.getElem?_toArray, List.getElem?_cons_succ, List.getElem?_cons_zero]; rfl)
  case sp22 => kernel_rfl
  case fp22 => kernel_rfl
  case zp22 => kernel_rfl
  case qp22 => exact fun _ _ _ h => h
  case yp22 => (refine Or.inl ⟨rfl, ?_⟩; intro w hSw; (try dsimp only at hSw); go_simp; try with_reducible rfl)
  case ap22 => assumption
  case rp22 =>
  simp only [Act.put, List.setIfInBounds_toArray, List.set_cons_zero, List.set_cons_succ]
  refine wpAnyH_ready (rs := [23]) (by kernel_rfl) (by simp) ?_
  refine' AllReadyH.cons (o := ?op23) ?hp23 ?kp23 AllReadyH.nil
  case hp23 => (simp only [List.getElem?_toArray, List.getElem?_cons_succ, List.getElem?_cons_zero]; rfl)
  case kp23 =>
  intro K hK
  go_simp
  go_at_call 127
  refine (E1.out _).mono ?_
  rintro e w' ⟨rfl, rfl⟩
  refine hK.out _ _ ?_ (fun hHeld => ?_)
  · exact t0
  clear hK K
  (try simp only [Act.put, List.setIfInBounds_toArray, List.set_cons_zero, List.set_cons_succ])
  refine wpAnyH_ready (rs := [24]) (by kernel_rfl) (by simp) ?_
  refine' AllReadyH.cons (o := ?op24) ?hp24 ?kp24 AllReadyH.nil
  case hp24 => (simp only [List.getElem?_toArray, List.getElem?_cons_succ, List.getElem?_cons_zero]; rfl)
  case kp24 =>
  intro K hK
  go_simp
  refine hK.out _ _ ?_ (fun hHeld => ?_)
  · exact t1
  clear hK K
  (try simp only [Act.put, List.setIfInBounds_toArray, List.set_cons_zero, List.set_cons_succ])
  refine' wpAnyH_take (i := 25) (oi := ?op25) (v := ?vp25) ?hp25 ?sp25 ?fp25 ?zp25 ?qp25 ?yp25 ?ap25 ?rp25
  case hp25 => (simp only [List.getElem?_toArray, List.getElem?_cons_succ, List.getElem?_cons_zero]; rfl)
  case sp25 => kernel_rfl
  case fp25 => kernel_rfl
  case zp25 => kernel_rfl
  case qp25 => exact fun _ _ _ h => h
  case yp25 => (refine Or.inl ⟨rfl, ?_⟩; intro w hSw; (try dsimp only at hSw); go_simp; try with_reducible rfl)
  case ap25 => assumption
  case rp25 =>
  simp only [Act.put, List.setIfInBounds_toArray, List.set_cons_zero, List.set_cons_succ]
  refine wpAnyH_done (by kernel_rfl) ?_ _
  have Y0 : Hid (Own w No (w1.alloc (.cells #[.int .u8 (IntKind.u8.wrap n.tree), .int .u8 (IntKind.u8.wrap n.level), .int .u8 (IntKind.u8.wrap n.stamp), .int .u8 (IntKind.u8.wrap (n.stamp / 256)), .int .u8 (IntKind.u8.wrap (n.stamp / 65536)), .int .u8 (IntKind.u8.wrap (n.stamp / 16777216)), .int .u8 o7] 5)).drew (Asn.vec 5 1 (.slice (some ⟨w1.heap.size, 0, none⟩) 7 7) 7 (Lib.byteCells (head7 n)) * Asn.blk g 31 #[.int .i64 n.tree, .int .i64 n.level, .int .i64 n.stamp, .bool n.has, .string (ofL n.high), .int .i64 n.right, .slice A1 n.list.length m1])) := by
    have := blk_vec 7 rfl (by decide) (S.out.alloc #[.int .u8 (IntKind.u8.wrap n.tree), .int .u8 (IntKind.u8.wrap n.level), .int .u8 (IntKind.u8.wrap n.stamp), .int .u8 (IntKind.u8.wrap (n.stamp / 256)), .int .u8 (IntKind.u8.wrap (n.stamp / 65536)), .int .u8 (IntKind.u8.wrap (n.stamp / 16777216)), .int .u8 o7] 5).drew
    rw [H7.out]
    exact Lib.hid this
  have Y := Y0
  clear Y0 t0 t1 SD S hHeld E1 H7 hone
  generalize (w1.alloc _).drew = w2 at *
  have hhl : (highL n).length = 9 := high_len HG.out
  have HHL := Lib.hid hhl
  clear hhl
  go_wp2_with fail
  go_loopw [3, 4] (fun b i wr => ∃ k : Nat, k ≤ 9 ∧ i = .int .i64 k ∧ Hid (Own w No wr (Asn.vec 5 1 b (7 + k) (Lib.byteCells (head7 n ++ (highL n).take k)) * Asn.blk g 31 #[.int .i64 n.tree, .int .i64 n.level, .int .i64 n.stamp, .bool n.has, .string (ofL n.high), .int .i64 n.right, .slice A1 n.list.length m1]))) (fun _ i _ => 9 - (intOf i).toNat)
  case atStart => exact ⟨0, Nat.zero_le _, rfl, by rw [List.take_zero, List.append_nil]; exact Y⟩
  case round =>
    clear Y
    obtain ⟨k, hk, rfl, X⟩ := hrel
    obtain ⟨A, c, rfl⟩ := X.out.vec.slice
    obtain ⟨-, -, -, c3, c4, -, -⟩ := nod_cells (X.out.has (Has.r (has_blk _ _ _)))
    by_cases hlt : k < 9
    · obtain ⟨y, hy⟩ : ∃ y, (highL n)[k]? = some y := ⟨(highL n)[k]'(by rw [HHL.out]; exact hlt), List.getElem?_eq_getElem _⟩
      have hcs : Lib.byteCells (head7 n ++ (highL n).take (k + 1)) = Lib.byteCells (head7 n ++ (highL n).take k) ++ [.int .u8 y.toNat] := by
        rw [List.take_add_one, hy, ← List.append_assoc, cells_app _ (Option.toList (some y))]; rfl
      have HCS := Lib.hid hcs
      have X2 := Lib.hid (X.out.alloc #[.int .u8 y.toNat] 5).right
      have CX : Hid (Src Tryz.prog 1 138 (.slice (some ⟨wr.heap.size, 0, none⟩) 1 1) 1 [.int .u8 y.toNat] (wr.alloc (.cells #[.int .u8 y.toNat] 5))) := Lib.hid (Src.ofSlice _ Tryz.underlying138 _ 1 1 _ rfl (append1 ((Blk.new wr #[.int .u8 y.toNat] 5).cell 0)) (by intro u hu; simp at hu; subst hu; rfl))
      clear hcs
      rcases Bool.eq_false_or_eq_true n.has with hb | hb
      · rw [hb] at c3
        have hh9 : (ofL n.high).size = 9 := HG.out.hh hb
        have hyb : bt (ofL n.high) k = (y.toNat : Int) := by
          rw [bt_list]
          have : (ofL n.high).data.toList = n.high := rfl
          rw [this, List.getD, show n.high[k]? = some y by rw [← hy, highL, hb]; rfl]; rfl
        have gb := get_bt (ofL n.high)
        have hk0 : (0 : Int) ≤ (k : Int) := by omega
        have hk1 : (k : Int) < ((ofL n.high).size : Int) := by omega
        have hk2 : k < (ofL n.high).size := by omega
        have hkt : ((k : Int)).toNat = k := rfl
        clear hy hb hh9
        go_wp2_with (with_reducible refine wpList_append_vec rfl (.tmp 38) (.tmp 43) 138 138 rfl 5 (.int .u8 0) 1 1 Tryz.underlying138 byteInfo ?d1 ?d2 _ (7 + k) (Lib.byteCells (head7 n ++ (highL n).take k)) ?d7 X2.out.vec (.slice (some ⟨wr.heap.size, 0, none⟩) 1 1) ?d8 1 _ CX.out ?d3 ?d4 ?_)
        case d1 => rfl
        case d2 => decide
        case d3 => unfold maxLen; omega
        case d4 => omega
        case d7 => rfl
        case d8 => rfl
        intro v' w5 hv hc hf
        have X3 := Lib.hid (X2.out.app hv hc hf)
        obtain ⟨A', c', rfl⟩ := hv.slice
        clear X X2 CX hv hc hf c3 c4
        go_wp2_with fail
        go_round
        case rel => exact ⟨k + 1, by omega, by go_num, by rw [HCS.out, ← Nat.add_assoc]; exact X3⟩
        case measure => simp [intOf]; omega
      · rw [hb] at c3
        have hy0 : (y.toNat : Int) = 0 := by
          have : (highL n)[k]? = some 0 := by
            rw [highL, hb]
            have : k = 0 ∨ k = 1 ∨ k = 2 ∨ k = 3 ∨ k = 4 ∨ k = 5 ∨ k = 6 ∨ k = 7 ∨ k = 8 := by omega
            rcases this with rfl | rfl | rfl | rfl | rfl | rfl | rfl | rfl | rfl <;> rfl
          rw [this] at hy
          cases hy; rfl
        clear hy hb
        rw [hy0] at X2 CX HCS
        go_wp2_with (with_reducible refine wpList_append_vec rfl (.tmp 45) (.tmp 46) 138 138 rfl 5 (.int .u8 0) 1 1 Tryz.underlying138 byteInfo ?c1 ?c2 _ (7 + k) (Lib.byteCells (head7 n ++ (highL n).take k)) ?c7 X2.out.vec (.slice (some ⟨wr.heap.size, 0, none⟩) 1 1) ?c8 1 _ CX.out ?c3 ?c4 ?_)
        case c1 => rfl
        case c2 => decide
        case c3 => unfold maxLen; omega
        case c4 => omega
        case c7 => rfl
        case c8 => rfl
        intro v' w5 hv hc hf
        have X3 := Lib.hid (X2.out.app hv hc hf)
        obtain ⟨A', c', rfl⟩ := hv.slice
        clear X X2 CX hv hc hf c3 c4
        go_wp2_with fail
        go_round
        case rel => exact ⟨k + 1, by omega, by go_num, by rw [HCS.out, ← Nat.add_assoc]; exact X3⟩
        case measure => simp [intOf]; omega
    · obtain rfl : k = 9 := by omega
      have Y1 : Hid (Own w No wr (Asn.vec 5 1 (.slice A 16 c) 16 (Lib.byteCells (head7 n ++ highL n)) * Asn.blk g 31 #[.int .i64 n.tree, .int .i64 n.level, .int .i64 n.stamp, .bool n.has, .string (ofL n.high), .int .i64 n.right, .slice A1 n.list.length m1])) := by
        have := X.out
        rw [List.take_of_length_le (by rw [HHL.out]; exact Nat.le_refl _)] at this
        exact Lib.hid this
      clear X c3 c4
      obtain ⟨-, -, -, -, -, c5, c6⟩ := nod_cells (Y1.out.has (Has.r (has_blk _ _ _)))
      have hll := HG.out.ll
      have X2 := Lib.hid (Y1.out.alloc #[.int .u8 (n.right % 256), .int .u8 (n.right / 256 % 256), .int .u8 (n.list.length : Int), .int .u8 ((n.list.length : Int) / 256)] 5).right
      have CX : Hid (Src Tryz.prog 1 138 (.slice (some ⟨wr.heap.size, 0, none⟩) 4 4) 4 [.int .u8 (n.right % 256), .int .u8 (n.right / 256 % 256), .int .u8 (n.list.length : Int), .int .u8 ((n.list.length : Int) / 256)] (wr.alloc (.cells #[.int .u8 (n.right % 256), .int .u8 (n.right / 256 % 256), .int .u8 (n.list.length : Int), .int .u8 ((n.list.length : Int) / 256)] 5))) := Lib.hid (Src.ofSlice _ Tryz.underlying138 _ 4 4 _ rfl (fun j u hu => by rw [addr_zero, (Blk.new wr _ _).cell]; simpa using hu) (by intro u hu; simp at hu; rcases hu with rfl | rfl | rfl | rfl <;> rfl))
      clear hlt hk
      go_wp2_with (with_reducible refine wpList_append_vec rfl (.tmp 48) (.tmp 65) 138 138 rfl 5 (.int .u8 0) 1 1 Tryz.underlying138 byteInfo ?e1 ?e2 _ 16 (Lib.byteCells (head7 n ++ highL n)) ?e7 X2.out.vec (.slice (some ⟨wr.heap.size, 0, none⟩) 4 4) ?e8 4 _ CX.out ?e3 ?e4 ?_)
      case e1 => rfl
      case e2 => decide
      case e3 => decide
      case e4 => omega
      case e7 => rfl
      case e8 => rfl
      intro v' w5 hv hc hf
      have hcs := head_cells n HG.out
      have X3 : Hid (Own w No w5 (Asn.vec 5 1 v' 20 (Lib.byteCells (headL n)) * Asn.blk g 31 #[.int .i64 n.tree, .int .i64 n.level, .int .i64 n.stamp, .bool n.has, .string (ofL n.high), .int .i64 n.right, .slice A1 n.list.length m1])) := Lib.hid (by
        have := X2.out.app hv hc hf
        rw [← hcs] at this
        exact this)
      obtain ⟨A', c', rfl⟩ := hv.slice
      clear Y1 X2 CX hv hc hf c5 c6 hcs HHL
      have hk20 := head_len HG.out
      have HK20 := Lib.hid hk20
      clear hk20
      obtain ⟨wq, hwq⟩ : ∃ x : World, x = w5 := ⟨_, rfl⟩
      rw [← hwq] at X3 ⊢
      clear hwq
      go_wp2_with fail
      go_loopw [3, 5] (fun b i wr => ∃ k : Nat, k ≤ n.list.length ∧ i = .int .i64 k ∧ Hid (Own w No wr (Asn.vec 5 1 b (20 + sizeL (n.list.take k)) (Lib.byteCells (headL n ++ (n.list.take k).flatMap bEnt)) * Asn.blk g 31 #[.int .i64 n.tree, .int .i64 n.level, .int .i64 n.stamp, .bool n.has, .string (ofL n.high), .int .i64 n.right, .slice A1 n.list.length m1]))) (fun _ i _ => n.list.length - (intOf i).toNat)
      case atStart => exact ⟨0, Nat.zero_le _, rfl, by rw [List.take_zero, List.flatMap_nil, List.append_nil]; exact X3⟩
      case round =>
        clear X3
        obtain ⟨k, hk, rfl, X⟩ := hrel
        obtain ⟨A2, c2, rfl⟩ := X.out.vec.slice
        obtain ⟨-, -, -, -, -, -, c6⟩ := nod_cells (X.out.has (Has.r (has_blk _ _ _)))
        by_cases hlt : k < n.list.length
        · obtain ⟨x, hx⟩ : ∃ x, n.list[k]? = some x := ⟨n.list[k]'(by omega), List.getElem?_eq_getElem _⟩
          obtain ⟨b, ob, rfl, hbl, a0, a1, a2⟩ := (HP.out.keep X.out.bel).at hx
          have X1 := Lib.hid (X.out.alloc #[.string (ofL x.key), .string (ofL x.val), .bool x.ghost] 83)
          have hft := flat_take bEnt n.list k x hx
          have hsz := sizeL_take n.list k x hx
          have hky := HG.out.ky x (List.mem_of_getElem? hx)
          have hvl := HG.out.vl x (List.mem_of_getElem? hx)
          have hbd : 20 + sizeL (n.list.take k) ≤ 11120 := by
            have := size_small HG.out
            have := sizeL_le n.list k
            unfold sizeN at *; omega
          go_upto_region 13 with fail
          obtain ⟨ge, hgz⟩ : ∃ g, g = wr.heap.size := ⟨_, rfl⟩
          rw [← hgz] at X1 ⊢
          clear hgz
          generalize wr.alloc _ = wa at *
          obtain ⟨xk, hxk⟩ : ∃ y, y = ofL x.key := ⟨_, rfl⟩
          obtain ⟨xv, hxv⟩ : ∃ y, y = ofL x.val := ⟨_, rfl⟩
          obtain ⟨o8, ho8⟩ : ∃ y : Int, y = if x.ghost then 1 else 0 := ⟨_, rfl⟩
          obtain ⟨lv, hlv⟩ : ∃ y : Int, y = IntKind.u8.wrap (xv.size : Int) := ⟨_, rfl⟩
          have HXK : Hid (xk.data.toList = x.key) := Lib.hid (by rw [hxk]; rfl)
          have HXV : Hid (xv.data.toList = x.val) := Lib.hid (by rw [hxv]; rfl)
          have HZxk : Hid (x.key.length = xk.size) := Lib.hid (by rw [hxk]; rfl)
          have HZxv : Hid (x.val.length = xv.size) := Lib.hid (by rw [hxv]; rfl)
          have HSZ := Lib.hid hsz
          have HK9 := Lib.hid hky
          have E8 := Lib.hid (fun w => one_any x.ghost w)
          rw [← ho8] at E8
          have HFT : Hid (Lib.byteCells (headL n ++ (n.list.take k).flatMap bEnt) ++ (Lib.byteCells x.key) ++ [.int .u8 o8, .int .u8 lv] ++ (Lib.byteCells x.val) = Lib.byteCells (headL n ++ (n.list.take (k + 1)).flatMap bEnt)) := Lib.hid (by
            rw [hft, ← List.append_assoc, cells_app _ (bEnt x)]
            have e1 : lv = ((x.val.length : Nat) : Int) % 256 := by rw [hlv, hxv, IntKind.wrap_u8]; rfl
            have e2 : Lib.byteCells (numL 1 x.val.length) = [.int .u8 lv] := by
              rw [← numZ_nat, e1]
              simp only [numZ, Lib.byteCells, List.map_cons, List.map_nil, u8n]
            rw [bEnt_cells, e2, ← ho8]
            simp only [List.append_assoc, List.cons_append, List.nil_append])
          have Q0 : Hid (Own w No wa.drew (Asn.vec 5 1 (.slice A2 (20 + sizeL (n.list.take k)) c2) (20 + sizeL (n.list.take k)) (Lib.byteCells (headL n ++ (n.list.take k).flatMap bEnt)) * (Asn.blk ge 83 #[.string xk, .string xv, .bool x.ghost] * Asn.blk g 31 #[.int .i64 n.tree, .int .i64 n.level, .int .i64 n.stamp, .bool n.has, .string (ofL n.high), .int .i64 n.right, .slice (some ⟨b, ob, none⟩) n.list.length m1]))) := Lib.hid (by
            have := (Aid.own_front X1.out).drew
            rw [← hxk, ← hxv] at this
            exact this)
          have hks : xk.size ≤ 9 := by have := HZxk.out; omega
          have hvs : xv.size ≤ 100 := by have := HZxv.out; omega
          clear X1 X a0 a1 a2 c6 hft hsz hky hvl hx hxk hxv ho8
          have te := ent_cells (Q0.out.has (Has.r (Has.l (has_blk _ _ _))))
          refine wp_region_held_drew (S := fun W => W.cell? ⟨ge, 0, none⟩ = some (.string xk) ∧ W.cell? ⟨ge, 1, none⟩ = some (.string xv) ∧ W.cell? ⟨ge, 2, none⟩ = some (.bool x.ghost)) (by kernel_rfl) te (fun hHeld => ?_)
          generalize wa.drew = wb at *
          clear te
          refine' wpAnyH_take (i := 0) (oi := ?ot0) (v := ?vt0) ?ht0 ?st0 ?ft0 ?zt0 ?qt0 ?yt0 ?at0 ?rt0
          case ht0 => (simp only [List.getElem?_toArray, List.getElem?_cons_succ, List.getElem?_cons_zero]; rfl)
          case st0 => kernel_rfl
          case ft0 => kernel_rfl
          case zt0 => kernel_rfl
          case qt0 => exact fun _ _ _ h => h
          case yt0 => (refine Or.inl ⟨rfl, ?_⟩; intro w hSw; (try dsimp only at hSw); go_simp; try with_reducible rfl)
          case at0 => assumption
          case rt0 =>
          simp only [Act.put, List.setIfInBounds_toArray, List.set_cons_zero, List.set_cons_succ]
          refine' wpAnyH_take (i := 1) (oi := ?ot1) (v := ?vt1) ?ht1 ?st1 ?ft1 ?zt1 ?qt1 ?yt1 ?at1 ?rt1
          case ht1 => (simp only [List.getElem?_toArray, List.getElem?_cons_succ, List.getElem?_cons_zero]; rfl)
          case st1 => kernel_rfl
          case ft1 => kernel_rfl
          case zt1 => kernel_rfl
          case qt1 => exact fun _ _ _ h => h
          case yt1 => (refine Or.inl ⟨rfl, ?_⟩; intro w hSw; (try dsimp only at hSw); go_simp; try with_reducible rfl)
          case at1 => assumption
          case rt1 =>
          simp only [Act.put, List.setIfInBounds_toArray, List.set_cons_zero, List.set_cons_succ]
          refine' wpAnyH_take (i := 2) (oi := ?ot2) (v := ?vt2) ?ht2 ?st2 ?ft2 ?zt2 ?qt2 ?yt2 ?at2 ?rt2
          case ht2 => (simp only [List.getElem?_toArray, List.getElem?_cons_succ, List.getElem?_cons_zero]; rfl)
          case st2 => kernel_rfl
          case ft2 => kernel_rfl
          case zt2 => kernel_rfl
          case qt2 => exact fun _ _ _ h => h
          case yt2 => (refine Or.inl ⟨rfl, ?_⟩; intro w hSw; (try dsimp only at hSw); go_simp; try with_reducible rfl)
          case at2 => assumption
          case rt2 =>
          simp only [Act.put, List.setIfInBounds_toArray, List.set_cons_zero, List.set_cons_succ]
          refine' wpAnyH_take (i := 5) (oi := ?ot5) (v := ?vt5) ?ht5 ?st5 ?ft5 ?zt5 ?qt5 ?yt5 ?at5 ?rt5
          case ht5 => (simp only [List.getElem?_toArray, List.getElem?_cons_succ, List.getElem?_cons_zero]; rfl)
          case st5 => kernel_rfl
          case ft5 => kernel_rfl
          case zt5 => kernel_rfl
          case qt5 => exact fun _ _ _ h => h
          case yt5 => (refine Or.inl ⟨rfl, ?_⟩; intro w hSw; (try dsimp only at hSw); go_simp; try with_reducible rfl)
          case at5 => assumption
          case rt5 =>
          simp only [Act.put, List.setIfInBounds_toArray, List.set_cons_zero, List.set_cons_succ]
          refine' wpAnyH_take (i := 6) (oi := ?ot6) (v := ?vt6) ?ht6 ?st6 ?ft6 ?zt6 ?qt6 ?yt6 ?at6 ?rt6
          case ht6 => (simp only [List.getElem?_toArray, List.getElem?_cons_succ, List.getElem?_cons_zero]; rfl)
          case st6 => kernel_rfl
          case ft6 => kernel_rfl
          case zt6 => kernel_rfl
          case qt6 => exact fun _ _ _ h => h
          case yt6 => (refine Or.inl ⟨rfl, ?_⟩; intro w hSw; (try dsimp only at hSw); go_simp; try with_reducible rfl)
          case at6 => assumption
          case rt6 =>
          simp only [Act.put, List.setIfInBounds_toArray, List.set_cons_zero, List.set_cons_succ]
          refine' wpAnyH_take (i := 8) (oi := ?ot8) (v := ?vt8) ?ht8 ?st8 ?ft8 ?zt8 ?qt8 ?yt8 ?at8 ?rt8
          case ht8 => (simp only [List.getElem?_toArray, List.getElem?_cons_succ, List.getElem?_cons_zero]; rfl)
          case st8 => kernel_rfl
          case ft8 => kernel_rfl
          case zt8 => kernel_rfl
          case qt8 => exact fun _ _ _ h => h
          case yt8 => (refine Or.inl ⟨rfl, ?_⟩; intro w hSw; (try dsimp only at hSw); go_simp; try with_reducible rfl)
          case at8 => assumption
          case rt8 =>
          simp only [Act.put, List.setIfInBounds_toArray, List.set_cons_zero, List.set_cons_succ]
          refine' wpAnyH_take (i := 9) (oi := ?ot9) (v := ?vt9) ?ht9 ?st9 ?ft9 ?zt9 ?qt9 ?yt9 ?at9 ?rt9
          case ht9 => (simp only [List.getElem?_toArray, List.getElem?_cons_succ, List.getElem?_cons_zero]; rfl)
          case st9 => kernel_rfl
          case ft9 => kernel_rfl
          case zt9 => kernel_rfl
          case qt9 => exact fun _ _ _ h => h
          case yt9 => (refine Or.inl ⟨rfl, ?_⟩; intro w hSw; (try dsimp only at hSw); go_simp; try with_reducible rfl)
          case at9 => assumption
          case rt9 =>
          simp only [Act.put, List.setIfInBounds_toArray, List.set_cons_zero, List.set_cons_succ]
          refine' wpAnyH_take (i := 10) (oi := ?ot10) (v := ?vt10) ?ht10 ?st10 ?ft10 ?zt10 ?qt10 ?yt10 ?at10 ?rt10
          case ht10 => (simp only [List.getElem?_toArray, List.getElem?_cons_succ, List.getElem?_cons_zero]; rfl)
          case st10 => kernel_rfl
          case ft10 => kernel_rfl
          case zt10 => kernel_rfl
          case qt10 => exact fun _ _ _ h => h
          case yt10 => (refine Or.inl ⟨rfl, ?_⟩; intro w hSw; (try dsimp only at hSw); go_simp; try with_reducible rfl)
          case at10 => assumption
          case rt10 =>
          simp only [Act.put, List.setIfInBounds_toArray, List.set_cons_zero, List.set_cons_succ]
          refine' wpAnyH_take (i := 11) (oi := ?ot11) (v := ?vt11) ?ht11 ?st11 ?ft11 ?zt11 ?qt11 ?yt11 ?at11 ?rt11
          case ht11 => (simp only [List.getElem?_toArray, List.getElem?_cons_succ, List.getElem?_cons_zero]; rfl)
          case st11 => kernel_rfl
          case ft11 => kernel_rfl
          case zt11 => kernel_rfl
          case qt11 => exact fun _ _ _ h => h
          case yt11 => (refine Or.inl ⟨rfl, ?_⟩; intro w hSw; (try dsimp only at hSw); go_simp; try with_reducible rfl)
          case at11 => assumption
          case rt11 =>
          simp only [Act.put, List.setIfInBounds_toArray, List.set_cons_zero, List.set_cons_succ]
          refine' wpAnyH_take (i := 14) (oi := ?ot14) (v := ?vt14) ?ht14 ?st14 ?ft14 ?zt14 ?qt14 ?yt14 ?at14 ?rt14
          case ht14 => (simp only [List.getElem?_toArray, List.getElem?_cons_succ, List.getElem?_cons_zero]; rfl)
          case st14 => kernel_rfl
          case ft14 => kernel_rfl
          case zt14 => kernel_rfl
          case qt14 => exact fun _ _ _ h => h
          case yt14 => (refine Or.inl ⟨rfl, ?_⟩; intro w hSw; (try dsimp only at hSw); go_simp; try with_reducible rfl)
          case at14 => assumption
          case rt14 =>
          simp only [Act.put, List.setIfInBounds_toArray, List.set_cons_zero, List.set_cons_succ]
          refine' wpAnyH_take (i := 15) (oi := ?ot15) (v := ?vt15) ?ht15 ?st15 ?ft15 ?zt15 ?qt15 ?yt15 ?at15 ?rt15
          case ht15 => (simp only [List.getElem?_toArray, List.getElem?_cons_succ, List.getElem?_cons_zero]; rfl)
          case st15 => kernel_rfl
          case ft15 => kernel_rfl
          case zt15 => kernel_rfl
          case qt15 => exact fun _ _ _ h => h
          case yt15 => (refine Or.inl ⟨rfl, ?_⟩; intro w hSw; (try dsimp only at hSw); go_simp; try with_reducible rfl)
          case at15 => assumption
          case rt15 =>
          simp only [Act.put, List.setIfInBounds_toArray, List.set_cons_zero, List.set_cons_succ]
          rw [← hlv]
          clear hlv
          refine wpAnyH_ready (rs := [3, 16]) (by kernel_rfl) (by simp) ?_
          refine' AllReadyH.cons (o := ?or3) ?hr3 ?kr3 ?mr3
          case hr3 => (simp only [List.getElem?_toArray, List.getElem?_cons_succ, List.getElem?_cons_zero]; rfl)
          case kr3 =>
            intro K hK
            obtain ⟨cr3_3, wr3_3, hcr3_3, hbr3_3, hyr3_3⟩ := to_bytes (P := Tryz.prog) Tryz.underlying9 Tryz.underlying138 Tryz.underlying5 wb xk
            have hzr3_3 : xk.data.toList = x.key := HXK.out
            rw [hzr3_3] at hyr3_3
            have qr3_3 := Lib.hid (Aid.own_front (raw_new Q0.out hbr3_3 hyr3_3))
            clear hbr3_3 hyr3_3 hzr3_3
            obtain ⟨gr3_3, hgr3_3⟩ : ∃ g, g = wb.heap.size := ⟨_, rfl⟩
            rw [← hgr3_3] at qr3_3 hcr3_3
            clear hgr3_3
            go_simp
            refine hK.out _ _ (ent_cells (qr3_3.out.has (Has.r (Has.r (Has.l (has_blk _ _ _)))))) (fun hHeld => ?_)
            clear hK K
            (try simp only [Act.put, List.setIfInBounds_toArray, List.set_cons_zero, List.set_cons_succ])
            clear hcr3_3
            refine wpAnyH_ready (rs := [4, 16]) (by kernel_rfl) (by simp) ?_
            refine' AllReadyH.cons (o := ?or34) ?hr34 ?kr34 ?mr34
            case hr34 => (simp only [List.getElem?_toArray, List.getElem?_cons_succ, List.getElem?_cons_zero]; rfl)
            case kr34 =>
              intro K hK
              have cxr34_4 := Lib.hid (src_raw (P := Tryz.prog) Tryz.underlying138 (qr3_3.out.raws (Raws.r (Raws.l (raws_raw _ _)))) cr3_3 xk.size HZxk.out)
              refine step_append_vec rfl (.tmp 79) (.tmp 82) 138 138 rfl 5 (.int .u8 0) 1 1 Tryz.underlying138 byteInfo rfl (by decide) (.slice A2 (20 + sizeL (n.list.take k)) c2) (20 + sizeL (n.list.take k)) (Lib.byteCells (headL n ++ (n.list.take k).flatMap bEnt)) rfl qr3_3.out.vec (.slice (some ⟨gr3_3, 0, none⟩) xk.size cr3_3) rfl xk.size (Lib.byteCells x.key) cxr34_4.out (by unfold maxLen; omega) (by omega) ?_
              intro vr34_4 wr34_4 hvr34_4 hcr34_4 hfr34_4
              have qr34_4 := Lib.hid (qr3_3.out.app hvr34_4 hcr34_4 hfr34_4)
              obtain ⟨Ar34_4, cr34_4, rfl⟩ := hvr34_4.slice
              clear hvr34_4 hcr34_4 hfr34_4 cxr34_4
              refine hK.out _ _ (ent_cells (qr34_4.out.has (Has.r (Has.r (Has.l (has_blk _ _ _)))))) (fun hHeld => ?_)
              clear hK K
              (try simp only [Act.put, List.setIfInBounds_toArray, List.set_cons_zero, List.set_cons_succ])
              refine wpAnyH_ready (rs := [7, 16]) (by kernel_rfl) (by simp) ?_
              refine' AllReadyH.cons (o := ?or347) ?hr347 ?kr347 ?mr347
              case hr347 => (simp only [List.getElem?_toArray, List.getElem?_cons_succ, List.getElem?_cons_zero]; rfl)
              case kr347 =>
                intro K hK
                go_simp
                go_at_call 127
                refine (E8.out _).mono ?_
                rintro e w' ⟨rfl, hw7⟩
                have hw8 := hw7.symm
                subst hw8
                clear hw7
                refine hK.out _ _ (ent_cells (qr34_4.out.has (Has.r (Has.r (Has.l (has_blk _ _ _)))))) (fun hHeld => ?_)
                clear hK K
                (try simp only [Act.put, List.setIfInBounds_toArray, List.set_cons_zero, List.set_cons_succ])
                refine wpAnyH_ready (rs := [12, 16]) (by kernel_rfl) (by simp) ?_
                refine' AllReadyH.cons (o := ?or34712) ?hr34712 ?kr34712 ?mr34712
                case hr34712 => (simp only [List.getElem?_toArray, List.getElem?_cons_succ, List.getElem?_cons_zero]; rfl)
                case kr34712 =>
                  intro K hK
                  have qr34712_12 := Lib.hid (Aid.own_front (qr34_4.out.alloc #[.int .u8 o8, .int .u8 lv] 5))
                  go_simp
                  obtain ⟨gr34712_12, hgr34712_12⟩ : ∃ g, g = wr34_4.heap.size := ⟨_, rfl⟩
                  rw [← hgr34712_12] at qr34712_12 ⊢
                  clear hgr34712_12
                  generalize wr34_4.alloc _ = wr34712_12 at *
                  refine hK.out _ _ (ent_cells (qr34712_12.out.has (Has.r (Has.r (Has.r (Has.l (has_blk _ _ _))))))) (fun hHeld => ?_)
                  clear hK K
                  (try simp only [Act.put, List.setIfInBounds_toArray, List.set_cons_zero, List.set_cons_succ])
                  refine wpAnyH_ready (rs := [13, 16]) (by kernel_rfl) (by simp) ?_
                  refine' AllReadyH.cons (o := ?or3471213) ?hr3471213 ?kr3471213 ?mr3471213
                  case hr3471213 => (simp only [List.getElem?_toArray, List.getElem?_cons_succ, List.getElem?_cons_zero]; rfl)
                  case kr3471213 =>
                    intro K hK
                    have cxr3471213_13 := Lib.hid (Src.ofSlice (P := Tryz.prog) (size := 1) wr34712_12 Tryz.underlying138 ⟨gr34712_12, 0, none⟩ 2 2 [.int .u8 o8, .int .u8 lv] rfl (fun j u hu => by rw [addr_zero, (qr34712_12.out.has (Has.r (Has.l (has_blk _ _ _)))).cell]; simpa using hu) (by intro u hu; simp at hu; rcases hu with rfl | rfl <;> rfl))
                    refine step_append_vec rfl (.tmp 83) (.tmp 91) 138 138 rfl 5 (.int .u8 0) 1 1 Tryz.underlying138 byteInfo rfl (by decide) (.slice Ar34_4 (20 + sizeL (n.list.take k) + xk.size) cr34_4) (20 + sizeL (n.list.take k) + xk.size) (Lib.byteCells (headL n ++ (n.list.take k).flatMap bEnt) ++ (Lib.byteCells x.key)) rfl qr34712_12.out.vec (.slice (some ⟨gr34712_12, 0, none⟩) 2 2) rfl 2 [.int .u8 o8, .int .u8 lv] cxr3471213_13.out (by unfold maxLen; omega) (by omega) ?_
                    intro vr3471213_13 wr3471213_13 hvr3471213_13 hcr3471213_13 hfr3471213_13
                    have qr3471213_13 := Lib.hid (qr34712_12.out.app hvr3471213_13 hcr3471213_13 hfr3471213_13)
                    obtain ⟨Ar3471213_13, cr3471213_13, rfl⟩ := hvr3471213_13.slice
                    clear hvr3471213_13 hcr3471213_13 hfr3471213_13 cxr3471213_13
                    refine hK.out _ _ (ent_cells (qr3471213_13.out.has (Has.r (Has.r (Has.r (Has.l (has_blk _ _ _))))))) (fun hHeld => ?_)
                    clear hK K
                    (try simp only [Act.put, List.setIfInBounds_toArray, List.set_cons_zero, List.set_cons_succ])
                    refine wpAnyH_ready (rs := [16]) (by kernel_rfl) (by simp) ?_
                    refine' AllReadyH.cons (o := ?or347121316) ?hr347121316 ?kr347121316 AllReadyH.nil
                    case hr347121316 => (simp only [List.getElem?_toArray, List.getElem?_cons_succ, List.getElem?_cons_zero]; rfl)
                    case kr347121316 =>
                      intro K hK
                      obtain ⟨cr347121316_16, wr347121316_16, hcr347121316_16, hbr347121316_16, hyr347121316_16⟩ := to_bytes (P := Tryz.prog) Tryz.underlying9 Tryz.underlying138 Tryz.underlying5 wr3471213_13 xv
                      have hzr347121316_16 : xv.data.toList = x.val := HXV.out
                      rw [hzr347121316_16] at hyr347121316_16
                      have qr347121316_16 := Lib.hid (Aid.own_front (raw_new qr3471213_13.out hbr347121316_16 hyr347121316_16))
                      clear hbr347121316_16 hyr347121316_16 hzr347121316_16
                      obtain ⟨gr347121316_16, hgr347121316_16⟩ : ∃ g, g = wr3471213_13.heap.size := ⟨_, rfl⟩
                      rw [← hgr347121316_16] at qr347121316_16 hcr347121316_16
                      clear hgr347121316_16
                      go_simp
                      refine hK.out _ _ (ent_cells (qr347121316_16.out.has (Has.r (Has.r (Has.r (Has.r (Has.l (has_blk _ _ _)))))))) (fun hHeld => ?_)
                      clear hK K
                      (try simp only [Act.put, List.setIfInBounds_toArray, List.set_cons_zero, List.set_cons_succ])
                      clear hcr347121316_16
                      refine wpAnyH_ready (rs := [17]) (by kernel_rfl) (by simp) ?_
                      refine' AllReadyH.cons (o := ?or34712131617) ?hr34712131617 ?kr34712131617 AllReadyH.nil
                      case hr34712131617 => (simp only [List.getElem?_toArray, List.getElem?_cons_succ, List.getElem?_cons_zero]; rfl)
                      case kr34712131617 =>
                        intro K hK
                        have cxr34712131617_17 := Lib.hid (src_raw (P := Tryz.prog) Tryz.underlying138 (qr347121316_16.out.raws (Raws.r (Raws.l (raws_raw _ _)))) cr347121316_16 xv.size HZxv.out)
                        refine step_append_vec rfl (.tmp 92) (.tmp 95) 138 138 rfl 5 (.int .u8 0) 1 1 Tryz.underlying138 byteInfo rfl (by decide) (.slice Ar3471213_13 (20 + sizeL (n.list.take k) + xk.size + 2) cr3471213_13) (20 + sizeL (n.list.take k) + xk.size + 2) (Lib.byteCells (headL n ++ (n.list.take k).flatMap bEnt) ++ (Lib.byteCells x.key) ++ [.int .u8 o8, .int .u8 lv]) rfl qr347121316_16.out.vec (.slice (some ⟨gr347121316_16, 0, none⟩) xv.size cr347121316_16) rfl xv.size (Lib.byteCells x.val) cxr34712131617_17.out (by unfold maxLen; omega) (by omega) ?_
                        intro vr34712131617_17 wr34712131617_17 hvr34712131617_17 hcr34712131617_17 hfr34712131617_17
                        have qr34712131617_17 := Lib.hid (qr347121316_16.out.app hvr34712131617_17 hcr34712131617_17 hfr34712131617_17)
                        obtain ⟨Ar34712131617_17, cr34712131617_17, rfl⟩ := hvr34712131617_17.slice
                        clear hvr34712131617_17 hcr34712131617_17 hfr34712131617_17 cxr34712131617_17
                        refine hK.out _ _ (ent_cells (qr34712131617_17.out.has (Has.r (Has.r (Has.r (Has.r (Has.l (has_blk _ _ _)))))))) (fun hHeld => ?_)
                        clear hK K
                        (try simp only [Act.put, List.setIfInBounds_toArray, List.set_cons_zero, List.set_cons_succ])
                        refine' wpAnyH_take (i := 18) (oi := ?or34712131617z18) (v := ?vr34712131617z18) ?hr34712131617z18 ?sr34712131617z18 ?fr34712131617z18 ?zr34712131617z18 ?qr34712131617z18 ?yr34712131617z18 ?ar34712131617z18 ?rr34712131617z18
                        case hr34712131617z18 => (simp only [List.getElem?_toArray, List.getElem?_cons_succ, List.getElem?_cons_zero]; rfl)
                        case sr34712131617z18 => kernel_rfl
                        case fr34712131617z18 => kernel_rfl
                        case zr34712131617z18 => kernel_rfl
                        case qr34712131617z18 => exact fun _ _ _ h => h
                        case yr34712131617z18 => (refine Or.inl ⟨rfl, ?_⟩; intro w hSw; (try dsimp only at hSw); go_simp; try with_reducible rfl)
                        case ar34712131617z18 => assumption
                        case rr34712131617z18 =>
                        simp only [Act.put, List.setIfInBounds_toArray, List.set_cons_zero, List.set_cons_succ]
                        refine wpAnyH_done (by kernel_rfl) ?_ _
                        have hN : 20 + sizeL (n.list.take k) + xk.size + 2 + xv.size = 20 + sizeL (n.list.take (k + 1)) := by have := HZxk.out; have := HZxv.out; have := HSZ.out; have := HK9.out; omega
                        have hL : Lib.byteCells (headL n ++ (n.list.take k).flatMap bEnt) ++ (Lib.byteCells x.key) ++ [.int .u8 o8, .int .u8 lv] ++ (Lib.byteCells x.val) = Lib.byteCells (headL n ++ (n.list.take (k + 1)).flatMap bEnt) := HFT.out
                        have qf := Lib.hid (Aid.own_front (Aid.own_front (Aid.own_front (Aid.own_front qr34712131617_17.out).right).right).right).right
                        have HN' := Lib.hid hN
                        have HL' := Lib.hid hL
                        clear hL hN hHeld
                        go_wp2_with fail
                        (first | go_round | go_roundw)
                        case rel => exact ⟨k + 1, by omega, by go_num, by rw [← HL'.out, ← HN'.out]; exact qf⟩
                        case measure => simp [intOf]; omega
                  case mr3471213 =>
                  refine' AllReadyH.cons (o := ?or3471216) ?hr3471216 ?kr3471216 AllReadyH.nil
                  case hr3471216 => (simp only [List.getElem?_toArray, List.getElem?_cons_succ, List.getElem?_cons_zero]; rfl)
                  case kr3471216 =>
                    intro K hK
                    obtain ⟨cr3471216_16, wr3471216_16, hcr3471216_16, hbr3471216_16, hyr3471216_16⟩ := to_bytes (P := Tryz.prog) Tryz.underlying9 Tryz.underlying138 Tryz.underlying5 wr34712_12 xv
                    have hzr3471216_16 : xv.data.toList = x.val := HXV.out
                    rw [hzr3471216_16] at hyr3471216_16
                    have qr3471216_16 := Lib.hid (Aid.own_front (raw_new qr34712_12.out hbr3471216_16 hyr3471216_16))
                    clear hbr3471216_16 hyr3471216_16 hzr3471216_16
                    obtain ⟨gr3471216_16, hgr3471216_16⟩ : ∃ g, g = wr34712_12.heap.size := ⟨_, rfl⟩
                    rw [← hgr3471216_16] at qr3471216_16 hcr3471216_16
                    clear hgr3471216_16
                    go_simp
                    refine hK.out _ _ (ent_cells (qr3471216_16.out.has (Has.r (Has.r (Has.r (Has.r (Has.l (has_blk _ _ _)))))))) (fun hHeld => ?_)
                    clear hK K
                    (try simp only [Act.put, List.setIfInBounds_toArray, List.set_cons_zero, List.set_cons_succ])
                    clear hcr3471216_16
                    refine wpAnyH_ready (rs := [13]) (by kernel_rfl) (by simp) ?_
                    refine' AllReadyH.cons (o := ?or347121613) ?hr347121613 ?kr347121613 AllReadyH.nil
                    case hr347121613 => (simp only [List.getElem?_toArray, List.getElem?_cons_succ, List.getElem?_cons_zero]; rfl)
                    case kr347121613 =>
                      intro K hK
                      have cxr347121613_13 := Lib.hid (Src.ofSlice (P := Tryz.prog) (size := 1) wr3471216_16 Tryz.underlying138 ⟨gr34712_12, 0, none⟩ 2 2 [.int .u8 o8, .int .u8 lv] rfl (fun j u hu => by rw [addr_zero, (qr3471216_16.out.has (Has.r (Has.r (Has.l (has_blk _ _ _))))).cell]; simpa using hu) (by intro u hu; simp at hu; rcases hu with rfl | rfl <;> rfl))
                      refine step_append_vec rfl (.tmp 83) (.tmp 91) 138 138 rfl 5 (.int .u8 0) 1 1 Tryz.underlying138 byteInfo rfl (by decide) (.slice Ar34_4 (20 + sizeL (n.list.take k) + xk.size) cr34_4) (20 + sizeL (n.list.take k) + xk.size) (Lib.byteCells (headL n ++ (n.list.take k).flatMap bEnt) ++ (Lib.byteCells x.key)) rfl qr3471216_16.out.vec (.slice (some ⟨gr34712_12, 0, none⟩) 2 2) rfl 2 [.int .u8 o8, .int .u8 lv] cxr347121613_13.out (by unfold maxLen; omega) (by omega) ?_
                      intro vr347121613_13 wr347121613_13 hvr347121613_13 hcr347121613_13 hfr347121613_13
                      have qr347121613_13 := Lib.hid (qr3471216_16.out.app hvr347121613_13 hcr347121613_13 hfr347121613_13)
                      obtain ⟨Ar347121613_13, cr347121613_13, rfl⟩ := hvr347121613_13.slice
                      clear hvr347121613_13 hcr347121613_13 hfr347121613_13 cxr347121613_13
                      refine hK.out _ _ (ent_cells (qr347121613_13.out.has (Has.r (Has.r (Has.r (Has.r (Has.l (has_blk _ _ _)))))))) (fun hHeld => ?_)
                      clear hK K
                      (try simp only [Act.put, List.setIfInBounds_toArray, List.set_cons_zero, List.set_cons_succ])
                      refine wpAnyH_ready (rs := [17]) (by kernel_rfl) (by simp) ?_
                      refine' AllReadyH.cons (o := ?or34712161317) ?hr34712161317 ?kr34712161317 AllReadyH.nil
                      case hr34712161317 => (simp only [List.getElem?_toArray, List.getElem?_cons_succ, List.getElem?_cons_zero]; rfl)
                      case kr34712161317 =>
                        intro K hK
                        have cxr34712161317_17 := Lib.hid (src_raw (P := Tryz.prog) Tryz.underlying138 (qr347121613_13.out.raws (Raws.r (Raws.l (raws_raw _ _)))) cr3471216_16 xv.size HZxv.out)
                        refine step_append_vec rfl (.tmp 92) (.tmp 95) 138 138 rfl 5 (.int .u8 0) 1 1 Tryz.underlying138 byteInfo rfl (by decide) (.slice Ar347121613_13 (20 + sizeL (n.list.take k) + xk.size + 2) cr347121613_13) (20 + sizeL (n.list.take k) + xk.size + 2) (Lib.byteCells (headL n ++ (n.list.take k).flatMap bEnt) ++ (Lib.byteCells x.key) ++ [.int .u8 o8, .int .u8 lv]) rfl qr347121613_13.out.vec (.slice (some ⟨gr3471216_16, 0, none⟩) xv.size cr3471216_16) rfl xv.size (Lib.byteCells x.val) cxr34712161317_17.out (by unfold maxLen; omega) (by omega) ?_
                        intro vr34712161317_17 wr34712161317_17 hvr34712161317_17 hcr34712161317_17 hfr34712161317_17
                        have qr34712161317_17 := Lib.hid (qr347121613_13.out.app hvr34712161317_17 hcr34712161317_17 hfr34712161317_17)
                        obtain ⟨Ar34712161317_17, cr34712161317_17, rfl⟩ := hvr34712161317_17.slice
                        clear hvr34712161317_17 hcr34712161317_17 hfr34712161317_17 cxr34712161317_17
                        refine hK.out _ _ (ent_cells (qr34712161317_17.out.has (Has.r (Has.r (Has.r (Has.r (Has.l (has_blk _ _ _)))))))) (fun hHeld => ?_)
                        clear hK K
                        (try simp only [Act.put, List.setIfInBounds_toArray, List.set_cons_zero, List.set_cons_succ])
                        refine' wpAnyH_take (i := 18) (oi := ?or34712161317z18) (v := ?vr34712161317z18) ?hr34712161317z18 ?sr34712161317z18 ?fr34712161317z18 ?zr34712161317z18 ?qr34712161317z18 ?yr34712161317z18 ?ar34712161317z18 ?rr34712161317z18
                        case hr34712161317z18 => (simp only [List.getElem?_toArray, List.getElem?_cons_succ, List.getElem?_cons_zero]; rfl)
                        case sr34712161317z18 => kernel_rfl
                        case fr34712161317z18 => kernel_rfl
                        case zr34712161317z18 => kernel_rfl
                        case qr34712161317z18 => exact fun _ _ _ h => h
                        case yr34712161317z18 => (refine Or.inl ⟨rfl, ?_⟩; intro w hSw; (try dsimp only at hSw); go_simp; try with_reducible rfl)
                        case ar34712161317z18 => assumption
                        case rr34712161317z18 =>
                        simp only [Act.put, List.setIfInBounds_toArray, List.set_cons_zero, List.set_cons_succ]
                        refine wpAnyH_done (by kernel_rfl) ?_ _
                        have hN : 20 + sizeL (n.list.take k) + xk.size + 2 + xv.size = 20 + sizeL (n.list.take (k + 1)) := by have := HZxk.out; have := HZxv.out; have := HSZ.out; have := HK9.out; omega
                        have hL : Lib.byteCells (headL n ++ (n.list.take k).flatMap bEnt) ++ (Lib.byteCells x.key) ++ [.int .u8 o8, .int .u8 lv] ++ (Lib.byteCells x.val) = Lib.byteCells (headL n ++ (n.list.take (k + 1)).flatMap bEnt) := HFT.out
                        have qf := Lib.hid (Aid.own_front (Aid.own_front (Aid.own_front (Aid.own_front qr34712161317_17.out).right).right).right).right
                        have HN' := Lib.hid hN
                        have HL' := Lib.hid hL
                        clear hL hN hHeld
                        go_wp2_with fail
                        (first | go_round | go_roundw)
                        case rel => exact ⟨k + 1, by omega, by go_num, by rw [← HL'.out, ← HN'.out]; exact qf⟩
                        case measure => simp [intOf]; omega
                case mr34712 =>
                refine' AllReadyH.cons (o := ?or34716) ?hr34716 ?kr34716 AllReadyH.nil
                case hr34716 => (simp only [List.getElem?_toArray, List.getElem?_cons_succ, List.getElem?_cons_zero]; rfl)
                case kr34716 =>
                  intro K hK
                  obtain ⟨cr34716_16, wr34716_16, hcr34716_16, hbr34716_16, hyr34716_16⟩ := to_bytes (P := Tryz.prog) Tryz.underlying9 Tryz.underlying138 Tryz.underlying5 wr34_4 xv
                  have hzr34716_16 : xv.data.toList = x.val := HXV.out
                  rw [hzr34716_16] at hyr34716_16
                  have qr34716_16 := Lib.hid (Aid.own_front (raw_new qr34_4.out hbr34716_16 hyr34716_16))
                  clear hbr34716_16 hyr34716_16 hzr34716_16
                  obtain ⟨gr34716_16, hgr34716_16⟩ : ∃ g, g = wr34_4.heap.size := ⟨_, rfl⟩
                  rw [← hgr34716_16] at qr34716_16 hcr34716_16
                  clear hgr34716_16
                  go_simp
                  refine hK.out _ _ (ent_cells (qr34716_16.out.has (Has.r (Has.r (Has.r (Has.l (has_blk _ _ _))))))) (fun hHeld => ?_)
                  clear hK K
                  (try simp only [Act.put, List.setIfInBounds_toArray, List.set_cons_zero, List.set_cons_succ])
                  clear hcr34716_16
                  refine wpAnyH_ready (rs := [12]) (by kernel_rfl) (by simp) ?_
                  refine' AllReadyH.cons (o := ?or3471612) ?hr3471612 ?kr3471612 AllReadyH.nil
                  case hr3471612 => (simp only [List.getElem?_toArray, List.getElem?_cons_succ, List.getElem?_cons_zero]; rfl)
                  case kr3471612 =>
                    intro K hK
                    have qr3471612_12 := Lib.hid (Aid.own_front (qr34716_16.out.alloc #[.int .u8 o8, .int .u8 lv] 5))
                    go_simp
                    obtain ⟨gr3471612_12, hgr3471612_12⟩ : ∃ g, g = wr34716_16.heap.size := ⟨_, rfl⟩
                    rw [← hgr3471612_12] at qr3471612_12 ⊢
                    clear hgr3471612_12
                    generalize wr34716_16.alloc _ = wr3471612_12 at *
                    refine hK.out _ _ (ent_cells (qr3471612_12.out.has (Has.r (Has.r (Has.r (Has.r (Has.l (has_blk _ _ _)))))))) (fun hHeld => ?_)
                    clear hK K
                    (try simp only [Act.put, List.setIfInBounds_toArray, List.set_cons_zero, List.set_cons_succ])
                    refine wpAnyH_ready (rs := [13]) (by kernel_rfl) (by simp) ?_
                    refine' AllReadyH.cons (o := ?or347161213) ?hr347161213 ?kr347161213 AllReadyH.nil
                    case hr347161213 => (simp only [List.getElem?_toArray, List.getElem?_cons_succ, List.getElem?_cons_zero]; rfl)
                    case kr347161213 =>
                      intro K hK
                      have cxr347161213_13 := Lib.hid (Src.ofSlice (P := Tryz.prog) (size := 1) wr3471612_12 Tryz.underlying138 ⟨gr3471612_12, 0, none⟩ 2 2 [.int .u8 o8, .int .u8 lv] rfl (fun j u hu => by rw [addr_zero, (qr3471612_12.out.has (Has.r (Has.l (has_blk _ _ _)))).cell]; simpa using hu) (by intro u hu; simp at hu; rcases hu with rfl | rfl <;> rfl))
                      refine step_append_vec rfl (.tmp 83) (.tmp 91) 138 138 rfl 5 (.int .u8 0) 1 1 Tryz.underlying138 byteInfo rfl (by decide) (.slice Ar34_4 (20 + sizeL (n.list.take k) + xk.size) cr34_4) (20 + sizeL (n.list.take k) + xk.size) (Lib.byteCells (headL n ++ (n.list.take k).flatMap bEnt) ++ (Lib.byteCells x.key)) rfl qr3471612_12.out.vec (.slice (some ⟨gr3471612_12, 0, none⟩) 2 2) rfl 2 [.int .u8 o8, .int .u8 lv] cxr347161213_13.out (by unfold maxLen; omega) (by omega) ?_
                      intro vr347161213_13 wr347161213_13 hvr347161213_13 hcr347161213_13 hfr347161213_13
                      have qr347161213_13 := Lib.hid (qr3471612_12.out.app hvr347161213_13 hcr347161213_13 hfr347161213_13)
                      obtain ⟨Ar347161213_13, cr347161213_13, rfl⟩ := hvr347161213_13.slice
                      clear hvr347161213_13 hcr347161213_13 hfr347161213_13 cxr347161213_13
                      refine hK.out _ _ (ent_cells (qr347161213_13.out.has (Has.r (Has.r (Has.r (Has.r (Has.l (has_blk _ _ _)))))))) (fun hHeld => ?_)
                      clear hK K
                      (try simp only [Act.put, List.setIfInBounds_toArray, List.set_cons_zero, List.set_cons_succ])
                      refine wpAnyH_ready (rs := [17]) (by kernel_rfl) (by simp) ?_
                      refine' AllReadyH.cons (o := ?or34716121317) ?hr34716121317 ?kr34716121317 AllReadyH.nil
                      case hr34716121317 => (simp only [List.getElem?_toArray, List.getElem?_cons_succ, List.getElem?_cons_zero]; rfl)
                      case kr34716121317 =>
                        intro K hK
                        have cxr34716121317_17 := Lib.hid (src_raw (P := Tryz.prog) Tryz.underlying138 (qr347161213_13.out.raws (Raws.r (Raws.r (Raws.l (raws_raw _ _))))) cr34716_16 xv.size HZxv.out)
                        refine step_append_vec rfl (.tmp 92) (.tmp 95) 138 138 rfl 5 (.int .u8 0) 1 1 Tryz.underlying138 byteInfo rfl (by decide) (.slice Ar347161213_13 (20 + sizeL (n.list.take k) + xk.size + 2) cr347161213_13) (20 + sizeL (n.list.take k) + xk.size + 2) (Lib.byteCells (headL n ++ (n.list.take k).flatMap bEnt) ++ (Lib.byteCells x.key) ++ [.int .u8 o8, .int .u8 lv]) rfl qr347161213_13.out.vec (.slice (some ⟨gr34716_16, 0, none⟩) xv.size cr34716_16) rfl xv.size (Lib.byteCells x.val) cxr34716121317_17.out (by unfold maxLen; omega) (by omega) ?_
                        intro vr34716121317_17 wr34716121317_17 hvr34716121317_17 hcr34716121317_17 hfr34716121317_17
                        have qr34716121317_17 := Lib.hid (qr347161213_13.out.app hvr34716121317_17 hcr34716121317_17 hfr34716121317_17)
                        obtain ⟨Ar34716121317_17, cr34716121317_17, rfl⟩ := hvr34716121317_17.slice
                        clear hvr34716121317_17 hcr34716121317_17 hfr34716121317_17 cxr34716121317_17
                        refine hK.out _ _ (ent_cells (qr34716121317_17.out.has (Has.r (Has.r (Has.r (Has.r (Has.l (has_blk _ _ _)))))))) (fun hHeld => ?_)
                        clear hK K
                        (try simp only [Act.put, List.setIfInBounds_toArray, List.set_cons_zero, List.set_cons_succ])
                        refine' wpAnyH_take (i := 18) (oi := ?or34716121317z18) (v := ?vr34716121317z18) ?hr34716121317z18 ?sr34716121317z18 ?fr34716121317z18 ?zr34716121317z18 ?qr34716121317z18 ?yr34716121317z18 ?ar34716121317z18 ?rr34716121317z18
                        case hr34716121317z18 => (simp only [List.getElem?_toArray, List.getElem?_cons_succ, List.getElem?_cons_zero]; rfl)
                        case sr34716121317z18 => kernel_rfl
                        case fr34716121317z18 => kernel_rfl
                        case zr34716121317z18 => kernel_rfl
                        case qr34716121317z18 => exact fun _ _ _ h => h
                        case yr34716121317z18 => (refine Or.inl ⟨rfl, ?_⟩; intro w hSw; (try dsimp only at hSw); go_simp; try with_reducible rfl)
                        case ar34716121317z18 => assumption
                        case rr34716121317z18 =>
                        simp only [Act.put, List.setIfInBounds_toArray, List.set_cons_zero, List.set_cons_succ]
                        refine wpAnyH_done (by kernel_rfl) ?_ _
                        have hN : 20 + sizeL (n.list.take k) + xk.size + 2 + xv.size = 20 + sizeL (n.list.take (k + 1)) := by have := HZxk.out; have := HZxv.out; have := HSZ.out; have := HK9.out; omega
                        have hL : Lib.byteCells (headL n ++ (n.list.take k).flatMap bEnt) ++ (Lib.byteCells x.key) ++ [.int .u8 o8, .int .u8 lv] ++ (Lib.byteCells x.val) = Lib.byteCells (headL n ++ (n.list.take (k + 1)).flatMap bEnt) := HFT.out
                        have qf := Lib.hid (Aid.own_front (Aid.own_front (Aid.own_front (Aid.own_front qr34716121317_17.out).right).right).right).right
                        have HN' := Lib.hid hN
                        have HL' := Lib.hid hL
                        clear hL hN hHeld
                        go_wp2_with fail
                        (first | go_round | go_roundw)
                        case rel => exact ⟨k + 1, by omega, by go_num, by rw [← HL'.out, ← HN'.out]; exact qf⟩
                        case measure => simp [intOf]; omega
              case mr347 =>
              refine' AllReadyH.cons (o := ?or3416) ?hr3416 ?kr3416 AllReadyH.nil
              case hr3416 => (simp only [List.getElem?_toArray, List.getElem?_cons_succ, List.getElem?_cons_zero]; rfl)
              case kr3416 =>
                intro K hK
                obtain ⟨cr3416_16, wr3416_16, hcr3416_16, hbr3416_16, hyr3416_16⟩ := to_bytes (P := Tryz.prog) Tryz.underlying9 Tryz.underlying138 Tryz.underlying5 wr34_4 xv
                have hzr3416_16 : xv.data.toList = x.val := HXV.out
                rw [hzr3416_16] at hyr3416_16
                have qr3416_16 := Lib.hid (Aid.own_front (raw_new qr34_4.out hbr3416_16 hyr3416_16))
                clear hbr3416_16 hyr3416_16 hzr3416_16
                obtain ⟨gr3416_16, hgr3416_16⟩ : ∃ g, g = wr34_4.heap.size := ⟨_, rfl⟩
                rw [← hgr3416_16] at qr3416_16 hcr3416_16
                clear hgr3416_16
                go_simp
                refine hK.out _ _ (ent_cells (qr3416_16.out.has (Has.r (Has.r (Has.r (Has.l (has_blk _ _ _))))))) (fun hHeld => ?_)
                clear hK K
                (try simp only [Act.put, List.setIfInBounds_toArray, List.set_cons_zero, List.set_cons_succ])
                clear hcr3416_16
                refine wpAnyH_ready (rs := [7]) (by kernel_rfl) (by simp) ?_
                refine' AllReadyH.cons (o := ?or34167) ?hr34167 ?kr34167 AllReadyH.nil
                case hr34167 => (simp only [List.getElem?_toArray, List.getElem?_cons_succ, List.getElem?_cons_zero]; rfl)
                case kr34167 =>
                  intro K hK
                  go_simp
                  go_at_call 127
                  refine (E8.out _).mono ?_
                  rintro e w' ⟨rfl, hw7⟩
                  have hw8 := hw7.symm
                  subst hw8
                  clear hw7
                  refine hK.out _ _ (ent_cells (qr3416_16.out.has (Has.r (Has.r (Has.r (Has.l (has_blk _ _ _))))))) (fun hHeld => ?_)
                  clear hK K
                  (try simp only [Act.put, List.setIfInBounds_toArray, List.set_cons_zero, List.set_cons_succ])
                  refine wpAnyH_ready (rs := [12]) (by kernel_rfl) (by simp) ?_
                  refine' AllReadyH.cons (o := ?or3416712) ?hr3416712 ?kr3416712 AllReadyH.nil
                  case hr3416712 => (simp only [List.getElem?_toArray, List.getElem?_cons_succ, List.getElem?_cons_zero]; rfl)
                  case kr3416712 =>
                    intro K hK
                    have qr3416712_12 := Lib.hid (Aid.own_front (qr3416_16.out.alloc #[.int .u8 o8, .int .u8 lv] 5))
                    go_simp
                    obtain ⟨gr3416712_12, hgr3416712_12⟩ : ∃ g, g = wr3416_16.heap.size := ⟨_, rfl⟩
                    rw [← hgr3416712_12] at qr3416712_12 ⊢
                    clear hgr3416712_12
                    generalize wr3416_16.alloc _ = wr3416712_12 at *
                    refine hK.out _ _ (ent_cells (qr3416712_12.out.has (Has.r (Has.r (Has.r (Has.r (Has.l (has_blk _ _ _)))))))) (fun hHeld => ?_)
                    clear hK K
                    (try simp only [Act.put, List.setIfInBounds_toArray, List.set_cons_zero, List.set_cons_succ])
                    refine wpAnyH_ready (rs := [13]) (by kernel_rfl) (by simp) ?_
                    refine' AllReadyH.cons (o := ?or341671213) ?hr341671213 ?kr341671213 AllReadyH.nil
                    case hr341671213 => (simp only [List.getElem?_toArray, List.getElem?_cons_succ, List.getElem?_cons_zero]; rfl)
                    case kr341671213 =>
                      intro K hK
                      have cxr341671213_13 := Lib.hid (Src.ofSlice (P := Tryz.prog) (size := 1) wr3416712_12 Tryz.underlying138 ⟨gr3416712_12, 0, none⟩ 2 2 [.int .u8 o8, .int .u8 lv] rfl (fun j u hu => by rw [addr_zero, (qr3416712_12.out.has (Has.r (Has.l (has_blk _ _ _)))).cell]; simpa using hu) (by intro u hu; simp at hu; rcases hu with rfl | rfl <;> rfl))
                      refine step_append_vec rfl (.tmp 83) (.tmp 91) 138 138 rfl 5 (.int .u8 0) 1 1 Tryz.underlying138 byteInfo rfl (by decide) (.slice Ar34_4 (20 + sizeL (n.list.take k) + xk.size) cr34_4) (20 + sizeL (n.list.take k) + xk.size) (Lib.byteCells (headL n ++ (n.list.take k).flatMap bEnt) ++ (Lib.byteCells x.key)) rfl qr3416712_12.out.vec (.slice (some ⟨gr3416712_12, 0, none⟩) 2 2) rfl 2 [.int .u8 o8, .int .u8 lv] cxr341671213_13.out (by unfold maxLen; omega) (by omega) ?_
                      intro vr341671213_13 wr341671213_13 hvr341671213_13 hcr341671213_13 hfr341671213_13
                      have qr341671213_13 := Lib.hid (qr3416712_12.out.app hvr341671213_13 hcr341671213_13 hfr341671213_13)
                      obtain ⟨Ar341671213_13, cr341671213_13, rfl⟩ := hvr341671213_13.slice
                      clear hvr341671213_13 hcr341671213_13 hfr341671213_13 cxr341671213_13
                      refine hK.out _ _ (ent_cells (qr341671213_13.out.has (Has.r (Has.r (Has.r (Has.r (Has.l (has_blk _ _ _)))))))) (fun hHeld => ?_)
                      clear hK K
                      (try simp only [Act.put, List.setIfInBounds_toArray, List.set_cons_zero, List.set_cons_succ])
                      refine wpAnyH_ready (rs := [17]) (by kernel_rfl) (by simp) ?_
                      refine' AllReadyH.cons (o := ?or34167121317) ?hr34167121317 ?kr34167121317 AllReadyH.nil
                      case hr34167121317 => (simp only [List.getElem?_toArray, List.getElem?_cons_succ, List.getElem?_cons_zero]; rfl)
                      case kr34167121317 =>
                        intro K hK
                        have cxr34167121317_17 := Lib.hid (src_raw (P := Tryz.prog) Tryz.underlying138 (qr341671213_13.out.raws (Raws.r (Raws.r (Raws.l (raws_raw _ _))))) cr3416_16 xv.size HZxv.out)
                        refine step_append_vec rfl (.tmp 92) (.tmp 95) 138 138 rfl 5 (.int .u8 0) 1 1 Tryz.underlying138 byteInfo rfl (by decide) (.slice Ar341671213_13 (20 + sizeL (n.list.take k) + xk.size + 2) cr341671213_13) (20 + sizeL (n.list.take k) + xk.size + 2) (Lib.byteCells (headL n ++ (n.list.take k).flatMap bEnt) ++ (Lib.byteCells x.key) ++ [.int .u8 o8, .int .u8 lv]) rfl qr341671213_13.out.vec (.slice (some ⟨gr3416_16, 0, none⟩) xv.size cr3416_16) rfl xv.size (Lib.byteCells x.val) cxr34167121317_17.out (by unfold maxLen; omega) (by omega) ?_
                        intro vr34167121317_17 wr34167121317_17 hvr34167121317_17 hcr34167121317_17 hfr34167121317_17
                        have qr34167121317_17 := Lib.hid (qr341671213_13.out.app hvr34167121317_17 hcr34167121317_17 hfr34167121317_17)
                        obtain ⟨Ar34167121317_17, cr34167121317_17, rfl⟩ := hvr34167121317_17.slice
                        clear hvr34167121317_17 hcr34167121317_17 hfr34167121317_17 cxr34167121317_17
                        refine hK.out _ _ (ent_cells (qr34167121317_17.out.has (Has.r (Has.r (Has.r (Has.r (Has.l (has_blk _ _ _)))))))) (fun hHeld => ?_)
                        clear hK K
                        (try simp only [Act.put, List.setIfInBounds_toArray, List.set_cons_zero, List.set_cons_succ])
                        refine' wpAnyH_take (i := 18) (oi := ?or34167121317z18) (v := ?vr34167121317z18) ?hr34167121317z18 ?sr34167121317z18 ?fr34167121317z18 ?zr34167121317z18 ?qr34167121317z18 ?yr34167121317z18 ?ar34167121317z18 ?rr34167121317z18
                        case hr34167121317z18 => (simp only [List.getElem?_toArray, List.getElem?_cons_succ, List.getElem?_cons_zero]; rfl)
                        case sr34167121317z18 => kernel_rfl
                        case fr34167121317z18 => kernel_rfl
                        case zr34167121317z18 => kernel_rfl
                        case qr34167121317z18 => exact fun _ _ _ h => h
                        case yr34167121317z18 => (refine Or.inl ⟨rfl, ?_⟩; intro w hSw; (try dsimp only at hSw); go_simp; try with_reducible rfl)
                        case ar34167121317z18 => assumption
                        case rr34167121317z18 =>
                        simp only [Act.put, List.setIfInBounds_toArray, List.set_cons_zero, List.set_cons_succ]
                        refine wpAnyH_done (by kernel_rfl) ?_ _
                        have hN : 20 + sizeL (n.list.take k) + xk.size + 2 + xv.size = 20 + sizeL (n.list.take (k + 1)) := by have := HZxk.out; have := HZxv.out; have := HSZ.out; have := HK9.out; omega
                        have hL : Lib.byteCells (headL n ++ (n.list.take k).flatMap bEnt) ++ (Lib.byteCells x.key) ++ [.int .u8 o8, .int .u8 lv] ++ (Lib.byteCells x.val) = Lib.byteCells (headL n ++ (n.list.take (k + 1)).flatMap bEnt) := HFT.out
                        have qf := Lib.hid (Aid.own_front (Aid.own_front (Aid.own_front (Aid.own_front qr34167121317_17.out).right).right).right).right
                        have HN' := Lib.hid hN
                        have HL' := Lib.hid hL
                        clear hL hN hHeld
                        go_wp2_with fail
                        (first | go_round | go_roundw)
                        case rel => exact ⟨k + 1, by omega, by go_num, by rw [← HL'.out, ← HN'.out]; exact qf⟩
                        case measure => simp [intOf]; omega
            case mr34 =>
            refine' AllReadyH.cons (o := ?or316) ?hr316 ?kr316 AllReadyH.nil
            case hr316 => (simp only [List.getElem?_toArray, List.getElem?_cons_succ, List.getElem?_cons_zero]; rfl)
            case kr316 =>
              intro K hK
              obtain ⟨cr316_16, wr316_16, hcr316_16, hbr316_16, hyr316_16⟩ := to_bytes (P := Tryz.prog) Tryz.underlying9 Tryz.underlying138 Tryz.underlying5 wr3_3 xv
              have hzr316_16 : xv.data.toList = x.val := HXV.out
              rw [hzr316_16] at hyr316_16
              have qr316_16 := Lib.hid (Aid.own_front (raw_new qr3_3.out hbr316_16 hyr316_16))
              clear hbr316_16 hyr316_16 hzr316_16
              obtain ⟨gr316_16, hgr316_16⟩ : ∃ g, g = wr3_3.heap.size := ⟨_, rfl⟩
              rw [← hgr316_16] at qr316_16 hcr316_16
              clear hgr316_16
              go_simp
              refine hK.out _ _ (ent_cells (qr316_16.out.has (Has.r (Has.r (Has.r (Has.l (has_blk _ _ _))))))) (fun hHeld => ?_)
              clear hK K
              (try simp only [Act.put, List.setIfInBounds_toArray, List.set_cons_zero, List.set_cons_succ])
              clear hcr316_16
              refine wpAnyH_ready (rs := [4]) (by kernel_rfl) (by simp) ?_
              refine' AllReadyH.cons (o := ?or3164) ?hr3164 ?kr3164 AllReadyH.nil
              case hr3164 => (simp only [List.getElem?_toArray, List.getElem?_cons_succ, List.getElem?_cons_zero]; rfl)
              case kr3164 =>
                intro K hK
                have cxr3164_4 := Lib.hid (src_raw (P := Tryz.prog) Tryz.underlying138 (qr316_16.out.raws (Raws.r (Raws.r (Raws.l (raws_raw _ _))))) cr3_3 xk.size HZxk.out)
                refine step_append_vec rfl (.tmp 79) (.tmp 82) 138 138 rfl 5 (.int .u8 0) 1 1 Tryz.underlying138 byteInfo rfl (by decide) (.slice A2 (20 + sizeL (n.list.take k)) c2) (20 + sizeL (n.list.take k)) (Lib.byteCells (headL n ++ (n.list.take k).flatMap bEnt)) rfl qr316_16.out.vec (.slice (some ⟨gr3_3, 0, none⟩) xk.size cr3_3) rfl xk.size (Lib.byteCells x.key) cxr3164_4.out (by unfold maxLen; omega) (by omega) ?_
                intro vr3164_4 wr3164_4 hvr3164_4 hcr3164_4 hfr3164_4
                have qr3164_4 := Lib.hid (qr316_16.out.app hvr3164_4 hcr3164_4 hfr3164_4)
                obtain ⟨Ar3164_4, cr3164_4, rfl⟩ := hvr3164_4.slice
                clear hvr3164_4 hcr3164_4 hfr3164_4 cxr3164_4
                refine hK.out _ _ (ent_cells (qr3164_4.out.has (Has.r (Has.r (Has.r (Has.l (has_blk _ _ _))))))) (fun hHeld => ?_)
                clear hK K
                (try simp only [Act.put, List.setIfInBounds_toArray, List.set_cons_zero, List.set_cons_succ])
                refine wpAnyH_ready (rs := [7]) (by kernel_rfl) (by simp) ?_
                refine' AllReadyH.cons (o := ?or31647) ?hr31647 ?kr31647 AllReadyH.nil
                case hr31647 => (simp only [List.getElem?_toArray, List.getElem?_cons_succ, List.getElem?_cons_zero]; rfl)
                case kr31647 =>
                  intro K hK
                  go_simp
                  go_at_call 127
                  refine (E8.out _).mono ?_
                  rintro e w' ⟨rfl, hw7⟩
                  have hw8 := hw7.symm
                  subst hw8
                  clear hw7
                  refine hK.out _ _ (ent_cells (qr3164_4.out.has (Has.r (Has.r (Has.r (Has.l (has_blk _ _ _))))))) (fun hHeld => ?_)
                  clear hK K
                  (try simp only [Act.put, List.setIfInBounds_toArray, List.set_cons_zero, List.set_cons_succ])
                  refine wpAnyH_ready (rs := [12]) (by kernel_rfl) (by simp) ?_
                  refine' AllReadyH.cons (o := ?or3164712) ?hr3164712 ?kr3164712 AllReadyH.nil
                  case hr3164712 => (simp only [List.getElem?_toArray, List.getElem?_cons_succ, List.getElem?_cons_zero]; rfl)
                  case kr3164712 =>
                    intro K hK
                    have qr3164712_12 := Lib.hid (Aid.own_front (qr3164_4.out.alloc #[.int .u8 o8, .int .u8 lv] 5))
                    go_simp
                    obtain ⟨gr3164712_12, hgr3164712_12⟩ : ∃ g, g = wr3164_4.heap.size := ⟨_, rfl⟩
                    rw [← hgr3164712_12] at qr3164712_12 ⊢
                    clear hgr3164712_12
                    generalize wr3164_4.alloc _ = wr3164712_12 at *
                    refine hK.out _ _ (ent_cells (qr3164712_12.out.has (Has.r (Has.r (Has.r (Has.r (Has.l (has_blk _ _ _)))))))) (fun hHeld => ?_)
                    clear hK K
                    (try simp only [Act.put, List.setIfInBounds_toArray, List.set_cons_zero, List.set_cons_succ])
                    refine wpAnyH_ready (rs := [13]) (by kernel_rfl) (by simp) ?_
                    refine' AllReadyH.cons (o := ?or316471213) ?hr316471213 ?kr316471213 AllReadyH.nil
                    case hr316471213 => (simp only [List.getElem?_toArray, List.getElem?_cons_succ, List.getElem?_cons_zero]; rfl)
                    case kr316471213 =>
                      intro K hK
                      have cxr316471213_13 := Lib.hid (Src.ofSlice (P := Tryz.prog) (size := 1) wr3164712_12 Tryz.underlying138 ⟨gr3164712_12, 0, none⟩ 2 2 [.int .u8 o8, .int .u8 lv] rfl (fun j u hu => by rw [addr_zero, (qr3164712_12.out.has (Has.r (Has.l (has_blk _ _ _)))).cell]; simpa using hu) (by intro u hu; simp at hu; rcases hu with rfl | rfl <;> rfl))
                      refine step_append_vec rfl (.tmp 83) (.tmp 91) 138 138 rfl 5 (.int .u8 0) 1 1 Tryz.underlying138 byteInfo rfl (by decide) (.slice Ar3164_4 (20 + sizeL (n.list.take k) + xk.size) cr3164_4) (20 + sizeL (n.list.take k) + xk.size) (Lib.byteCells (headL n ++ (n.list.take k).flatMap bEnt) ++ (Lib.byteCells x.key)) rfl qr3164712_12.out.vec (.slice (some ⟨gr3164712_12, 0, none⟩) 2 2) rfl 2 [.int .u8 o8, .int .u8 lv] cxr316471213_13.out (by unfold maxLen; omega) (by omega) ?_
                      intro vr316471213_13 wr316471213_13 hvr316471213_13 hcr316471213_13 hfr316471213_13
                      have qr316471213_13 := Lib.hid (qr3164712_12.out.app hvr316471213_13 hcr316471213_13 hfr316471213_13)
                      obtain ⟨Ar316471213_13, cr316471213_13, rfl⟩ := hvr316471213_13.slice
                      clear hvr316471213_13 hcr316471213_13 hfr316471213_13 cxr316471213_13
                      refine hK.out _ _ (ent_cells (qr316471213_13.out.has (Has.r (Has.r (Has.r (Has.r (Has.l (has_blk _ _ _)))))))) (fun hHeld => ?_)
                      clear hK K
                      (try simp only [Act.put, List.setIfInBounds_toArray, List.set_cons_zero, List.set_cons_succ])
                      refine wpAnyH_ready (rs := [17]) (by kernel_rfl) (by simp) ?_
                      refine' AllReadyH.cons (o := ?or31647121317) ?hr31647121317 ?kr31647121317 AllReadyH.nil
                      case hr31647121317 => (simp only [List.getElem?_toArray, List.getElem?_cons_succ, List.getElem?_cons_zero]; rfl)
                      case kr31647121317 =>
                        intro K hK
                        have cxr31647121317_17 := Lib.hid (src_raw (P := Tryz.prog) Tryz.underlying138 (qr316471213_13.out.raws (Raws.r (Raws.r (Raws.l (raws_raw _ _))))) cr316_16 xv.size HZxv.out)
                        refine step_append_vec rfl (.tmp 92) (.tmp 95) 138 138 rfl 5 (.int .u8 0) 1 1 Tryz.underlying138 byteInfo rfl (by decide) (.slice Ar316471213_13 (20 + sizeL (n.list.take k) + xk.size + 2) cr316471213_13) (20 + sizeL (n.list.take k) + xk.size + 2) (Lib.byteCells (headL n ++ (n.list.take k).flatMap bEnt) ++ (Lib.byteCells x.key) ++ [.int .u8 o8, .int .u8 lv]) rfl qr316471213_13.out.vec (.slice (some ⟨gr316_16, 0, none⟩) xv.size cr316_16) rfl xv.size (Lib.byteCells x.val) cxr31647121317_17.out (by unfold maxLen; omega) (by omega) ?_
                        intro vr31647121317_17 wr31647121317_17 hvr31647121317_17 hcr31647121317_17 hfr31647121317_17
                        have qr31647121317_17 := Lib.hid (qr316471213_13.out.app hvr31647121317_17 hcr31647121317_17 hfr31647121317_17)
                        obtain ⟨Ar31647121317_17, cr31647121317_17, rfl⟩ := hvr31647121317_17.slice
                        clear hvr31647121317_17 hcr31647121317_17 hfr31647121317_17 cxr31647121317_17
                        refine hK.out _ _ (ent_cells (qr31647121317_17.out.has (Has.r (Has.r (Has.r (Has.r (Has.l (has_blk _ _ _)))))))) (fun hHeld => ?_)
                        clear hK K
                        (try simp only [Act.put, List.setIfInBounds_toArray, List.set_cons_zero, List.set_cons_succ])
                        refine' wpAnyH_take (i := 18) (oi := ?or31647121317z18) (v := ?vr31647121317z18) ?hr31647121317z18 ?sr31647121317z18 ?fr31647121317z18 ?zr31647121317z18 ?qr31647121317z18 ?yr31647121317z18 ?ar31647121317z18 ?rr31647121317z18
                        case hr31647121317z18 => (simp only [List.getElem?_toArray, List.getElem?_cons_succ, List.getElem?_cons_zero]; rfl)
                        case sr31647121317z18 => kernel_rfl
                        case fr31647121317z18 => kernel_rfl
                        case zr31647121317z18 => kernel_rfl
                        case qr31647121317z18 => exact fun _ _ _ h => h
                        case yr31647121317z18 => (refine Or.inl ⟨rfl, ?_⟩; intro w hSw; (try dsimp only at hSw); go_simp; try with_reducible rfl)
                        case ar31647121317z18 => assumption
                        case rr31647121317z18 =>
                        simp only [Act.put, List.setIfInBounds_toArray, List.set_cons_zero, List.set_cons_succ]
                        refine wpAnyH_done (by kernel_rfl) ?_ _
                        have hN : 20 + sizeL (n.list.take k) + xk.size + 2 + xv.size = 20 + sizeL (n.list.take (k + 1)) := by have := HZxk.out; have := HZxv.out; have := HSZ.out; have := HK9.out; omega
                        have hL : Lib.byteCells (headL n ++ (n.list.take k).flatMap bEnt) ++ (Lib.byteCells x.key) ++ [.int .u8 o8, .int .u8 lv] ++ (Lib.byteCells x.val) = Lib.byteCells (headL n ++ (n.list.take (k + 1)).flatMap bEnt) := HFT.out
                        have qf := Lib.hid (Aid.own_front (Aid.own_front (Aid.own_front (Aid.own_front qr31647121317_17.out).right).right).right).right
                        have HN' := Lib.hid hN
                        have HL' := Lib.hid hL
                        clear hL hN hHeld
                        go_wp2_with fail
                        (first | go_round | go_roundw)
                        case rel => exact ⟨k + 1, by omega, by go_num, by rw [← HL'.out, ← HN'.out]; exact qf⟩
                        case measure => simp [intOf]; omega
          case mr3 =>
          refine' AllReadyH.cons (o := ?or16) ?hr16 ?kr16 AllReadyH.nil
          case hr16 => (simp only [List.getElem?_toArray, List.getElem?_cons_succ, List.getElem?_cons_zero]; rfl)
          case kr16 =>
            intro K hK
            obtain ⟨cr16_16, wr16_16, hcr16_16, hbr16_16, hyr16_16⟩ := to_bytes (P := Tryz.prog) Tryz.underlying9 Tryz.underlying138 Tryz.underlying5 wb xv
            have hzr16_16 : xv.data.toList = x.val := HXV.out
            rw [hzr16_16] at hyr16_16
            have qr16_16 := Lib.hid (Aid.own_front (raw_new Q0.out hbr16_16 hyr16_16))
            clear hbr16_16 hyr16_16 hzr16_16
            obtain ⟨gr16_16, hgr16_16⟩ : ∃ g, g = wb.heap.size := ⟨_, rfl⟩
            rw [← hgr16_16] at qr16_16 hcr16_16
            clear hgr16_16
            go_simp
            refine hK.out _ _ (ent_cells (qr16_16.out.has (Has.r (Has.r (Has.l (has_blk _ _ _)))))) (fun hHeld => ?_)
            clear hK K
            (try simp only [Act.put, List.setIfInBounds_toArray, List.set_cons_zero, List.set_cons_succ])
            clear hcr16_16
            refine wpAnyH_ready (rs := [3]) (by kernel_rfl) (by simp) ?_
            refine' AllReadyH.cons (o := ?or163) ?hr163 ?kr163 AllReadyH.nil
            case hr163 => (simp only [List.getElem?_toArray, List.getElem?_cons_succ, List.getElem?_cons_zero]; rfl)
            case kr163 =>
              intro K hK
              obtain ⟨cr163_3, wr163_3, hcr163_3, hbr163_3, hyr163_3⟩ := to_bytes (P := Tryz.prog) Tryz.underlying9 Tryz.underlying138 Tryz.underlying5 wr16_16 xk
              have hzr163_3 : xk.data.toList = x.key := HXK.out
              rw [hzr163_3] at hyr163_3
              have qr163_3 := Lib.hid (Aid.own_front (raw_new qr16_16.out hbr163_3 hyr163_3))
              clear hbr163_3 hyr163_3 hzr163_3
              obtain ⟨gr163_3, hgr163_3⟩ : ∃ g, g = wr16_16.heap.size := ⟨_, rfl⟩
              rw [← hgr163_3] at qr163_3 hcr163_3
              clear hgr163_3
              go_simp
              refine hK.out _ _ (ent_cells (qr163_3.out.has (Has.r (Has.r (Has.r (Has.l (has_blk _ _ _))))))) (fun hHeld => ?_)
              clear hK K
              (try simp only [Act.put, List.setIfInBounds_toArray, List.set_cons_zero, List.set_cons_succ])
              clear hcr163_3
              refine wpAnyH_ready (rs := [4]) (by kernel_rfl) (by simp) ?_
              refine' AllReadyH.cons (o := ?or1634) ?hr1634 ?kr1634 AllReadyH.nil
              case hr1634 => (simp only [List.getElem?_toArray, List.getElem?_cons_succ, List.getElem?_cons_zero]; rfl)
              case kr1634 =>
                intro K hK
                have cxr1634_4 := Lib.hid (src_raw (P := Tryz.prog) Tryz.underlying138 (qr163_3.out.raws (Raws.r (Raws.l (raws_raw _ _)))) cr163_3 xk.size HZxk.out)
                refine step_append_vec rfl (.tmp 79) (.tmp 82) 138 138 rfl 5 (.int .u8 0) 1 1 Tryz.underlying138 byteInfo rfl (by decide) (.slice A2 (20 + sizeL (n.list.take k)) c2) (20 + sizeL (n.list.take k)) (Lib.byteCells (headL n ++ (n.list.take k).flatMap bEnt)) rfl qr163_3.out.vec (.slice (some ⟨gr163_3, 0, none⟩) xk.size cr163_3) rfl xk.size (Lib.byteCells x.key) cxr1634_4.out (by unfold maxLen; omega) (by omega) ?_
                intro vr1634_4 wr1634_4 hvr1634_4 hcr1634_4 hfr1634_4
                have qr1634_4 := Lib.hid (qr163_3.out.app hvr1634_4 hcr1634_4 hfr1634_4)
                obtain ⟨Ar1634_4, cr1634_4, rfl⟩ := hvr1634_4.slice
                clear hvr1634_4 hcr1634_4 hfr1634_4 cxr1634_4
                refine hK.out _ _ (ent_cells (qr1634_4.out.has (Has.r (Has.r (Has.r (Has.l (has_blk _ _ _))))))) (fun hHeld => ?_)
                clear hK K
                (try simp only [Act.put, List.setIfInBounds_toArray, List.set_cons_zero, List.set_cons_succ])
                refine wpAnyH_ready (rs := [7]) (by kernel_rfl) (by simp) ?_
                refine' AllReadyH.cons (o := ?or16347) ?hr16347 ?kr16347 AllReadyH.nil
                case hr16347 => (simp only [List.getElem?_toArray, List.getElem?_cons_succ, List.getElem?_cons_zero]; rfl)
                case kr16347 =>
                  intro K hK
                  go_simp
                  go_at_call 127
                  refine (E8.out _).mono ?_
                  rintro e w' ⟨rfl, hw7⟩
                  have hw8 := hw7.symm
                  subst hw8
                  clear hw7
                  refine hK.out _ _ (ent_cells (qr1634_4.out.has (Has.r (Has.r (Has.r (Has.l (has_blk _ _ _))))))) (fun hHeld => ?_)
                  clear hK K
                  (try simp only [Act.put, List.setIfInBounds_toArray, List.set_cons_zero, List.set_cons_succ])
                  refine wpAnyH_ready (rs := [12]) (by kernel_rfl) (by simp) ?_
                  refine' AllReadyH.cons (o := ?or1634712) ?hr1634712 ?kr1634712 AllReadyH.nil
                  case hr1634712 => (simp only [List.getElem?_toArray, List.getElem?_cons_succ, List.getElem?_cons_zero]; rfl)
                  case kr1634712 =>
                    intro K hK
                    have qr1634712_12 := Lib.hid (Aid.own_front (qr1634_4.out.alloc #[.int .u8 o8, .int .u8 lv] 5))
                    go_simp
                    obtain ⟨gr1634712_12, hgr1634712_12⟩ : ∃ g, g = wr1634_4.heap.size := ⟨_, rfl⟩
                    rw [← hgr1634712_12] at qr1634712_12 ⊢
                    clear hgr1634712_12
                    generalize wr1634_4.alloc _ = wr1634712_12 at *
                    refine hK.out _ _ (ent_cells (qr1634712_12.out.has (Has.r (Has.r (Has.r (Has.r (Has.l (has_blk _ _ _)))))))) (fun hHeld => ?_)
                    clear hK K
                    (try simp only [Act.put, List.setIfInBounds_toArray, List.set_cons_zero, List.set_cons_succ])
                    refine wpAnyH_ready (rs := [13]) (by kernel_rfl) (by simp) ?_
                    refine' AllReadyH.cons (o := ?or163471213) ?hr163471213 ?kr163471213 AllReadyH.nil
                    case hr163471213 => (simp only [List.getElem?_toArray, List.getElem?_cons_succ, List.getElem?_cons_zero]; rfl)
                    case kr163471213 =>
                      intro K hK
                      have cxr163471213_13 := Lib.hid (Src.ofSlice (P := Tryz.prog) (size := 1) wr1634712_12 Tryz.underlying138 ⟨gr1634712_12, 0, none⟩ 2 2 [.int .u8 o8, .int .u8 lv] rfl (fun j u hu => by rw [addr_zero, (qr1634712_12.out.has (Has.r (Has.l (has_blk _ _ _)))).cell]; simpa using hu) (by intro u hu; simp at hu; rcases hu with rfl | rfl <;> rfl))
                      refine step_append_vec rfl (.tmp 83) (.tmp 91) 138 138 rfl 5 (.int .u8 0) 1 1 Tryz.underlying138 byteInfo rfl (by decide) (.slice Ar1634_4 (20 + sizeL (n.list.take k) + xk.size) cr1634_4) (20 + sizeL (n.list.take k) + xk.size) (Lib.byteCells (headL n ++ (n.list.take k).flatMap bEnt) ++ (Lib.byteCells x.key)) rfl qr1634712_12.out.vec (.slice (some ⟨gr1634712_12, 0, none⟩) 2 2) rfl 2 [.int .u8 o8, .int .u8 lv] cxr163471213_13.out (by unfold maxLen; omega) (by omega) ?_
                      intro vr163471213_13 wr163471213_13 hvr163471213_13 hcr163471213_13 hfr163471213_13
                      have qr163471213_13 := Lib.hid (qr1634712_12.out.app hvr163471213_13 hcr163471213_13 hfr163471213_13)
                      obtain ⟨Ar163471213_13, cr163471213_13, rfl⟩ := hvr163471213_13.slice
                      clear hvr163471213_13 hcr163471213_13 hfr163471213_13 cxr163471213_13
                      refine hK.out _ _ (ent_cells (qr163471213_13.out.has (Has.r (Has.r (Has.r (Has.r (Has.l (has_blk _ _ _)))))))) (fun hHeld => ?_)
                      clear hK K
                      (try simp only [Act.put, List.setIfInBounds_toArray, List.set_cons_zero, List.set_cons_succ])
                      refine wpAnyH_ready (rs := [17]) (by kernel_rfl) (by simp) ?_
                      refine' AllReadyH.cons (o := ?or16347121317) ?hr16347121317 ?kr16347121317 AllReadyH.nil
                      case hr16347121317 => (simp only [List.getElem?_toArray, List.getElem?_cons_succ, List.getElem?_cons_zero]; rfl)
                      case kr16347121317 =>
                        intro K hK
                        have cxr16347121317_17 := Lib.hid (src_raw (P := Tryz.prog) Tryz.underlying138 (qr163471213_13.out.raws (Raws.r (Raws.r (Raws.r (Raws.l (raws_raw _ _)))))) cr16_16 xv.size HZxv.out)
                        refine step_append_vec rfl (.tmp 92) (.tmp 95) 138 138 rfl 5 (.int .u8 0) 1 1 Tryz.underlying138 byteInfo rfl (by decide) (.slice Ar163471213_13 (20 + sizeL (n.list.take k) + xk.size + 2) cr163471213_13) (20 + sizeL (n.list.take k) + xk.size + 2) (Lib.byteCells (headL n ++ (n.list.take k).flatMap bEnt) ++ (Lib.byteCells x.key) ++ [.int .u8 o8, .int .u8 lv]) rfl qr163471213_13.out.vec (.slice (some ⟨gr16_16, 0, none⟩) xv.size cr16_16) rfl xv.size (Lib.byteCells x.val) cxr16347121317_17.out (by unfold maxLen; omega) (by omega) ?_
                        intro vr16347121317_17 wr16347121317_17 hvr16347121317_17 hcr16347121317_17 hfr16347121317_17
                        have qr16347121317_17 := Lib.hid (qr163471213_13.out.app hvr16347121317_17 hcr16347121317_17 hfr16347121317_17)
                        obtain ⟨Ar16347121317_17, cr16347121317_17, rfl⟩ := hvr16347121317_17.slice
                        clear hvr16347121317_17 hcr16347121317_17 hfr16347121317_17 cxr16347121317_17
                        refine hK.out _ _ (ent_cells (qr16347121317_17.out.has (Has.r (Has.r (Has.r (Has.r (Has.l (has_blk _ _ _)))))))) (fun hHeld => ?_)
                        clear hK K
                        (try simp only [Act.put, List.setIfInBounds_toArray, List.set_cons_zero, List.set_cons_succ])
                        refine' wpAnyH_take (i := 18) (oi := ?or16347121317z18) (v := ?vr16347121317z18) ?hr16347121317z18 ?sr16347121317z18 ?fr16347121317z18 ?zr16347121317z18 ?qr16347121317z18 ?yr16347121317z18 ?ar16347121317z18 ?rr16347121317z18
                        case hr16347121317z18 => (simp only [List.getElem?_toArray, List.getElem?_cons_succ, List.getElem?_cons_zero]; rfl)
                        case sr16347121317z18 => kernel_rfl
                        case fr16347121317z18 => kernel_rfl
                        case zr16347121317z18 => kernel_rfl
                        case qr16347121317z18 => exact fun _ _ _ h => h
                        case yr16347121317z18 => (refine Or.inl ⟨rfl, ?_⟩; intro w hSw; (try dsimp only at hSw); go_simp; try with_reducible rfl)
                        case ar16347121317z18 => assumption
                        case rr16347121317z18 =>
                        simp only [Act.put, List.setIfInBounds_toArray, List.set_cons_zero, List.set_cons_succ]
                        refine wpAnyH_done (by kernel_rfl) ?_ _
                        have hN : 20 + sizeL (n.list.take k) + xk.size + 2 + xv.size = 20 + sizeL (n.list.take (k + 1)) := by have := HZxk.out; have := HZxv.out; have := HSZ.out; have := HK9.out; omega
                        have hL : Lib.byteCells (headL n ++ (n.list.take k).flatMap bEnt) ++ (Lib.byteCells x.key) ++ [.int .u8 o8, .int .u8 lv] ++ (Lib.byteCells x.val) = Lib.byteCells (headL n ++ (n.list.take (k + 1)).flatMap bEnt) := HFT.out
                        have qf := Lib.hid (Aid.own_front (Aid.own_front (Aid.own_front (Aid.own_front qr16347121317_17.out).right).right).right).right
                        have HN' := Lib.hid hN
                        have HL' := Lib.hid hL
                        clear hL hN hHeld
                        go_wp2_with fail
                        (first | go_round | go_roundw)
                        case rel => exact ⟨k + 1, by omega, by go_num, by rw [← HL'.out, ← HN'.out]; exact qf⟩
                        case measure => simp [intOf]; omega
        · obtain rfl : k = n.list.length := by omega
          have hbl : (body n).length = sizeN n := body_len HG.out
          have hsm := size_small HG.out
          have Y2 : Hid (Own w No wr (Asn.vec 5 1 (.slice A2 (body n).length c2) (body n).length (Lib.byteCells (body n)) * Asn.blk g 31 #[.int .i64 n.tree, .int .i64 n.level, .int .i64 n.stamp, .bool n.has, .string (ofL n.high), .int .i64 n.right, .slice A1 n.list.length m1])) := by
            have := X.out
            rw [List.take_length, show 20 + sizeL n.list = (body n).length by rw [hbl]; rfl] at this
            exact Lib.hid this
          have hA2 : (Value.slice A2 (20 + sizeL (n.list.take n.list.length)) c2) = .slice A2 (body n).length c2 := by rw [List.take_length, hbl]; rfl
          rw [hA2]
          obtain ⟨lb, hlb⟩ : ∃ x, x = body n := ⟨_, rfl⟩
          have hpage : fill lb = page n := by rw [hlb]; rfl
          rw [← hlb] at Y2 hbl ⊢
          have HPG := Lib.hid hpage
          have hlb2 : lb.length ≤ 11120 := by omega
          clear X hA2 hlb hpage hbl hsm
          obtain ⟨wv, hwv⟩ : ∃ x : World, x = wr := ⟨_, rfl⟩
          rw [← hwv] at Y2 c6 ⊢
          clear hwv
          go_wp2_with fail
          clear c6 hk hlt
          go_loopg [3] (252 - lb.length) (fun gk b wr => ∃ j : Nat, gk = 252 - lb.length - j ∧ j ≤ 252 - lb.length ∧ Hid (Own w No wr (Asn.vec 5 1 b (lb.length + j) (Lib.byteCells (lb ++ List.replicate j 0)) * Asn.blk g 31 #[.int .i64 n.tree, .int .i64 n.level, .int .i64 n.stamp, .bool n.has, .string (ofL n.high), .int .i64 n.right, .slice A1 n.list.length m1])))
          case atStart => exact ⟨0, by omega, Nat.zero_le _, by simpa using Y2⟩
          case round =>
            clear Y2
            obtain ⟨j, hgk, hj, X⟩ := hrel
            obtain ⟨A3, c3, rfl⟩ := X.out.vec.slice
            by_cases hlt : lb.length + j < 252
            · have hcs : Lib.byteCells (lb ++ List.replicate (j + 1) 0) = Lib.byteCells (lb ++ List.replicate j 0) ++ [.int .u8 0] := by
                rw [List.replicate_succ', ← List.append_assoc, cells_app _ [0]]; rfl
              have HCS := Lib.hid hcs
              clear hcs
              have X2 := Lib.hid (X.out.alloc #[.int .u8 0] 5).right
              have CX : Hid (Src Tryz.prog 1 138 (.slice (some ⟨wr.heap.size, 0, none⟩) 1 1) 1 [.int .u8 0] (wr.alloc (.cells #[.int .u8 0] 5))) := Lib.hid (Src.ofSlice _ Tryz.underlying138 _ 1 1 _ rfl (append1 ((Blk.new wr #[.int .u8 0] 5).cell 0)) (by intro u hu; simp at hu; subst hu; rfl))
              go_wp2_with (with_reducible refine wpList_append_vec rfl (.tmp 100) (.tmp 101) 138 138 rfl 5 (.int .u8 0) 1 1 Tryz.underlying138 byteInfo ?y1 ?y2 _ (lb.length + j) (Lib.byteCells (lb ++ List.replicate j 0)) ?y7 X2.out.vec (.slice (some ⟨wr.heap.size, 0, none⟩) 1 1) ?y8 1 _ CX.out ?y3 ?y4 ?_)
              case y1 => rfl
              case y2 => decide
              case y3 => unfold maxLen; omega
              case y4 => omega
              case y7 => rfl
              case y8 => rfl
              intro v' w7 hv hc hf
              have X3 := Lib.hid (X2.out.app hv hc hf)
              obtain ⟨A4, c4, rfl⟩ := hv.slice
              clear X X2 CX hv hc hf
              go_wp2_with fail
              go_roundg (252 - lb.length - (j + 1))
              case measure => omega
              case rel => exact ⟨j + 1, rfl, by omega, by rw [HCS.out, ← Nat.add_assoc]; exact X3⟩
            · obtain rfl : j = 252 - lb.length := by omega
              have hfl : lb ++ List.replicate (252 - lb.length) 0 = page n := HPG.out
              have hpl : (page n).length = lb.length + (252 - lb.length) := by rw [← hfl, List.length_append, List.length_replicate]
              have hN : lb.length + (252 - lb.length) = (page n).length := hpl.symm
              have X9 : Hid (Own w No wr (Asn.vec 5 1 (.slice A3 (lb.length + (252 - lb.length)) c3) (lb.length + (252 - lb.length)) (Lib.byteCells (page n)) * Asn.blk g 31 #[.int .i64 n.tree, .int .i64 n.level, .int .i64 n.stamp, .bool n.has, .string (ofL n.high), .int .i64 n.right, .slice A1 n.list.length m1])) := by rw [← hfl]; exact X
              have F2 : Hid (∀ W, Hid (Own w No W (Asn.vec 5 1 (.slice A3 (lb.length + (252 - lb.length)) c3) (lb.length + (252 - lb.length)) (Lib.byteCells (page n)) * Asn.blk g 31 #[.int .i64 n.tree, .int .i64 n.level, .int .i64 n.stamp, .bool n.has, .string (ofL n.high), .int .i64 n.right, .slice A1 n.list.length m1])) → (convert 138 9 (.slice A3 (lb.length + (252 - lb.length)) c3)).run Tryz.prog W = .ok (.string (ofL (page n))) W) :=
                Lib.hid fun W h => Vec.conv (P := Tryz.prog) (s := ofL (page n)) Tryz.underlying138 Tryz.underlying5 Tryz.underlying9 h.out.vec
              have HO : Hid (∀ W W', Below W.heap.size W W' → Hid (Own w No W (Asn.vec 5 1 (.slice A3 (lb.length + (252 - lb.length)) c3) (lb.length + (252 - lb.length)) (Lib.byteCells (page n)) * Asn.blk g 31 #[.int .i64 n.tree, .int .i64 n.level, .int .i64 n.stamp, .bool n.has, .string (ofL n.high), .int .i64 n.right, .slice A1 n.list.length m1])) → Hid (Own w No W' (Asn.vec 5 1 (.slice A3 (lb.length + (252 - lb.length)) c3) (lb.length + (252 - lb.length)) (Lib.byteCells (page n)) * Asn.blk g 31 #[.int .i64 n.tree, .int .i64 n.level, .int .i64 n.stamp, .bool n.has, .string (ofL n.high), .int .i64 n.right, .slice A1 n.list.length m1]))) := Lib.hid fun W W' hb h => Lib.hid (h.out.below hb)
              have hps : (ofL (page n)).size ≤ 11400 := by show (page n).length ≤ _; omega
              have G1 := Lib.hid (fun w => refSum_any (ofL (page n)) w (by unfold maxLen; omega))
              have G2 := Lib.hid (fun w => refTail_any (crc (ofL (page n)).data.toList) w)
              have hts : (tailS (crc (ofL (page n)).data.toList)).size = 4 := rfl
              have hfin : Hid (ofL (page n) ++ tailS (crc (ofL (page n)).data.toList) = Z) := Lib.hid (by rw [HZ.out]; rfl)
              generalize tailS (crc (ofL (page n)).data.toList) = ts at *
              generalize (crc (ofL (page n)).data.toList) = cc at *
              have hov : ¬ 9223372036854775807 < (ofL (page n)).size + ts.size := by omega
              have hadd := fun W => str_add _ _ hov W
              generalize hpn : ofL (page n) = px at *
              clear hpn X hfl hpl hN hts hps
              go_upto_region 16 with fail
              have SD := Lib.hid X9.out.drew
              have t0 := F2.out _ SD
              go_region_held3 (fun W => ((convert 138 9 (.slice A3 (lb.length + (252 - lb.length)) c3)).run Tryz.prog W = .ok (.string px) W) ∧ Hid (Own w No W (Asn.vec 5 1 (.slice A3 (lb.length + (252 - lb.length)) c3) (lb.length + (252 - lb.length)) (Lib.byteCells (page n)) * Asn.blk g 31 #[.int .i64 n.tree, .int .i64 n.level, .int .i64 n.stamp, .bool n.has, .string (ofL n.high), .int .i64 n.right, .slice A1 n.list.length m1]))) (first | exact ⟨t0, SD⟩ | exact ⟨t20, s20⟩ | exact ⟨t21, s21⟩) (first | (go_at_call 126; refine (G1.out _).mono ?_; rintro e w20 ⟨rfl, hb20⟩; have s20 := HO.out _ _ hb20 SD; have t20 := F2.out _ s20) | (go_at_call 125; refine (G2.out _).mono ?_; rintro e w21 ⟨rfl, hb21⟩; have s21 := HO.out _ _ hb21 s20; have t21 := F2.out _ s21))
              have SZ := Lib.hid s21.out.bel
              go_wp2_with fail
              go_returns
              exact ⟨ret_str hfin.out, SZ.out⟩
end Go.Proofs.YtapdpdhibpblgaaGreatDoor.Nd
