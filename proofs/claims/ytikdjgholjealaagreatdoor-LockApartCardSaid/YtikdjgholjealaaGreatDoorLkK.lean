/- Asking. -/
import Derived.Test.YtikdjgholjealaaGreatDoorLkH
import Derived.Test.YtikdjgholjealaaGreatDoorLkJ
namespace Go.Proofs.YtikdjgholjealaaGreatDoor.Lk
open Go.ChangeShapes Go.WideShapes Go.ChangeAt Go.RowKit Go.PlainAid Aid Md
set_option linter.unusedVariables false
set_option linter.unusedSimpArgs false
section
variable {bb h l wt : Nat} {H : List Hol} {L : List Lin} {W : List Wan} {id mode : Int} {name : By}
set_option maxRecDepth 100000 in
set_option maxHeartbeats 8000000 in
theorem ask_arg (w0 w : World) (C : Asn) (hS : Aid.Own w0 No w (aBk bb h l wt H L W * C)) (ht : Tabs w0) (hi : I64w id) (hn : name.length ≤ 1000) (hA : (wanL W id).isSome = true ∨ joinedZ (md H id name) mode = 0) :
    Calls Tryz.prog 8 #[bPtr bb, .int .i64 id, .string (ofL name), .int .i64 mode] w fun e w' => e = .returned (.int .i64 1) ∧ Aid.Own w0 No w' (aBk bb h l wt H L W * C) := by
  have k := bk_of hS
  have T0 := ht.keep hS.bel
  unfold bPtr
  go_enter Tryz.func8, Tryz.ntmps8
  go_wp2_with fail
  refine (Mode_any id name w k hi hn).mono ?_
  rintro e w' ⟨rfl, hww⟩
  rw [hww]
  clear hww w'
  go_wp2_with fail
  refine (joined_any _ _ w T0).mono ?_
  rintro e w' ⟨rfl, kq, rfl⟩
  have S1 := Lib.hid (hS.drewN kq)
  clear k T0 hS
  generalize w.drewN kq = w1 at *
  obtain ⟨wd, hwd⟩ : ∃ x, x = joinedZ (md H id name) mode := ⟨_, rfl⟩
  rw [← hwd]
  have HWD := Lib.hid hwd
  clear hwd
  have S2 := Lib.hid (S1.out.alloc #[.string (ofL name), .int .i64 wd] 32)
  clear S1
  go_upto_region 5 with fail
  obtain ⟨gh, hgz⟩ : ∃ g, g = w1.heap.size := ⟨_, rfl⟩
  rw [← hgz] at S2 ⊢
  clear hgz
  generalize w1.alloc _ = w2 at *
  have e1 := (bk_of S2.out.right).look_w2 id hi
  have c0 : w2.cell? ⟨bb, 2, none⟩ = some (.map (some wt)) := (bk_of S2.out.right).blk.cell 2
  have S3 := Lib.hid (S2.out.alloc #[.string (ofL (wV W id).1), .int .i64 (wV W id).2] 32)
  clear S2
  go_upto_region 6 with fail
  clear e1 c0
  obtain ⟨gx, hgz⟩ : ∃ g, g = w2.heap.size := ⟨_, rfl⟩
  rw [← hgz] at S3 ⊢
  clear hgz
  generalize w2.alloc _ = w3 at *
  have d0 := (S3.out.has (Has.r (Has.l (has_blk gh _ _)))).cell 0
  have d1 := (S3.out.has (Has.r (Has.l (has_blk gh _ _)))).cell 1
  simp only [List.getElem?_toArray, List.getElem?_cons_zero, List.getElem?_cons_succ] at d0 d1
  rw [← HWD.out] at hA
  cases hw : (wanL W id).isSome with
  | true =>
    go_wp2_with fail
    go_returns
    refine ⟨rfl, ?_⟩
    have SZ := S3.out.re (show _ = (Asn.blk gh 32 #[.string (ofL name), .int .i64 wd] * Asn.blk gx 32 #[.string (ofL (wV W id).1), .int .i64 (wV W id).2]) * (aBk bb h l wt H L W * C) by ac_rfl)
    exact SZ.right
  | false =>
    have hz : wd = 0 := hA.resolve_left (by rw [hw]; decide)
    have hb : ((wd : Int) == 0) = true := by rw [hz]; rfl
    go_wp2_with fail
    go_returns
    refine ⟨rfl, ?_⟩
    have SZ := S3.out.re (show _ = (Asn.blk gh 32 #[.string (ofL name), .int .i64 wd] * Asn.blk gx 32 #[.string (ofL (wV W id).1), .int .i64 (wV W id).2]) * (aBk bb h l wt H L W * C) by ac_rfl)
    exact SZ.right
set_option maxRecDepth 100000 in
set_option maxHeartbeats 8000000 in
theorem ask_same (w0 w : World) (C : Asn) (hS : Aid.Own w0 No w (aBk bb h l wt H L W * C)) (ht : Tabs w0) (hi : I64w id) (hn : name.length ≤ 1000) (hw0 : wanL W id = none) (hj : joinedZ (md H id name) mode ≠ 0) (hs : joinedZ (md H id name) mode = md H id name) :
    Calls Tryz.prog 8 #[bPtr bb, .int .i64 id, .string (ofL name), .int .i64 mode] w fun e w' => e = .returned (.int .i64 0) ∧ Aid.Own w0 No w' (aBk bb h l wt H L W * C) := by
  have k := bk_of hS
  have T0 := ht.keep hS.bel
  unfold bPtr
  go_enter Tryz.func8, Tryz.ntmps8
  go_wp2_with fail
  refine (Mode_any id name w k hi hn).mono ?_
  rintro e w' ⟨rfl, hww⟩
  rw [hww]
  clear hww w'
  go_wp2_with fail
  refine (joined_any _ _ w T0).mono ?_
  rintro e w' ⟨rfl, kq, rfl⟩
  have S1 := Lib.hid (hS.drewN kq)
  clear k T0 hS
  generalize w.drewN kq = w1 at *
  obtain ⟨wd, hwd⟩ : ∃ x, x = joinedZ (md H id name) mode := ⟨_, rfl⟩
  rw [← hwd]
  have HWD := Lib.hid hwd
  clear hwd
  have S2 := Lib.hid (S1.out.alloc #[.string (ofL name), .int .i64 wd] 32)
  clear S1
  go_upto_region 5 with fail
  obtain ⟨gh, hgz⟩ : ∃ g, g = w1.heap.size := ⟨_, rfl⟩
  rw [← hgz] at S2 ⊢
  clear hgz
  generalize w1.alloc _ = w2 at *
  have e1 := (bk_of S2.out.right).look_w2 id hi
  have c0 : w2.cell? ⟨bb, 2, none⟩ = some (.map (some wt)) := (bk_of S2.out.right).blk.cell 2
  have S3 := Lib.hid (S2.out.alloc #[.string (ofL (wV W id).1), .int .i64 (wV W id).2] 32)
  clear S2
  go_upto_region 6 with fail
  clear e1 c0
  obtain ⟨gx, hgz⟩ : ∃ g, g = w2.heap.size := ⟨_, rfl⟩
  rw [← hgz] at S3 ⊢
  clear hgz
  generalize w2.alloc _ = w3 at *
  have d0 := (S3.out.has (Has.r (Has.l (has_blk gh _ _)))).cell 0
  have d1 := (S3.out.has (Has.r (Has.l (has_blk gh _ _)))).cell 1
  simp only [List.getElem?_toArray, List.getElem?_cons_zero, List.getElem?_cons_succ] at d0 d1
  rw [← HWD.out] at hj
  have hb : ((wd : Int) == 0) = false := by simpa using hj
  rw [← HWD.out] at hs
  have hb2 : ((wd : Int) == md H id name) = true := by rw [hs]; simp
  go_wp2_with fail
  go_returns
  refine ⟨rfl, ?_⟩
  have SZ := S3.out.re (show _ = (Asn.blk gh 32 #[.string (ofL name), .int .i64 wd] * Asn.blk gx 32 #[.string (ofL (wV W id).1), .int .i64 (wV W id).2]) * (aBk bb h l wt H L W * C) by ac_rfl)
  exact SZ.right
set_option maxRecDepth 100000 in
set_option maxHeartbeats 8000000 in
theorem ask_full (w0 w : World) (C : Asn) (hS : Aid.Own w0 No w (aBk bb h l wt H L W * C)) (ht : Tabs w0) (hi : I64w id) (hn : name.length ≤ 1000) (hw0 : wanL W id = none) (hj : joinedZ (md H id name) mode ≠ 0) (hm : md H id name = 0) (hc : 300 ≤ cnt H W) (hc2 : cnt H W ≤ 1000000) :
    Calls Tryz.prog 8 #[bPtr bb, .int .i64 id, .string (ofL name), .int .i64 mode] w fun e w' => e = .returned (.int .i64 10) ∧ Aid.Own w0 No w' (aBk bb h l wt H L W * C) := by
  replace hm := Lib.hid hm
  have k := bk_of hS
  have T0 := ht.keep hS.bel
  unfold bPtr
  go_enter Tryz.func8, Tryz.ntmps8
  go_wp2_with fail
  refine (Mode_any id name w k hi hn).mono ?_
  rintro e w' ⟨rfl, hww⟩
  rw [hww]
  clear hww w'
  go_wp2_with fail
  refine (joined_any _ _ w T0).mono ?_
  rintro e w' ⟨rfl, kq, rfl⟩
  have S1 := Lib.hid (hS.drewN kq)
  clear k T0 hS
  generalize w.drewN kq = w1 at *
  obtain ⟨wd, hwd⟩ : ∃ x, x = joinedZ (md H id name) mode := ⟨_, rfl⟩
  rw [← hwd]
  have HWD := Lib.hid hwd
  clear hwd
  have S2 := Lib.hid (S1.out.alloc #[.string (ofL name), .int .i64 wd] 32)
  clear S1
  go_upto_region 5 with fail
  obtain ⟨gh, hgz⟩ : ∃ g, g = w1.heap.size := ⟨_, rfl⟩
  rw [← hgz] at S2 ⊢
  clear hgz
  generalize w1.alloc _ = w2 at *
  have e1 := (bk_of S2.out.right).look_w2 id hi
  have c0 : w2.cell? ⟨bb, 2, none⟩ = some (.map (some wt)) := (bk_of S2.out.right).blk.cell 2
  have S3 := Lib.hid (S2.out.alloc #[.string (ofL (wV W id).1), .int .i64 (wV W id).2] 32)
  clear S2
  go_upto_region 6 with fail
  clear e1 c0
  obtain ⟨gx, hgz⟩ : ∃ g, g = w2.heap.size := ⟨_, rfl⟩
  rw [← hgz] at S3 ⊢
  clear hgz
  generalize w2.alloc _ = w3 at *
  have d0 := (S3.out.has (Has.r (Has.l (has_blk gh _ _)))).cell 0
  have d1 := (S3.out.has (Has.r (Has.l (has_blk gh _ _)))).cell 1
  simp only [List.getElem?_toArray, List.getElem?_cons_zero, List.getElem?_cons_succ] at d0 d1
  rw [← HWD.out] at hj
  have hb : ((wd : Int) == 0) = false := by simpa using hj
  have hb2 : ((wd : Int) == md H id name) = false := by rw [hm.out]; simpa using hj
  have hb3 : ((md H id name : Int) == 0) = true := by rw [hm.out]; rfl
  have hb4 : (300 : Int) ≤ ((cnt H W : Nat) : Int) := by omega
  go_wp2_with fail
  refine (Count_any _ (bk_of S3.out.right.right) hc2).mono ?_
  rintro e w4 ⟨rfl, hX⟩
  have S4 := Lib.hid (S3.out.below hX)
  clear S3 hX d0 d1
  have S3 := S4
  go_wp2_with fail
  go_returns
  refine ⟨rfl, ?_⟩
  have SZ := S3.out.re (show _ = (Asn.blk gh 32 #[.string (ofL name), .int .i64 wd] * Asn.blk gx 32 #[.string (ofL (wV W id).1), .int .i64 (wV W id).2]) * (aBk bb h l wt H L W * C) by ac_rfl)
  exact SZ.right
theorem drop_mid {w0 w : World} {O0 : Nat → Prop} {X Y C : Asn} (h : Aid.Own w0 O0 w (X * (Y * C))) : Aid.Own w0 O0 w (X * C) := (h.re (show _ = Y * (X * C) by ac_rfl)).right
theorem nums_of {w : World} {A : Option Addr} {c : Nat} {ns : List Int} (hv : Vec w 3 1 (.slice A ns.length c) ns.length (nums ns)) : Nums w A ns.length ns := by
  refine ⟨rfl, ?_⟩
  rcases hv.forms with ⟨-, hz⟩ | ⟨g, cap, he, hlt, -, -⟩
  · exact Or.inl (by omega)
  · cases he
    refine Or.inr ⟨g, 0, rfl, hv.lt rfl, fun j hj => ?_⟩
    rw [Nat.zero_add, hv.cell (j := j) (nums_at ns j (ns[j]'hj) (List.getElem?_eq_getElem _)), List.getD_eq_getElem?_getD, List.getElem?_eq_getElem hj]
    rfl
set_option maxRecDepth 100000 in
set_option maxHeartbeats 8000000 in
theorem ask_busy_z (w0 w : World) (C : Asn) (hS : Aid.Own w0 No w (aBk bb h l wt H L W * C)) (ht : Tabs w0) (hi : I64w id) (hn : name.length ≤ 1000) (hw0 : wanL W id = none) (hj : joinedZ (md H id name) mode ≠ 0) (hs : joinedZ (md H id name) mode ≠ md H id name) (hl : (ids L name).length ≤ 100000) (hid : ∀ o, o ∈ ids L name → I64w o) (hm : md H id name = 0) (hc : cnt H W < 300) (hf : blkL H W id name (joinedZ (md H id name) mode) (ids L name) ≠ []) (hL : L.length ≤ 100000) (hW : W.length ≤ 100000) :
    Calls Tryz.prog 8 #[bPtr bb, .int .i64 id, .string (ofL name), .int .i64 mode] w fun e w' => e = .returned (.int .i64 11) ∧ ∃ v, Aid.Own w0 No w' (aBk bb h l wt H ((name, v, entH H (ids L name) id name) :: offL L name) ((id, name, joinedZ (md H id name) mode) :: offW W id) * C) := by
  replace hm := Lib.hid hm
  have k := bk_of hS
  have T0 := ht.keep hS.bel
  unfold bPtr
  go_enter Tryz.func8, Tryz.ntmps8
  go_wp2_with fail
  refine (Mode_any id name w k hi hn).mono ?_
  rintro e w' ⟨rfl, hww⟩
  rw [hww]
  clear hww w'
  go_wp2_with fail
  refine (joined_any _ _ w T0).mono ?_
  rintro e w' ⟨rfl, kq, rfl⟩
  have S1 := Lib.hid (hS.drewN kq)
  clear k T0 hS
  generalize w.drewN kq = w1 at *
  obtain ⟨wd, hwd⟩ : ∃ x, x = joinedZ (md H id name) mode := ⟨_, rfl⟩
  rw [← hwd]
  have HWD := Lib.hid hwd
  clear hwd
  have S2 := Lib.hid (S1.out.alloc #[.string (ofL name), .int .i64 wd] 32)
  clear S1
  go_upto_region 5 with fail
  obtain ⟨gh, hgz⟩ : ∃ g, g = w1.heap.size := ⟨_, rfl⟩
  rw [← hgz] at S2 ⊢
  clear hgz
  generalize w1.alloc _ = w2 at *
  have e1 := (bk_of S2.out.right).look_w2 id hi
  have c0 : w2.cell? ⟨bb, 2, none⟩ = some (.map (some wt)) := (bk_of S2.out.right).blk.cell 2
  have S3 := Lib.hid (S2.out.alloc #[.string (ofL (wV W id).1), .int .i64 (wV W id).2] 32)
  clear S2
  go_upto_region 6 with fail
  clear e1 c0
  obtain ⟨gx, hgz⟩ : ∃ g, g = w2.heap.size := ⟨_, rfl⟩
  rw [← hgz] at S3 ⊢
  clear hgz
  generalize w2.alloc _ = w3 at *
  have d0 := (S3.out.has (Has.r (Has.l (has_blk gh _ _)))).cell 0
  have d1 := (S3.out.has (Has.r (Has.l (has_blk gh _ _)))).cell 1
  simp only [List.getElem?_toArray, List.getElem?_cons_zero, List.getElem?_cons_succ] at d0 d1
  rw [← HWD.out] at hj
  have hb : ((wd : Int) == 0) = false := by simpa using hj
  rw [← HWD.out] at hs
  have hb2 : ((wd : Int) == md H id name) = false := by simpa using hs
  have hb3 : ((md H id name : Int) == 0) = true := by rw [hm.out]; rfl
  have hb4 : ¬ (300 : Int) ≤ ((cnt H W : Nat) : Int) := by omega
  go_wp2_with fail
  refine (Count_any _ (bk_of S3.out.right.right) (by omega)).mono ?_
  rintro e w4 ⟨rfl, hX⟩
  have S4 := Lib.hid (S3.out.below hX)
  clear S3 hX d0 d1
  have k := bk_of S4.out.drew.right.right
  have e2 := k.look_l name hn
  have hvec := k.line name
  obtain ⟨A, c, hvs⟩ := hvec.slice
  rw [hvs] at e2 hvec
  have c1 : w4.drew.cell? ⟨bb, 1, none⟩ = some (.map (some l)) := k.blk.cell 1
  have d0 : w4.drew.cell? ⟨gh, 0, none⟩ = some (.string (ofL name)) := (S4.out.drew.has (Has.r (Has.l (has_blk gh _ _)))).cell 0
  have d1 : w4.drew.cell? ⟨gh, 1, none⟩ = some (.int .i64 wd) := (S4.out.drew.has (Has.r (Has.l (has_blk gh _ _)))).cell 1
  have HNu : Hid (Nums w4.drew A (ids L name).length (ids L name)) := Lib.hid (nums_of hvec)
  have HT := Lib.hid (ht.keep S4.out.drew.bel)
  have HK := Lib.hid k
  have S5 := Lib.hid S4.out.drew
  clear S4 k hvec
  go_wp2_with fail
  refine wp_region_still_tail 9 (by kernel_rfl) (by kernel_rfl) ?_
  simp only [List.take_succ_cons, List.take_zero, List.drop_succ_cons, List.drop_zero]
  change wpStill _ _ w4.drew _ _ _
  repeat still_step
  refine wpStill_nil ?_
  change wpList _ _ _ _ _ w4.drew
  generalize w4.drew = w5 at *
  go_wp2_with fail
  refine (free_any (id := id) (name := name) (mode := wd) (ahead := ids L name) w5 HK.out HT.out HNu.out hi hn hid (by omega)).mono ?_
  rintro e w6 ⟨rfl, hX⟩
  have S6 := Lib.hid (S5.out.below hX)
  have hfd : decide (blkL H W id name wd (ids L name) = []) = false := by rw [← HWD.out] at hf; exact decide_eq_false hf
  rw [hfd]
  clear S5 hX e2 c1 d0 d1 HNu HT HK
  have d0 : w6.cell? ⟨gh, 0, none⟩ = some (.string (ofL name)) := (S6.out.has (Has.r (Has.l (has_blk gh _ _)))).cell 0
  have d1 : w6.cell? ⟨gh, 1, none⟩ = some (.int .i64 wd) := (S6.out.has (Has.r (Has.l (has_blk gh _ _)))).cell 1
  have SR := Lib.hid (S6.out.re (show _ = aBk bb h l wt H L W * ((Asn.blk gh 32 #[.string (ofL name), .int .i64 wd] * Asn.blk gx 32 #[.string (ofL (wV W id).1), .int .i64 (wV W id).2]) * C) by ac_rfl))
  clear S6
  go_wp2_with fail
  refine (enter_any id wd name w0 w6 _ SR.out hi hn hl hL hW hid).mono ?_
  rintro e w7 ⟨rfl, v, hX⟩
  have S7 := Lib.hid hX
  clear hX d0 d1
  go_wp2_with fail
  go_returns
  refine ⟨rfl, v, ?_⟩
  rw [← HWD.out]
  exact drop_mid S7.out
set_option maxRecDepth 100000 in
set_option maxHeartbeats 8000000 in
theorem ask_busy_n (w0 w : World) (C : Asn) (hS : Aid.Own w0 No w (aBk bb h l wt H L W * C)) (ht : Tabs w0) (hi : I64w id) (hn : name.length ≤ 1000) (hw0 : wanL W id = none) (hj : joinedZ (md H id name) mode ≠ 0) (hs : joinedZ (md H id name) mode ≠ md H id name) (hl : (ids L name).length ≤ 100000) (hid : ∀ o, o ∈ ids L name → I64w o) (hm : md H id name ≠ 0) (hf : blkL H W id name (joinedZ (md H id name) mode) (ids L name) ≠ []) (hL : L.length ≤ 100000) (hW : W.length ≤ 100000) :
    Calls Tryz.prog 8 #[bPtr bb, .int .i64 id, .string (ofL name), .int .i64 mode] w fun e w' => e = .returned (.int .i64 11) ∧ ∃ v, Aid.Own w0 No w' (aBk bb h l wt H ((name, v, entH H (ids L name) id name) :: offL L name) ((id, name, joinedZ (md H id name) mode) :: offW W id) * C) := by
  replace hm := Lib.hid hm
  have k := bk_of hS
  have T0 := ht.keep hS.bel
  unfold bPtr
  go_enter Tryz.func8, Tryz.ntmps8
  go_wp2_with fail
  refine (Mode_any id name w k hi hn).mono ?_
  rintro e w' ⟨rfl, hww⟩
  rw [hww]
  clear hww w'
  go_wp2_with fail
  refine (joined_any _ _ w T0).mono ?_
  rintro e w' ⟨rfl, kq, rfl⟩
  have S1 := Lib.hid (hS.drewN kq)
  clear k T0 hS
  generalize w.drewN kq = w1 at *
  obtain ⟨wd, hwd⟩ : ∃ x, x = joinedZ (md H id name) mode := ⟨_, rfl⟩
  rw [← hwd]
  have HWD := Lib.hid hwd
  clear hwd
  have S2 := Lib.hid (S1.out.alloc #[.string (ofL name), .int .i64 wd] 32)
  clear S1
  go_upto_region 5 with fail
  obtain ⟨gh, hgz⟩ : ∃ g, g = w1.heap.size := ⟨_, rfl⟩
  rw [← hgz] at S2 ⊢
  clear hgz
  generalize w1.alloc _ = w2 at *
  have e1 := (bk_of S2.out.right).look_w2 id hi
  have c0 : w2.cell? ⟨bb, 2, none⟩ = some (.map (some wt)) := (bk_of S2.out.right).blk.cell 2
  have S3 := Lib.hid (S2.out.alloc #[.string (ofL (wV W id).1), .int .i64 (wV W id).2] 32)
  clear S2
  go_upto_region 6 with fail
  clear e1 c0
  obtain ⟨gx, hgz⟩ : ∃ g, g = w2.heap.size := ⟨_, rfl⟩
  rw [← hgz] at S3 ⊢
  clear hgz
  generalize w2.alloc _ = w3 at *
  have d0 := (S3.out.has (Has.r (Has.l (has_blk gh _ _)))).cell 0
  have d1 := (S3.out.has (Has.r (Has.l (has_blk gh _ _)))).cell 1
  simp only [List.getElem?_toArray, List.getElem?_cons_zero, List.getElem?_cons_succ] at d0 d1
  rw [← HWD.out] at hj
  have hb : ((wd : Int) == 0) = false := by simpa using hj
  rw [← HWD.out] at hs
  have hb2 : ((wd : Int) == md H id name) = false := by simpa using hs
  have hb3 : ((md H id name : Int) == 0) = false := by simpa using hm.out
  go_upto_region 12 with fail
  have S4 := S3
  clear S3 d0 d1
  have k := bk_of S4.out.drew.right.right
  have e2 := k.look_l name hn
  have hvec := k.line name
  obtain ⟨A, c, hvs⟩ := hvec.slice
  rw [hvs] at e2 hvec
  have c1 : w3.drew.cell? ⟨bb, 1, none⟩ = some (.map (some l)) := k.blk.cell 1
  have d0 : w3.drew.cell? ⟨gh, 0, none⟩ = some (.string (ofL name)) := (S4.out.drew.has (Has.r (Has.l (has_blk gh _ _)))).cell 0
  have d1 : w3.drew.cell? ⟨gh, 1, none⟩ = some (.int .i64 wd) := (S4.out.drew.has (Has.r (Has.l (has_blk gh _ _)))).cell 1
  have HNu : Hid (Nums w3.drew A (ids L name).length (ids L name)) := Lib.hid (nums_of hvec)
  have HT := Lib.hid (ht.keep S4.out.drew.bel)
  have HK := Lib.hid k
  have S5 := Lib.hid S4.out.drew
  clear S4 k hvec
  go_wp2_with fail
  refine wp_region_still_tail 9 (by kernel_rfl) (by kernel_rfl) ?_
  simp only [List.take_succ_cons, List.take_zero, List.drop_succ_cons, List.drop_zero]
  change wpStill _ _ w3.drew _ _ _
  repeat still_step
  refine wpStill_nil ?_
  change wpList _ _ _ _ _ w3.drew
  generalize w3.drew = w5 at *
  go_wp2_with fail
  refine (free_any (id := id) (name := name) (mode := wd) (ahead := ids L name) w5 HK.out HT.out HNu.out hi hn hid (by omega)).mono ?_
  rintro e w6 ⟨rfl, hX⟩
  have S6 := Lib.hid (S5.out.below hX)
  have hfd : decide (blkL H W id name wd (ids L name) = []) = false := by rw [← HWD.out] at hf; exact decide_eq_false hf
  rw [hfd]
  clear S5 hX e2 c1 d0 d1 HNu HT HK
  have d0 : w6.cell? ⟨gh, 0, none⟩ = some (.string (ofL name)) := (S6.out.has (Has.r (Has.l (has_blk gh _ _)))).cell 0
  have d1 : w6.cell? ⟨gh, 1, none⟩ = some (.int .i64 wd) := (S6.out.has (Has.r (Has.l (has_blk gh _ _)))).cell 1
  have SR := Lib.hid (S6.out.re (show _ = aBk bb h l wt H L W * ((Asn.blk gh 32 #[.string (ofL name), .int .i64 wd] * Asn.blk gx 32 #[.string (ofL (wV W id).1), .int .i64 (wV W id).2]) * C) by ac_rfl))
  clear S6
  go_wp2_with fail
  refine (enter_any id wd name w0 w6 _ SR.out hi hn hl hL hW hid).mono ?_
  rintro e w7 ⟨rfl, v, hX⟩
  have S7 := Lib.hid hX
  clear hX d0 d1
  go_wp2_with fail
  go_returns
  refine ⟨rfl, v, ?_⟩
  rw [← HWD.out]
  exact drop_mid S7.out
set_option maxRecDepth 100000 in
set_option maxHeartbeats 8000000 in
theorem ask_hold_z (w0 w : World) (C : Asn) (hS : Aid.Own w0 No w (aBk bb h l wt H L W * C)) (ht : Tabs w0) (hi : I64w id) (hn : name.length ≤ 1000) (hw0 : wanL W id = none) (hj : joinedZ (md H id name) mode ≠ 0) (hs : joinedZ (md H id name) mode ≠ md H id name) (hl : (ids L name).length ≤ 100000) (hid : ∀ o, o ∈ ids L name → I64w o) (hm : md H id name = 0) (hc : cnt H W < 300) (hf : blkL H W id name (joinedZ (md H id name) mode) (ids L name) = []) (x : Hol) (hx : holL H name = some x) (hlx : x.2.2.length ≤ 100000) :
    Calls Tryz.prog 8 #[bPtr bb, .int .i64 id, .string (ofL name), .int .i64 mode] w fun e w' => e = .returned (.int .i64 0) ∧ Aid.Own w0 No w' (aBk bb h l wt ((x.1, x.2.1, setL x.2.2 id (joinedZ (md H id name) mode)) :: offH H name) L W * C) := by
  replace hm := Lib.hid hm
  have k := bk_of hS
  have T0 := ht.keep hS.bel
  unfold bPtr
  go_enter Tryz.func8, Tryz.ntmps8
  go_wp2_with fail
  refine (Mode_any id name w k hi hn).mono ?_
  rintro e w' ⟨rfl, hww⟩
  rw [hww]
  clear hww w'
  go_wp2_with fail
  refine (joined_any _ _ w T0).mono ?_
  rintro e w' ⟨rfl, kq, rfl⟩
  have S1 := Lib.hid (hS.drewN kq)
  clear k T0 hS
  generalize w.drewN kq = w1 at *
  obtain ⟨wd, hwd⟩ : ∃ x, x = joinedZ (md H id name) mode := ⟨_, rfl⟩
  rw [← hwd]
  have HWD := Lib.hid hwd
  clear hwd
  have S2 := Lib.hid (S1.out.alloc #[.string (ofL name), .int .i64 wd] 32)
  clear S1
  go_upto_region 5 with fail
  obtain ⟨gh, hgz⟩ : ∃ g, g = w1.heap.size := ⟨_, rfl⟩
  rw [← hgz] at S2 ⊢
  clear hgz
  generalize w1.alloc _ = w2 at *
  have e1 := (bk_of S2.out.right).look_w2 id hi
  have c0 : w2.cell? ⟨bb, 2, none⟩ = some (.map (some wt)) := (bk_of S2.out.right).blk.cell 2
  have S3 := Lib.hid (S2.out.alloc #[.string (ofL (wV W id).1), .int .i64 (wV W id).2] 32)
  clear S2
  go_upto_region 6 with fail
  clear e1 c0
  obtain ⟨gx, hgz⟩ : ∃ g, g = w2.heap.size := ⟨_, rfl⟩
  rw [← hgz] at S3 ⊢
  clear hgz
  generalize w2.alloc _ = w3 at *
  have d0 := (S3.out.has (Has.r (Has.l (has_blk gh _ _)))).cell 0
  have d1 := (S3.out.has (Has.r (Has.l (has_blk gh _ _)))).cell 1
  simp only [List.getElem?_toArray, List.getElem?_cons_zero, List.getElem?_cons_succ] at d0 d1
  rw [← HWD.out] at hj
  have hb : ((wd : Int) == 0) = false := by simpa using hj
  rw [← HWD.out] at hs
  have hb2 : ((wd : Int) == md H id name) = false := by simpa using hs
  have hb3 : ((md H id name : Int) == 0) = true := by rw [hm.out]; rfl
  have hb4 : ¬ (300 : Int) ≤ ((cnt H W : Nat) : Int) := by omega
  go_wp2_with fail
  refine (Count_any _ (bk_of S3.out.right.right) (by omega)).mono ?_
  rintro e w4 ⟨rfl, hX⟩
  have S4 := Lib.hid (S3.out.below hX)
  clear S3 hX d0 d1
  have k := bk_of S4.out.drew.right.right
  have e2 := k.look_l name hn
  have hvec := k.line name
  obtain ⟨A, c, hvs⟩ := hvec.slice
  rw [hvs] at e2 hvec
  have c1 : w4.drew.cell? ⟨bb, 1, none⟩ = some (.map (some l)) := k.blk.cell 1
  have d0 : w4.drew.cell? ⟨gh, 0, none⟩ = some (.string (ofL name)) := (S4.out.drew.has (Has.r (Has.l (has_blk gh _ _)))).cell 0
  have d1 : w4.drew.cell? ⟨gh, 1, none⟩ = some (.int .i64 wd) := (S4.out.drew.has (Has.r (Has.l (has_blk gh _ _)))).cell 1
  have HNu : Hid (Nums w4.drew A (ids L name).length (ids L name)) := Lib.hid (nums_of hvec)
  have HT := Lib.hid (ht.keep S4.out.drew.bel)
  have HK := Lib.hid k
  have S5 := Lib.hid S4.out.drew
  clear S4 k hvec
  go_wp2_with fail
  refine wp_region_still_tail 9 (by kernel_rfl) (by kernel_rfl) ?_
  simp only [List.take_succ_cons, List.take_zero, List.drop_succ_cons, List.drop_zero]
  change wpStill _ _ w4.drew _ _ _
  repeat still_step
  refine wpStill_nil ?_
  change wpList _ _ _ _ _ w4.drew
  generalize w4.drew = w5 at *
  go_wp2_with fail
  refine (free_any (id := id) (name := name) (mode := wd) (ahead := ids L name) w5 HK.out HT.out HNu.out hi hn hid (by omega)).mono ?_
  rintro e w6 ⟨rfl, hX⟩
  have S6 := Lib.hid (S5.out.below hX)
  have hfd : decide (blkL H W id name wd (ids L name) = []) = true := by rw [← HWD.out] at hf; exact decide_eq_true hf
  rw [hfd]
  clear S5 hX e2 c1 d0 d1 HNu HT HK
  have d0 : w6.cell? ⟨gh, 0, none⟩ = some (.string (ofL name)) := (S6.out.has (Has.r (Has.l (has_blk gh _ _)))).cell 0
  have d1 : w6.cell? ⟨gh, 1, none⟩ = some (.int .i64 wd) := (S6.out.has (Has.r (Has.l (has_blk gh _ _)))).cell 1
  have SR := Lib.hid (S6.out.re (show _ = aBk bb h l wt H L W * ((Asn.blk gh 32 #[.string (ofL name), .int .i64 wd] * Asn.blk gx 32 #[.string (ofL (wV W id).1), .int .i64 (wV W id).2]) * C) by ac_rfl))
  clear S6
  go_wp2_with fail
  refine (hold_some x id wd name w0 w6 _ SR.out hi hn hx hlx).mono ?_
  rintro e w7 ⟨rfl, hX⟩
  have S7 := Lib.hid hX
  clear hX d0 d1
  go_wp2_with fail
  go_returns
  refine ⟨rfl, ?_⟩
  rw [← HWD.out]
  exact drop_mid S7.out
set_option maxRecDepth 100000 in
set_option maxHeartbeats 8000000 in
theorem ask_hold_n (w0 w : World) (C : Asn) (hS : Aid.Own w0 No w (aBk bb h l wt H L W * C)) (ht : Tabs w0) (hi : I64w id) (hn : name.length ≤ 1000) (hw0 : wanL W id = none) (hj : joinedZ (md H id name) mode ≠ 0) (hs : joinedZ (md H id name) mode ≠ md H id name) (hl : (ids L name).length ≤ 100000) (hid : ∀ o, o ∈ ids L name → I64w o) (hm : md H id name ≠ 0) (hf : blkL H W id name (joinedZ (md H id name) mode) (ids L name) = []) (x : Hol) (hx : holL H name = some x) (hlx : x.2.2.length ≤ 100000) :
    Calls Tryz.prog 8 #[bPtr bb, .int .i64 id, .string (ofL name), .int .i64 mode] w fun e w' => e = .returned (.int .i64 0) ∧ Aid.Own w0 No w' (aBk bb h l wt ((x.1, x.2.1, setL x.2.2 id (joinedZ (md H id name) mode)) :: offH H name) L W * C) := by
  replace hm := Lib.hid hm
  have k := bk_of hS
  have T0 := ht.keep hS.bel
  unfold bPtr
  go_enter Tryz.func8, Tryz.ntmps8
  go_wp2_with fail
  refine (Mode_any id name w k hi hn).mono ?_
  rintro e w' ⟨rfl, hww⟩
  rw [hww]
  clear hww w'
  go_wp2_with fail
  refine (joined_any _ _ w T0).mono ?_
  rintro e w' ⟨rfl, kq, rfl⟩
  have S1 := Lib.hid (hS.drewN kq)
  clear k T0 hS
  generalize w.drewN kq = w1 at *
  obtain ⟨wd, hwd⟩ : ∃ x, x = joinedZ (md H id name) mode := ⟨_, rfl⟩
  rw [← hwd]
  have HWD := Lib.hid hwd
  clear hwd
  have S2 := Lib.hid (S1.out.alloc #[.string (ofL name), .int .i64 wd] 32)
  clear S1
  go_upto_region 5 with fail
  obtain ⟨gh, hgz⟩ : ∃ g, g = w1.heap.size := ⟨_, rfl⟩
  rw [← hgz] at S2 ⊢
  clear hgz
  generalize w1.alloc _ = w2 at *
  have e1 := (bk_of S2.out.right).look_w2 id hi
  have c0 : w2.cell? ⟨bb, 2, none⟩ = some (.map (some wt)) := (bk_of S2.out.right).blk.cell 2
  have S3 := Lib.hid (S2.out.alloc #[.string (ofL (wV W id).1), .int .i64 (wV W id).2] 32)
  clear S2
  go_upto_region 6 with fail
  clear e1 c0
  obtain ⟨gx, hgz⟩ : ∃ g, g = w2.heap.size := ⟨_, rfl⟩
  rw [← hgz] at S3 ⊢
  clear hgz
  generalize w2.alloc _ = w3 at *
  have d0 := (S3.out.has (Has.r (Has.l (has_blk gh _ _)))).cell 0
  have d1 := (S3.out.has (Has.r (Has.l (has_blk gh _ _)))).cell 1
  simp only [List.getElem?_toArray, List.getElem?_cons_zero, List.getElem?_cons_succ] at d0 d1
  rw [← HWD.out] at hj
  have hb : ((wd : Int) == 0) = false := by simpa using hj
  rw [← HWD.out] at hs
  have hb2 : ((wd : Int) == md H id name) = false := by simpa using hs
  have hb3 : ((md H id name : Int) == 0) = false := by simpa using hm.out
  go_upto_region 12 with fail
  have S4 := S3
  clear S3 d0 d1
  have k := bk_of S4.out.drew.right.right
  have e2 := k.look_l name hn
  have hvec := k.line name
  obtain ⟨A, c, hvs⟩ := hvec.slice
  rw [hvs] at e2 hvec
  have c1 : w3.drew.cell? ⟨bb, 1, none⟩ = some (.map (some l)) := k.blk.cell 1
  have d0 : w3.drew.cell? ⟨gh, 0, none⟩ = some (.string (ofL name)) := (S4.out.drew.has (Has.r (Has.l (has_blk gh _ _)))).cell 0
  have d1 : w3.drew.cell? ⟨gh, 1, none⟩ = some (.int .i64 wd) := (S4.out.drew.has (Has.r (Has.l (has_blk gh _ _)))).cell 1
  have HNu : Hid (Nums w3.drew A (ids L name).length (ids L name)) := Lib.hid (nums_of hvec)
  have HT := Lib.hid (ht.keep S4.out.drew.bel)
  have HK := Lib.hid k
  have S5 := Lib.hid S4.out.drew
  clear S4 k hvec
  go_wp2_with fail
  refine wp_region_still_tail 9 (by kernel_rfl) (by kernel_rfl) ?_
  simp only [List.take_succ_cons, List.take_zero, List.drop_succ_cons, List.drop_zero]
  change wpStill _ _ w3.drew _ _ _
  repeat still_step
  refine wpStill_nil ?_
  change wpList _ _ _ _ _ w3.drew
  generalize w3.drew = w5 at *
  go_wp2_with fail
  refine (free_any (id := id) (name := name) (mode := wd) (ahead := ids L name) w5 HK.out HT.out HNu.out hi hn hid (by omega)).mono ?_
  rintro e w6 ⟨rfl, hX⟩
  have S6 := Lib.hid (S5.out.below hX)
  have hfd : decide (blkL H W id name wd (ids L name) = []) = true := by rw [← HWD.out] at hf; exact decide_eq_true hf
  rw [hfd]
  clear S5 hX e2 c1 d0 d1 HNu HT HK
  have d0 : w6.cell? ⟨gh, 0, none⟩ = some (.string (ofL name)) := (S6.out.has (Has.r (Has.l (has_blk gh _ _)))).cell 0
  have d1 : w6.cell? ⟨gh, 1, none⟩ = some (.int .i64 wd) := (S6.out.has (Has.r (Has.l (has_blk gh _ _)))).cell 1
  have SR := Lib.hid (S6.out.re (show _ = aBk bb h l wt H L W * ((Asn.blk gh 32 #[.string (ofL name), .int .i64 wd] * Asn.blk gx 32 #[.string (ofL (wV W id).1), .int .i64 (wV W id).2]) * C) by ac_rfl))
  clear S6
  go_wp2_with fail
  refine (hold_some x id wd name w0 w6 _ SR.out hi hn hx hlx).mono ?_
  rintro e w7 ⟨rfl, hX⟩
  have S7 := Lib.hid hX
  clear hX d0 d1
  go_wp2_with fail
  go_returns
  refine ⟨rfl, ?_⟩
  rw [← HWD.out]
  exact drop_mid S7.out
set_option maxRecDepth 100000 in
set_option maxHeartbeats 8000000 in
theorem ask_new (w0 w : World) (C : Asn) (hS : Aid.Own w0 No w (aBk bb h l wt H L W * C)) (ht : Tabs w0) (hi : I64w id) (hn : name.length ≤ 1000) (hw0 : wanL W id = none) (hj : joinedZ (md H id name) mode ≠ 0) (hs : joinedZ (md H id name) mode ≠ md H id name) (hl : (ids L name).length ≤ 100000) (hid : ∀ o, o ∈ ids L name → I64w o) (hm : md H id name = 0) (hc : cnt H W < 300) (hf : blkL H W id name (joinedZ (md H id name) mode) (ids L name) = []) (hx : holL H name = none) (hlH : H.length ≤ 100000) :
    Calls Tryz.prog 8 #[bPtr bb, .int .i64 id, .string (ofL name), .int .i64 mode] w fun e w' => e = .returned (.int .i64 0) ∧ ∃ nb, Aid.Own w0 No w' (aBk bb h l wt ((name, nb, [(id, joinedZ (md H id name) mode)]) :: H) L W * C) := by
  replace hm := Lib.hid hm
  have k := bk_of hS
  have T0 := ht.keep hS.bel
  unfold bPtr
  go_enter Tryz.func8, Tryz.ntmps8
  go_wp2_with fail
  refine (Mode_any id name w k hi hn).mono ?_
  rintro e w' ⟨rfl, hww⟩
  rw [hww]
  clear hww w'
  go_wp2_with fail
  refine (joined_any _ _ w T0).mono ?_
  rintro e w' ⟨rfl, kq, rfl⟩
  have S1 := Lib.hid (hS.drewN kq)
  clear k T0 hS
  generalize w.drewN kq = w1 at *
  obtain ⟨wd, hwd⟩ : ∃ x, x = joinedZ (md H id name) mode := ⟨_, rfl⟩
  rw [← hwd]
  have HWD := Lib.hid hwd
  clear hwd
  have S2 := Lib.hid (S1.out.alloc #[.string (ofL name), .int .i64 wd] 32)
  clear S1
  go_upto_region 5 with fail
  obtain ⟨gh, hgz⟩ : ∃ g, g = w1.heap.size := ⟨_, rfl⟩
  rw [← hgz] at S2 ⊢
  clear hgz
  generalize w1.alloc _ = w2 at *
  have e1 := (bk_of S2.out.right).look_w2 id hi
  have c0 : w2.cell? ⟨bb, 2, none⟩ = some (.map (some wt)) := (bk_of S2.out.right).blk.cell 2
  have S3 := Lib.hid (S2.out.alloc #[.string (ofL (wV W id).1), .int .i64 (wV W id).2] 32)
  clear S2
  go_upto_region 6 with fail
  clear e1 c0
  obtain ⟨gx, hgz⟩ : ∃ g, g = w2.heap.size := ⟨_, rfl⟩
  rw [← hgz] at S3 ⊢
  clear hgz
  generalize w2.alloc _ = w3 at *
  have d0 := (S3.out.has (Has.r (Has.l (has_blk gh _ _)))).cell 0
  have d1 := (S3.out.has (Has.r (Has.l (has_blk gh _ _)))).cell 1
  simp only [List.getElem?_toArray, List.getElem?_cons_zero, List.getElem?_cons_succ] at d0 d1
  rw [← HWD.out] at hj
  have hb : ((wd : Int) == 0) = false := by simpa using hj
  rw [← HWD.out] at hs
  have hb2 : ((wd : Int) == md H id name) = false := by simpa using hs
  have hb3 : ((md H id name : Int) == 0) = true := by rw [hm.out]; rfl
  have hb4 : ¬ (300 : Int) ≤ ((cnt H W : Nat) : Int) := by omega
  go_wp2_with fail
  refine (Count_any _ (bk_of S3.out.right.right) (by omega)).mono ?_
  rintro e w4 ⟨rfl, hX⟩
  have S4 := Lib.hid (S3.out.below hX)
  clear S3 hX d0 d1
  have k := bk_of S4.out.drew.right.right
  have e2 := k.look_l name hn
  have hvec := k.line name
  obtain ⟨A, c, hvs⟩ := hvec.slice
  rw [hvs] at e2 hvec
  have c1 : w4.drew.cell? ⟨bb, 1, none⟩ = some (.map (some l)) := k.blk.cell 1
  have d0 : w4.drew.cell? ⟨gh, 0, none⟩ = some (.string (ofL name)) := (S4.out.drew.has (Has.r (Has.l (has_blk gh _ _)))).cell 0
  have d1 : w4.drew.cell? ⟨gh, 1, none⟩ = some (.int .i64 wd) := (S4.out.drew.has (Has.r (Has.l (has_blk gh _ _)))).cell 1
  have HNu : Hid (Nums w4.drew A (ids L name).length (ids L name)) := Lib.hid (nums_of hvec)
  have HT := Lib.hid (ht.keep S4.out.drew.bel)
  have HK := Lib.hid k
  have S5 := Lib.hid S4.out.drew
  clear S4 k hvec
  go_wp2_with fail
  refine wp_region_still_tail 9 (by kernel_rfl) (by kernel_rfl) ?_
  simp only [List.take_succ_cons, List.take_zero, List.drop_succ_cons, List.drop_zero]
  change wpStill _ _ w4.drew _ _ _
  repeat still_step
  refine wpStill_nil ?_
  change wpList _ _ _ _ _ w4.drew
  generalize w4.drew = w5 at *
  go_wp2_with fail
  refine (free_any (id := id) (name := name) (mode := wd) (ahead := ids L name) w5 HK.out HT.out HNu.out hi hn hid (by omega)).mono ?_
  rintro e w6 ⟨rfl, hX⟩
  have S6 := Lib.hid (S5.out.below hX)
  have hfd : decide (blkL H W id name wd (ids L name) = []) = true := by rw [← HWD.out] at hf; exact decide_eq_true hf
  rw [hfd]
  clear S5 hX e2 c1 d0 d1 HNu HT HK
  have d0 : w6.cell? ⟨gh, 0, none⟩ = some (.string (ofL name)) := (S6.out.has (Has.r (Has.l (has_blk gh _ _)))).cell 0
  have d1 : w6.cell? ⟨gh, 1, none⟩ = some (.int .i64 wd) := (S6.out.has (Has.r (Has.l (has_blk gh _ _)))).cell 1
  have SR := Lib.hid (S6.out.re (show _ = aBk bb h l wt H L W * ((Asn.blk gh 32 #[.string (ofL name), .int .i64 wd] * Asn.blk gx 32 #[.string (ofL (wV W id).1), .int .i64 (wV W id).2]) * C) by ac_rfl))
  clear S6
  go_wp2_with fail
  refine (hold_none id wd name w0 w6 _ SR.out hi hn hx hlH).mono ?_
  rintro e w7 ⟨rfl, nb, hX⟩
  have S7 := Lib.hid hX
  clear hX d0 d1
  go_wp2_with fail
  go_returns
  refine ⟨rfl, nb, ?_⟩
  rw [← HWD.out]
  exact drop_mid S7.out
end
end Go.Proofs.YtikdjgholjealaaGreatDoor.Lk
