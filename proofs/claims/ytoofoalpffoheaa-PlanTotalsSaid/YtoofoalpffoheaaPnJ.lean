/- Plans: awake. -/
import Derived.Test.YtoofoalpffoheaaPnI
import Derived.Test.YtoofoalpffoheaaPnE
namespace Go.Proofs.Ytoofoalpffoheaa.Pn
open Go.ChangeShapes Go.WideShapes Go.ChangeAt Go.RowKit Go.PlainAid Aid
open Sg (V goodV inV VReads VAt goodB codeS rowB codeB rowO rowV)
set_option linter.unusedVariables false
set_option linter.unusedSimpArgs false
def T1 : List (List Int) := [[1, 1]]
def V1 : List Vw := [(0, 1, [0])]
def row1 : List Sg.V := [(1, 0, ⟨#[]⟩), (1, 0, ⟨#[]⟩)]
theorem fits1 : fitsB T1 V1 0 row1 = true := by decide +kernel
theorem good1 : goodP T1 V1 = true := by decide +kernel
theorem bytes1 : (codesW [0]).length = 16 := rfl
theorem readN : Wd.readZ ((ofL (totB 0 [0])).extract 0 16) = 0 := by decide +kernel
theorem readL : rdL (ofL (totB 0 [0])) 1 = [0] := by decide +kernel
theorem list_slice2 {P : Program} {ops : Array Oper} {rest : List Oper} {o : Oper} {a : Go.Act} {Q : Exit → Go.Act → World → Prop} {w w' : World} (hgd : o.guard = none) (T : TypeId) (x y : Operand) (ho : o.op = .buildSlice T 2 #[(0, x), (1, y)]) (xv yv : Value) (hx : a.eval x = xv) (hy : a.eval y = yv)
    (v : Value) (hr : (Instr.buildSlice T 2 #[(0, xv), (1, yv)]).run P w = .ok v w') (h : wpList P ops Q rest (a.put o.dst v) w') : wpList P ops Q (o :: rest) a w := by
  refine wpList_plain hgd fun K hK => ?_
  unfold Oper.wp execOp
  subst hx hy
  simp only [ho, List.map_toArray, List.map_cons, List.map_nil, Sem.run_bind, Sem.run_pure, Result.andThen_ok, hr]
  exact hK _ _ h
theorem slice_row (w : World) : (Instr.buildSlice 54 2 #[(0, .agg #[.int .i64 1, .int .i64 0, .string ⟨#[]⟩]), (1, .agg #[.int .i64 1, .int .i64 0, .string ⟨#[]⟩])]).run Try.prog w = .ok (.slice (some ⟨w.heap.size, 0, none⟩) 2 2) (w.alloc (.cells #[.int .i64 1, .int .i64 0, .string ⟨#[]⟩, .int .i64 1, .int .i64 0, .string ⟨#[]⟩] 53)) := by
  go_simp
set_option maxRecDepth 100000 in
set_option maxHeartbeats 4000000 in
theorem awake_any (w : World) :
    Calls Try.prog 5 #[] w fun e w' => e = .returned (.bool true) ∧ Below w.heap.size w w' := by
  have hs : ∀ (W : World) (o : Obj), (W.alloc o).heap.size = W.heap.size + 1 := fun W o => by simp
  go_enter Try.func5, Try.ntmps5
  go_upto_region 2 with fail
  have S0 := (((((Own.none w).alloc #[.int .i64 1, .int .i64 1] 3).alloc #[.slice (some ⟨w.heap.size, 0, none⟩) 2 2] 41).alloc #[.int .i64 0] 3).alloc #[.int .i64 0, .int .i64 1, .slice (some ⟨w.heap.size + 1 + 1, 0, none⟩) 1 1] 44).alloc #[.slice (some ⟨w.heap.size + 1, 0, none⟩) 1 1, .slice (some ⟨w.heap.size + 1 + 1 + 1, 0, none⟩) 1 1] 47
  simp only [hs] at S0
  obtain ⟨n, hn⟩ : ∃ n, n = w.heap.size := ⟨_, rfl⟩
  rw [← hn] at S0 ⊢
  clear hn
  generalize World.alloc (World.alloc (World.alloc (World.alloc (World.alloc w _) _) _) _) _ = w1 at *
  have hA := S0.has (Has.r (Has.r (Has.r (Has.r (Has.l (has_blk n _ _))))))
  have hB := S0.has (Has.r (Has.r (Has.r (Has.l (has_blk (n + 1) _ _)))))
  have hC := S0.has (Has.r (Has.r (Has.l (has_blk (n + 1 + 1) _ _))))
  have hD := S0.has (Has.r (Has.l (has_blk (n + 1 + 1 + 1) _ _)))
  have hI1 : IntsAt w1 (some ⟨n, 0, none⟩) [1, 1] := Or.inr ⟨n, 0, rfl, hA.lt, fun j x hx => by
    rw [Nat.zero_add]
    match j, hx with
    | 0, hx => obtain rfl := Option.some.inj hx; exact hA.cell 0
    | 1, hx => obtain rfl := Option.some.inj hx; exact hA.cell 1
    | j + 2, hx => cases hx⟩
  have hI2 : IntsAt w1 (some ⟨n + 1 + 1, 0, none⟩) [0] := Or.inr ⟨n + 1 + 1, 0, rfl, hC.lt, fun j x hx => by
    rw [Nat.zero_add]
    match j, hx with
    | 0, hx => obtain rfl := Option.some.inj hx; exact hC.cell 0
    | j + 1, hx => cases hx⟩
  have hP : PlanAt w1 (.agg #[.slice (some ⟨n + 1, 0, none⟩) 1 1, .slice (some ⟨n + 1 + 1 + 1, 0, none⟩) 1 1]) T1 V1 := by
    refine ⟨some ⟨n + 1, 0, none⟩, 1, some ⟨n + 1 + 1 + 1, 0, none⟩, 1, rfl, Or.inr ⟨n + 1, 0, rfl, hB.lt, fun j t ht => ?_⟩, Or.inr ⟨n + 1 + 1 + 1, 0, rfl, hD.lt, fun j v hv => ?_⟩, by decide, by decide, fun t ht => ?_, fun v hv => ?_⟩
    · match j, ht with
      | 0, ht => obtain rfl := Option.some.inj ht; exact ⟨_, 2, hB.cell 0, hI1⟩
      | j + 1, ht => cases ht
    · match j, hv with
      | 0, hv => obtain rfl := Option.some.inj hv; exact ⟨hD.cell 0, hD.cell 1, _, 1, hD.cell 2, hI2⟩
      | j + 1, hv => cases hv
    · obtain rfl : t = [1, 1] := List.mem_singleton.1 ht
      decide
    · obtain rfl : v = (0, 1, [0]) := List.mem_singleton.1 hv
      decide
  have HP := Lib.hid hP
  clear hP hI1 hI2 hA hB hC hD hs
  have S1 := Lib.hid ((S0.re (show _ = Asn.blk (n + 1 + 1 + 1 + 1) 47 #[.slice (some ⟨n + 1, 0, none⟩) 1 1, .slice (some ⟨n + 1 + 1 + 1, 0, none⟩) 1 1] * _ by rfl)))
  clear S0
  obtain ⟨g, hg⟩ : ∃ g, g = n + 1 + 1 + 1 + 1 := ⟨_, rfl⟩
  rw [← hg] at S1 ⊢
  clear hg
  generalize n + 1 + 1 + 1 = n3 at *
  generalize n + 1 = n1 at *
  have c0 := (S1.out.has (Has.l (has_blk g _ _))).cell 0
  have c1 := (S1.out.has (Has.l (has_blk g _ _))).cell 1
  simp only [List.getElem?_toArray, List.getElem?_cons_zero, List.getElem?_cons_succ] at c0 c1
  as_aux_lemma =>
    go_wp2_with (with_reducible refine list_slice2 rfl 54 (.tmp 15) (.tmp 16) rfl (.agg #[.int .i64 1, .int .i64 0, .string ⟨#[]⟩]) (.agg #[.int .i64 1, .int .i64 0, .string ⟨#[]⟩]) ?b0 ?b1 (.slice (some ⟨w1.heap.size, 0, none⟩) 2 2) (slice_row _) ?_)
    case b0 => rfl
    case b1 => rfl
    have S2 := Lib.hid (S1.out.alloc #[.int .i64 1, .int .i64 0, .string ⟨#[]⟩, .int .i64 1, .int .i64 0, .string ⟨#[]⟩] 53)
    have HP2 := Lib.hid (HP.out.keep (show Below w1.heap.size w1 (w1.alloc (.cells #[.int .i64 1, .int .i64 0, .string ⟨#[]⟩, .int .i64 1, .int .i64 0, .string ⟨#[]⟩] 53)) from blA (Below.refl _ _) _))
    obtain ⟨gv, hgz⟩ : ∃ g, g = w1.heap.size := ⟨_, rfl⟩
    rw [← hgz] at S2 ⊢
    clear hgz S1 HP c0 c1
    generalize World.alloc w1 _ = w2 at *
    have hV := S2.out.has (Has.l (has_blk gv _ _))
    have hVR : VReads w2 (some ⟨gv, 0, none⟩) row1 := fun _ => ⟨gv, 0, rfl, hV.lt, fun i v hv => by
      rw [Nat.zero_add]
      match i, hv with
      | 0, hv => obtain rfl := Option.some.inj hv; exact ⟨hV.cell 0, hV.cell 1, hV.cell 2⟩
      | 1, hv => obtain rfl := Option.some.inj hv; exact ⟨hV.cell 3, hV.cell 4, hV.cell 5⟩
      | i + 2, hv => cases hv⟩
    have HE := Lib.hid (Entry_any _ T1 V1 0 (some ⟨gv, 0, none⟩) 2 row1 w2 HP2.out (by decide) (by decide) (fun v hv => by
      have : v = (1, 0, ⟨#[]⟩) := by simpa [row1] using hv
      subst this
      exact ⟨by decide, by decide, by decide⟩) hVR)
    rw [fits1, show entV true row1 = .tuple #[.agg #[.string (codeS 1 0 ⟨#[]⟩), .string ⟨(rowB [(1, 0, ⟨#[]⟩)]).toArray⟩, .bool false], .int .i64 0] from rfl] at HE
    obtain ⟨ks, hks⟩ : ∃ s, s = codeS 1 0 ⟨#[]⟩ := ⟨_, rfl⟩
    obtain ⟨vs, hvs⟩ : ∃ s : ByteArray, s = ⟨(rowB [(1, 0, ⟨#[]⟩)]).toArray⟩ := ⟨_, rfl⟩
    have hk9 : ks.size = 9 := by rw [hks]; rfl
    have hv9 : vs.size = 9 := by rw [hvs]; decide +kernel
    rw [← hks, ← hvs] at HE
    clear hV hVR hks hvs
    refine HE.out.mono ?_
    rintro e w3 ⟨rfl, hX⟩
    have S3 := Lib.hid (S2.out.right.below hX)
    have HP3 := Lib.hid (HP2.out.keep hX)
    clear hX S2 HP2 HE
    go_upto_region 3 with fail
    have S4 := Lib.hid (S3.out.alloc #[.string ks, .string vs, .bool false] 49)
    have HP4 := Lib.hid (HP3.out.keep (show Below w3.heap.size w3 (w3.alloc (.cells #[.string ks, .string vs, .bool false] 49)) from blA (Below.refl _ _) _))
    obtain ⟨ge, hgz⟩ : ∃ g, g = w3.heap.size := ⟨_, rfl⟩
    rw [← hgz] at S4 ⊢
    clear hgz S3 HP3
    generalize World.alloc w3 _ = w4 at *
    go_wp2_with fail
    refine (Nothing_any 1 _).mono ?_
    rintro e w5 ⟨v, rfl, hX, hv⟩
    have S5 := Lib.hid (S4.out.below hX)
    have HP5 := Lib.hid (HP4.out.keep hX)
    have HV5 := Lib.hid hv
    clear hX S4 HP4 hv
    go_wp2_with fail
    refine (Total_any v 0 (zer (cut2 1)) w5 (by decide) HV5.out).mono ?_
    rintro e w6 ⟨rfl, hX⟩
    have S6 := Lib.hid (S5.out.below hX)
    have HP6 := Lib.hid (HP5.out.keep hX)
    clear hX S5 HP5 HV5
    have HRT := Lib.hid (ReadTotal_yes (ofL (totB 0 (zer (cut2 1)))) 1 w6 (by decide) (by decide +kernel))
    rw [show Wd.readZ ((ofL (totB 0 (zer (cut2 1)))).extract 0 16) = 0 from readN, show rdL (ofL (totB 0 (zer (cut2 1)))) 1 = [0] from readL] at HRT
    go_wp2_with fail
    refine HRT.out.mono ?_
    rintro e w7 ⟨v2, rfl, hX, hv⟩
    have S7 := Lib.hid (S6.out.below hX)
    have HP7 := Lib.hid (HP6.out.keep hX)
    clear hX S6 HP6 HRT
    obtain ⟨A7, c7, rfl, hr7⟩ := hv
    have HR7 := Lib.hid hr7
    clear hr7
    unfold totV
    go_upto_region 4 with fail
    have S8 := Lib.hid (S7.out.alloc #[.int .i64 (Wd.hi 0), .int .u64 (Wd.lo 0), .slice A7 [(0 : W1)].length c7] 27)
    have HP8 := Lib.hid (HP7.out.keep (show Below w7.heap.size w7 (w7.alloc (.cells #[.int .i64 (Wd.hi 0), .int .u64 (Wd.lo 0), .slice A7 [(0 : W1)].length c7] 27)) from blA (Below.refl _ _) _))
    have HR8 := Lib.hid (HR7.out.keep (show Below w7.heap.size w7 (w7.alloc (.cells #[.int .i64 (Wd.hi 0), .int .u64 (Wd.lo 0), .slice A7 [(0 : W1)].length c7] 27)) from blA (Below.refl _ _) _))
    obtain ⟨gt, hgz⟩ : ∃ g, g = w7.heap.size := ⟨_, rfl⟩
    rw [← hgz] at S8 ⊢
    clear hgz S7 HP7 HR7
    generalize World.alloc w7 _ = w8 at *
    have HRo : Hid (∀ w, Calls Try.prog 20 #[.int .i64 1] w fun e w' => e = .returned (.int .i64 2) ∧ w' = w) := Lib.hid (fun w => Root_any 1 (by decide) w)
    have HGo : Hid (∀ w, PlanAt w (.agg #[.slice (some ⟨n1, 0, none⟩) 1 1, .slice (some ⟨n3, 0, none⟩) 1 1]) T1 V1 → Calls Try.prog 16 #[.agg #[.slice (some ⟨n1, 0, none⟩) 1 1, .slice (some ⟨n3, 0, none⟩) 1 1]] w fun e w' => e = .returned (.bool true) ∧ Below w.heap.size w w') := Lib.hid (fun w h => by have := Good_any _ T1 V1 w h; rw [good1] at this; exact this)
    have HTr : Hid (∀ w, PlanAt w (.agg #[.slice (some ⟨n1, 0, none⟩) 1 1, .slice (some ⟨n3, 0, none⟩) 1 1]) T1 V1 → Calls Try.prog 17 #[.agg #[.slice (some ⟨n1, 0, none⟩) 1 1, .slice (some ⟨n3, 0, none⟩) 1 1]] w fun e w' => e = .returned (.int .i64 2) ∧ Below w.heap.size w w') := Lib.hid (fun w h => Trees_any _ T1 V1 w h)
    have HVi : Hid (∀ w, PlanAt w (.agg #[.slice (some ⟨n1, 0, none⟩) 1 1, .slice (some ⟨n3, 0, none⟩) 1 1]) T1 V1 → Calls Try.prog 18 #[.agg #[.slice (some ⟨n1, 0, none⟩) 1 1, .slice (some ⟨n3, 0, none⟩) 1 1], .int .i64 0] w fun e w' => e = .returned (.int .i64 1) ∧ Below w.heap.size w w') := Lib.hid (fun w h => View_any _ T1 V1 0 (by decide) w h)
    have HFr : Hid (∀ w, PlanAt w (.agg #[.slice (some ⟨n1, 0, none⟩) 1 1, .slice (some ⟨n3, 0, none⟩) 1 1]) T1 V1 → Calls Try.prog 19 #[.agg #[.slice (some ⟨n1, 0, none⟩) 1 1, .slice (some ⟨n3, 0, none⟩) 1 1]] w fun e w' => e = .returned (.int .i64 3) ∧ Below w.heap.size w w') := Lib.hid (fun w h => Free_any _ T1 V1 w h)
    have HIs : Hid (∀ w, WReads w A7 [(0 : W1)] → Calls Try.prog 11 #[.agg #[.int .i64 (Wd.hi 0), .int .u64 (Wd.lo 0), .slice A7 1 c7]] w fun e w' => e = .returned (.bool true) ∧ Below w.heap.size w w') := Lib.hid (fun w h => IsNothing_any _ 0 [0] w (by decide) ⟨A7, c7, rfl, h⟩)
    rw [show [(0 : W1)].length = 1 from rfl] at S8
    generalize Wd.hi 0 = zh, Wd.lo 0 = zl at *
    have c0 := (S8.out.has (Has.r (Has.r (Has.l (has_blk g _ _))))).cell 0
    have c1 := (S8.out.has (Has.r (Has.r (Has.l (has_blk g _ _))))).cell 1
    simp only [List.getElem?_toArray, List.getElem?_cons_zero, List.getElem?_cons_succ] at c0 c1
    go_wp2_with fail
    refine (HGo.out _ HP8.out).mono ?_
    rintro e w9 ⟨rfl, hX⟩
    have S9 := Lib.hid (S8.out.below hX)
    have HP9 := Lib.hid (HP8.out.keep hX)
    have HR9 := Lib.hid (HR8.out.keep hX)
    clear hX S8 HP8 HR8 c0 c1 HGo
    have c0 := (S9.out.has (Has.r (Has.r (Has.l (has_blk g _ _))))).cell 0
    have c1 := (S9.out.has (Has.r (Has.r (Has.l (has_blk g _ _))))).cell 1
    simp only [List.getElem?_toArray, List.getElem?_cons_zero, List.getElem?_cons_succ] at c0 c1
    go_wp2_with fail
    refine (HTr.out _ HP9.out).mono ?_
    rintro e w10 ⟨rfl, hX⟩
    have S10 := Lib.hid (S9.out.below hX)
    have HP10 := Lib.hid (HP9.out.keep hX)
    have HR10 := Lib.hid (HR9.out.keep hX)
    clear hX S9 HP9 HR9 c0 c1 HTr
    have c0 := (S10.out.has (Has.r (Has.r (Has.l (has_blk g _ _))))).cell 0
    have c1 := (S10.out.has (Has.r (Has.r (Has.l (has_blk g _ _))))).cell 1
    simp only [List.getElem?_toArray, List.getElem?_cons_zero, List.getElem?_cons_succ] at c0 c1
    go_wp2_with fail
    refine (HVi.out _ HP10.out).mono ?_
    rintro e w11 ⟨rfl, hX⟩
    have S11 := Lib.hid (S10.out.below hX)
    have HP11 := Lib.hid (HP10.out.keep hX)
    have HR11 := Lib.hid (HR10.out.keep hX)
    clear hX S10 HP10 HR10 c0 c1 HVi
    have c0 := (S11.out.has (Has.r (Has.r (Has.l (has_blk g _ _))))).cell 0
    have c1 := (S11.out.has (Has.r (Has.r (Has.l (has_blk g _ _))))).cell 1
    simp only [List.getElem?_toArray, List.getElem?_cons_zero, List.getElem?_cons_succ] at c0 c1
    go_wp2_with fail
    refine (HFr.out _ HP11.out).mono ?_
    rintro e w12 ⟨rfl, hX⟩
    have S12 := Lib.hid (S11.out.below hX)
    have HP12 := Lib.hid (HP11.out.keep hX)
    have HR12 := Lib.hid (HR11.out.keep hX)
    clear hX S11 HP11 HR11 c0 c1 HFr
    go_wp2_with fail
    refine (HRo.out _).mono ?_
    rintro e w13 ⟨rfl, rfl⟩
    obtain ⟨⟨e0, e1, e2⟩, -⟩ := ent_cells (S12.out.has (Has.r (Has.l (has_blk ge _ _))))
    obtain ⟨t0, t1, t2⟩ := tot_cells (S12.out.has (Has.l (has_blk gt _ _)))
    go_wp2_with fail
    refine (HIs.out _ HR12.out).mono ?_
    rintro e w14 ⟨rfl, hX⟩
    have S13 := Lib.hid (S12.out.below hX)
    clear hX S12 e0 e1 e2 t0 t1 t2
    go_wp2_with fail
    go_returns
    exact ⟨rfl, S13.out.bel⟩
end Go.Proofs.Ytoofoalpffoheaa.Pn
