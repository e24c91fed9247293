/- Rows of 128 truths in memory; the document's Not. -/
import Derived.Test.YtoofoalpffoheaaWdD
import Derived.Test.YtoofoalpffoheaaRow
import Derived.Laws.Rows
import Derived.Laws.Tables
import Derived.Great.Walk
namespace Go.Proofs.Ytoofoalpffoheaa.Wd
open Go.ChangeShapes Go.WideShapes Go.ChangeAt Go.RowKit Go.PlainAid Aid
set_option linter.unusedVariables false
set_option linter.unusedSimpArgs false
/-- Cells of truths. -/
def Ls (f : Nat → Bool) : List Value := (List.range 128).map fun i => .bool (f i)
def Bs (f : Nat → Bool) : Array Value := (Ls f).toArray
theorem Bs_size (f : Nat → Bool) : (Bs f).size = 128 := by simp [Bs, Ls]
theorem Bs_get (f : Nat → Bool) (i : Nat) (h : i < 128) : (Bs f)[i]? = some (.bool (f i)) := by simp [Bs, Ls, h]
theorem Bs_set (f : Nat → Bool) (i : Nat) (b : Bool) : (Bs f).setIfInBounds i (.bool b) = Bs (fun j => if j = i then b else f j) := by
  apply Array.toList_inj.1
  apply List.ext_getElem?
  intro k
  rw [Array.toList_setIfInBounds]
  show ((Ls f).set i (.bool b))[k]? = (Ls (fun j => if j = i then b else f j))[k]?
  unfold Ls
  rw [List.getElem?_set]
  by_cases h : i = k
  · subst h
    by_cases hk : i < 128
    · simp [hk]
    · simp [hk]
  · rw [if_neg h]
    by_cases hk : k < 128
    · have h' : ¬ k = i := fun e => h e.symm
      simp [hk, h']
    · simp [hk]
theorem Bs_ext {f g : Nat → Bool} (h : ∀ i, i < 128 → f i = g i) : Bs f = Bs g := by
  unfold Bs Ls
  congr 1
  apply List.map_congr_left
  intro i hi
  rw [h i (by simpa using hi)]
theorem Bs_one (f : Nat → Bool) : (Bs f).all (·.oneCell') = true := by
  rw [Array.all_eq_true_iff_forall_mem]
  intro v hv
  simp only [Bs, Ls, List.mem_toArray, List.mem_map] at hv
  obtain ⟨i, -, rfl⟩ := hv
  rfl
theorem infoB : (Try.prog.info? 83).map (fun i => (i.zero, i.size)) = some (some (.agg (Bs fun _ => false)), 128) := by kernel_rfl
theorem sizeB (f : Nat → Bool) : (Try.prog.info? 83).map (·.size) = some (Bs f).size := by rw [Bs_size]; exact (zero_of_info infoB).2
section
variable {w w0 : World} {O0 : Nat → Prop} {A : Asn} {g : Nat} {f : Nat → Bool}
theorem bit_of (h : Blk w g 83 (Bs f)) (i : Nat) (hi : i < 128) : w.cell? ⟨g, i, none⟩ = some (.bool (f i)) := by rw [h.cell, Bs_get f i hi]
theorem blk_setRow (h : Blk w g 83 (Bs f)) (C : Array Value) : Blk (w.setRow g C) g 83 C := setRow_heap w g _ C _ _ h
theorem own_setRow {T : TypeId} {c : Array Value} (h : Own w0 O0 w (Asn.blk g T c * A)) (C : Array Value) : Own w0 O0 (w.setRow g C) (Asn.blk g T C * A) := by
  refine h.then fun O ⟨X, Y, hb, hA, hd, hO⟩ => ⟨⟨O, ⟨X, Y, ⟨setRow_heap w g c C T _ hb.1, hb.2⟩, A.keep w _ Y (· = g) hA (chg_setRow w g C) (fun k hk e => hd k ((hb.2 k).2 e) hk), hd, hO⟩, Fresh.refl _ _⟩, (chg_setRow w g C).mono (fun i _ e => (hO i).2 (Or.inl ((hb.2 i).2 e)))⟩
end
theorem run_zero (W : World) : (zeroValue 83).run Try.prog W = .ok (.agg (Bs fun _ => false)) W := (zero_of_info infoB).1 W
theorem run_buildB (W : World) : (Instr.build 83 #[]).run Try.prog W = .ok (.agg (Bs fun _ => false)) W := by kernel_rfl
theorem run_boxB (W : World) (Z : Array Value) : (Instr.box 83 (.agg Z)).run Try.prog W = .ok (.pointer (some ⟨W.heap.size, 0, none⟩)) (W.alloc (.cells Z 83)) := by
  go_simp
theorem Asn.swap (A B C : Asn) : A * (B * C) = B * (A * C) := by ac_rfl
theorem list_build0 {P : Program} {ops : Array Oper} {rest : List Oper} {o : Oper} {a : Act} {Q : Exit → Act → World → Prop} {w : World} (hgd : o.guard = none) (T : TypeId) (ho : o.op = .build T #[])
    (v : Value) (hr : (Instr.build T #[]).run P w = .ok v w) (h : wpList P ops Q rest (a.put o.dst v) w) : wpList P ops Q (o :: rest) a w := by
  refine wpList_plain hgd fun K hK => ?_
  unfold Oper.wp execOp
  simp only [ho, List.map_toArray, List.map_nil, Sem.run_bind, Sem.run_pure, Result.andThen_ok, hr]
  exact hK _ _ h
/-- A variable of a row of truths is made. -/
theorem list_allocB {ops : Array Oper} {rest : List Oper} {o : Oper} {a : Act} {Q : Exit → Act → World → Prop} {w : World} (hgd : o.guard = none) (x : Tmp) (hd : o.dst = some x) (ho : o.op = .alloc 83) 
    (h : wpList Try.prog ops Q rest (a.put (some x) (.pointer (some ⟨w.heap.size, 0, none⟩))) (w.alloc (.cells (Bs fun _ => false) 83))) : wpList Try.prog ops Q (o :: rest) a w := by
  refine wpList_plain hgd fun K hK => ?_
  unfold Oper.wp execOp
  have e : (Instr.alloc 83 true (.tuple #[])).run Try.prog w = .ok (.pointer (some ⟨w.heap.size, 0, none⟩)) (w.alloc (.cells (Bs fun _ => false) 83)) := by
    have hz := run_zero
    generalize (Bs fun _ => false) = Z at *
    go_simp
  simp only [ho, Sem.run_bind, Sem.run_pure, Result.andThen_ok, e]
  have hp := hK _ _ h
  rw [← hd] at hp
  exact hp
/-- A row of truths is made, all false: a variable. -/
theorem wp_var {id : Nat} {a : Act} {Q : Exit → Act → World → Prop} {w : World} (o1 o2 o3 : Oper) (tv tp : Tmp) (g1 : o1.guard = none) (g2 : o2.guard = none) (g3 : o3.guard = none) (e1 : o1.op = .build 83 #[]) (d1 : o1.dst = some tv)
    (e2 : o2.op = .alloc 83) (d2 : o2.dst = some tp) (e3 : o3.op = .store 83 (.tmp tp) (.tmp tv)) (d3 : o3.dst = none) (hv : tv < a.tmps.size) (hp : tp < a.tmps.size) (hne : tv ≠ tp)
    (h : Q .normal ((a.put (some tv) (.agg (Bs fun _ => false))).put (some tp) (.pointer (some ⟨w.heap.size, 0, none⟩))) ((w.alloc (.cells (Bs fun _ => false) 83)))) :
    (Code.region id [o1, o2, o3].toArray false).wp Try.prog Q a w := by
  refine wp_region_lit ?_
  refine list_build0 g1 83 e1 _ (run_buildB _) ?_
  rw [d1]
  refine list_allocB g2 tp d2 e2 ?_
  have hs : (Try.prog.info? 83).map (·.size) = some (Bs fun _ => false).size := sizeB _
  have ho := Bs_one (fun _ => false)
  generalize (Bs fun _ => false) = Z at *
  refine wpList_store_row g3 83 (.tmp tp) (.tmp tv) e3 w.heap.size Z ?_ ?_ 83 Z (Blk.new _ _ _) hs rfl ho ?_
  · simp [Act.eval, Act.put, Array.getD, hp]
  · simp [Act.eval, Act.put, Array.getD, hv, hne, hne.symm]
  · rw [d3, World.setRow_alloc_new]
    exact h
/-- The result: a row of truths. -/
theorem resB {fn : Func} {x : Nat} {tm : Array Value} {w : World} {g : Nat} {f : Nat → Bool} (hf : fn.results = #[.cell x 83]) (hx : tm.getD x undef = .pointer (some ⟨g, 0, none⟩))
    (hB : Blk w g 83 (Bs f)) : (results fn tm).run Try.prog w = .ok (.agg (Bs f)) w :=
  results_cell_row hf tm w g 83 (Bs f) (0, 0) _ hx hB Try.underlying83 rfl (sizeB f)
open BitVec in
set_option maxRecDepth 100000 in
set_option maxHeartbeats 1000000 in
theorem refAdd_any (x y : BitVec 128) (c : Bool) (w : World) :
    Calls Try.prog 37 #[.agg (Bs x.getLsbD), .agg (Bs y.getLsbD), .bool c] w fun e w' => e = .returned (.agg (Bs (x + y + setWidth 128 (ofBool c)).getLsbD)) ∧ Below w.heap.size w w' := by
  have hz := run_zero
  have hres : ∀ k, k < 128 → (x + y + setWidth 128 (ofBool c)).getLsbD k = (x.getLsbD k ^^ (y.getLsbD k ^^ BitVec.carry k x y c)) := fun k hk => BitVec.getLsbD_add_add_bool hk x y c
  have hcar : ∀ k, BitVec.carry (k + 1) x y c = Bool.atLeastTwo (x.getLsbD k) (y.getLsbD k) (BitVec.carry k x y c) := fun k => BitVec.carry_succ k x y c
  have hc0 : BitVec.carry 0 x y c = c := BitVec.carry_zero
  have HR := Lib.hid hres
  have HC := Lib.hid hcar
  have H0 := Lib.hid hc0
  clear hres hcar hc0
  generalize x + y + setWidth 128 (ofBool c) = r at *
  generalize hcr : (fun k => BitVec.carry k x y c) = cr at *
  have HC : Hid (∀ k, cr (k + 1) = Bool.atLeastTwo (x.getLsbD k) (y.getLsbD k) (cr k)) := Lib.hid (by rw [← hcr]; exact HC.out)
  have HR : Hid (∀ k, k < 128 → r.getLsbD k = (x.getLsbD k ^^ (y.getLsbD k ^^ cr k))) := Lib.hid (by rw [← hcr]; exact HR.out)
  have H0 : Hid (cr 0 = c) := Lib.hid (by rw [← hcr]; exact H0.out)
  clear hcr
  generalize x.getLsbD = fx, y.getLsbD = fy, r.getLsbD = fr at *
  have S0 := Lib.hid ((((Own.none w).alloc (Bs fx) 83).alloc (Bs fy) 83).alloc (Bs fun _ => false) 83)
  have HF := Lib.hid (rfl : (fun _ => false : Nat → Bool) = fun _ => false)
  obtain ⟨BX, hBX⟩ : ∃ B, B = Bs fx := ⟨_, rfl⟩
  obtain ⟨BY, hBY⟩ : ∃ B, B = Bs fy := ⟨_, rfl⟩
  obtain ⟨Z, hZ⟩ : ∃ Z, Z = Bs (fun _ => false) := ⟨_, rfl⟩
  rw [← hBX, ← hBY, ← hZ] at S0
  rw [← hZ] at hz
  rw [← hBX, ← hBY]
  have HX := Lib.hid hBX
  have HY := Lib.hid hBY
  have HZ : Hid (Z.size = 128) := Lib.hid (by rw [hZ]; exact Bs_size _)
  clear hBX hBY hZ
  go_enter Try.func37, Try.ntmps37
  simp only [World.size_alloc] at S0
  go_upto_region 1 with fail
  obtain ⟨g3, hgz⟩ : ∃ g, g = w.heap.size := ⟨_, rfl⟩
  rw [← hgz] at S0 ⊢
  clear hgz
  generalize World.alloc (World.alloc (World.alloc w _) _) _ = w1 at *
  generalize g3 + 1 + 1 = g6 at *
  generalize g3 + 1 = g4 at *
  clear hz
  have S1 := Lib.hid (S0.out.alloc (Bs fun _ => false) 83)
  clear S0
  refine wp_var _ _ _ 10 7 rfl rfl rfl rfl rfl rfl rfl rfl rfl (by simp) (by simp) (by decide) ?_
  obtain ⟨g7, hgz⟩ : ∃ g, g = w1.heap.size := ⟨_, rfl⟩
  rw [← hgz] at S1 ⊢
  clear hgz
  generalize World.alloc w1 _ = w2 at *
  have S2 : Hid (Own w No w2 (Asn.blk g7 83 (Bs fun j => if j < 0 then fr j else false) * (Asn.blk g3 83 (Bs fx) * (Asn.blk g4 83 (Bs fy) * (Asn.blk g6 83 Z * Asn.emp))))) := Lib.hid (by
    have h := S1.out
    rw [HX.out, HY.out] at h
    have e : (Bs fun j => if j < 0 then fr j else false) = Bs fun _ => false := Bs_ext fun j _ => by simp
    rw [e]
    exact h.re (by ac_rfl))
  clear S1 HX HY
  generalize Bs (fun _ => false) = Z' at *
  simp only [Act.put, List.setIfInBounds_toArray, List.set_cons_zero, List.set_cons_succ]
  go_wp2_with fail
  go_loopw [2, 8] (fun c i wr => ∃ k : Nat, k ≤ 128 ∧ i = .int .i64 k ∧ c = .bool (cr k) ∧ Hid (Own w No wr (Asn.blk g7 83 (Bs fun j => if j < k then fr j else false) * (Asn.blk g3 83 (Bs fx) * (Asn.blk g4 83 (Bs fy) * (Asn.blk g6 83 Z * Asn.emp)))))) (fun _ i _ => 128 - (intOf i).toNat)
  case atStart => exact ⟨0, by omega, rfl, by rw [H0.out], S2⟩
  case round =>
    clear S2 H0
    obtain ⟨k, hk, rfl, rfl, hS⟩ := hrel
    by_cases hlt : k < 128
    · have hx := bit_of (hS.out.has (Has.r (Has.l (has_blk g3 _ _)))) k hlt
      have hy := bit_of (hS.out.has (Has.r (Has.r (Has.l (has_blk g4 _ _))))) k hlt
      have ho : wr.cell? ⟨g7, k, none⟩ = some (.bool (if k < k then fr k else false)) := bit_of (hS.out.has (Has.l (has_blk g7 _ _))) k hlt
      rw [if_neg (Nat.lt_irrefl k)] at ho
      have hf := (hS.out.has (Has.l (has_blk g7 _ _))).free k
      have hN := Lib.hid (hS.out.set (Sets.l (sets_blk g7 _ _ k (.bool (fr k)))))
      rw [Bs_set] at hN
      have E1 : Hid ((Bs fun j => if j = k then fr k else if j < k then fr j else false) = Bs fun j => if j < k + 1 then fr j else false) := Lib.hid (Bs_ext fun j _ => by
        by_cases h1 : j = k
        · subst h1; simp
        · have : (j < k + 1) = (j < k) := propext (by omega)
          simp [h1, this])
      rw [E1.out] at hN
      clear E1 hS
      have h1 := HR.out k hlt
      have h2 := HC.out k
      have h3 : Hid (cr (k + 1) = cr (k + 1)) := Lib.hid rfl
      generalize hn : cr (k + 1) = cn at *
      generalize hfk : fr k = fk at *
      generalize fx k = a, fy k = b, cr k = d at *
      have HN := Lib.hid hn
      clear hn hfk h3
      cases a <;> cases b <;> cases d <;> simp [Bool.atLeastTwo] at h1 h2 <;> subst h1 h2
      all_goals (
        go_wp2_with fail
        go_round
        case rel => exact ⟨k + 1, by omega, by go_num, by rw [HN.out], hN⟩
        case measure => simp [intOf]; omega)
    · obtain rfl : k = 128 := by omega
      have hB1 := hS.out.has (Has.l (has_blk g7 _ _))
      have hB2 := hS.out.has (Has.r (Has.r (Has.r (Has.l (has_blk g6 _ _)))))
      rw [show (Bs fun j => if j < 128 then fr j else false) = Bs fr from Bs_ext fun j hj => by simp [hj]] at hB1 hS
      have e2 := Lib.hid (own_setRow (hS.out.re (show _ = Asn.blk g6 83 Z * (Asn.blk g7 83 (Bs fr) * (Asn.blk g3 83 (Bs fx) * (Asn.blk g4 83 (Bs fy) * Asn.emp))) by ac_rfl)) (Bs fr))
      have hC1 : (Try.prog.info? 83).map (·.size) = some (Bs fr).size := sizeB _
      have hC2 : Z.size = (Bs fr).size := by rw [Bs_size]; exact HZ.out
      have hC3 := Bs_one fr
      clear hS
      go_upto_region 14 with fail
      refine wp_region_lit ?_
      refine wpList_load_row rfl 83 (.tmp 7) rfl g7 rfl 83 (Bs fr) (0, 0) _ hB1 Try.underlying83 rfl hC1 ?_
      refine wpList_store_row rfl 83 (.tmp 6) (.tmp 38) rfl g6 (Bs fr) rfl rfl 83 Z hB2 hC1 hC2 hC3 ?_
      generalize World.setRow wr _ _ = w5 at *
      go_wp2_with fail
      exact bodyPost_ret (resB (x := 6) rfl rfl (e2.out.has (Has.l (has_blk g6 _ _)))) rfl ⟨rfl, e2.out.bel⟩
end Go.Proofs.Ytoofoalpffoheaa.Wd
