/- Totals: their sum (Add). -/
import Derived.Test.YtoofoalpffoheaaPnC
namespace Go.Proofs.Ytoofoalpffoheaa.Pn
open Go.ChangeShapes Go.WideShapes Go.ChangeAt Go.RowKit Go.PlainAid Aid Wd
set_option linter.unusedVariables false
set_option linter.unusedSimpArgs false
def sumL (a b : List W1) : List W1 := List.zipWith (· + ·) a b
theorem sumL_len (a b : List W1) : (sumL a b).length = min a.length b.length := List.length_zipWith
/-- What is written so far. -/
def prt (l : List W1) (k : Nat) : List W1 := l.take k ++ zer (l.length - k)
theorem prt_zero (l : List W1) : prt l 0 = zer l.length := by unfold prt; simp
theorem prt_end (l : List W1) : prt l l.length = l := by unfold prt zer; simp
theorem prt_len (l : List W1) {k : Nat} (hk : k ≤ l.length) : (prt l k).length = l.length := by unfold prt zer; simp; omega
theorem prt_set (l : List W1) {k : Nat} {x : W1} (hx : l[k]? = some x) : (prt l k).set k x = prt l (k + 1) := by
  have hk : k < l.length := (List.getElem?_eq_some_iff.1 hx).1
  have e : (l.take k).length = k := by rw [List.length_take]; omega
  unfold prt zer
  rw [List.set_append_right _ _ (by omega), e, Nat.sub_self, show l.length - k = (l.length - (k + 1)) + 1 by omega, List.replicate_succ, List.set_cons_zero, List.take_add_one, hx]
  simp
theorem cellsW_app (a b : List W1) : cellsW (a ++ b) = cellsW a ++ cellsW b := by unfold cellsW; rw [List.flatMap_append]
theorem cellsW_set : ∀ (l : List W1) (k : Nat) (x : W1), k < l.length → ((cellsW l).set (k * 2) (.int .i64 (hi x))).set (k * 2 + 1) (.int .u64 (lo x)) = cellsW (l.set k x)
  | a :: l, 0, x, _ => rfl
  | a :: l, k + 1, x, h => by
    have ih := cellsW_set l k x (by simpa using h)
    have e : cellsW (a :: l) = .int .i64 (hi a) :: .int .u64 (lo a) :: cellsW l := rfl
    have e2 : cellsW ((a :: l).set (k + 1) x) = .int .i64 (hi a) :: .int .u64 (lo a) :: cellsW (l.set k x) := rfl
    rw [e, e2, ← ih, show (k + 1) * 2 = k * 2 + 1 + 1 by omega, show k * 2 + 1 + 1 + 1 = (k * 2 + 1) + 1 + 1 by omega]
    rfl
theorem cellsW_setA (l : List W1) (k : Nat) (x : W1) (h : k < l.length) : ((cellsW l).toArray.setIfInBounds (k * 2) (.int .i64 (hi x))).setIfInBounds (k * 2 + 1) (.int .u64 (lo x)) = (cellsW (l.set k x)).toArray := by
  rw [List.setIfInBounds_toArray, List.setIfInBounds_toArray, cellsW_set l k x h]
theorem IsTot.keep {W W' : World} {v : Value} {c : W1} {l : List W1} (h : IsTot W v c l) (hb : Below W.heap.size W W') : IsTot W' v c l := by
  obtain ⟨A, cap, rfl, hr⟩ := h
  exact ⟨A, cap, rfl, hr.keep hb⟩
theorem Add_w (x y : W1) (w : World) : Calls Try.prog 25 #[.agg #[.int .i64 (hi x), .int .u64 (lo x)], .agg #[.int .i64 (hi y), .int .u64 (lo y)]] w fun e w' => e = .returned (.agg #[.int .i64 (hi (x + y)), .int .u64 (lo (x + y))]) ∧ Below w.heap.size w w' := Add_any x y w
theorem fr3 {w : World} {g : Nat} {T : TypeId} {cs : Array Value} (h : Blk w g T cs) (i : Nat) : w.frozen? ⟨g, i, none⟩ = false := h.free i
theorem own_3 {w0 w : World} {O0 : Nat → Prop} {A : Asn} {g : Nat} {T : TypeId} {a0 a1 a2 : Value} (h : Own w0 O0 w (Asn.blk g T #[a0, a1, a2] * A)) (b0 b1 b2 : Value) :
    Own w0 O0 (((w.setCell ⟨g, 0, none⟩ b0).setCell ⟨g, 1, none⟩ b1).setCell ⟨g, 2, none⟩ b2) (Asn.blk g T #[b0, b1, b2] * A) := by
  have h1 := h.set (Sets.l (sets_blk g T #[a0, a1, a2] 0 b0))
  have h2 := h1.set (Sets.l (sets_blk g T _ 1 b1))
  have h3 := h2.set (Sets.l (sets_blk g T _ 2 b2))
  exact h3
theorem resT {fn : Func} {x : Nat} {tm : Array Value} {w : World} {g : Nat} {a0 a1 a2 : Value} (hf : fn.results = #[.cell x 27]) (hx : tm[x]?.getD undef = .pointer (some ⟨g, 0, none⟩))
    (hB : Blk w g 27 #[a0, a1, a2]) : (results fn tm).run Try.prog w = .ok (.agg #[a0, a1, a2]) w := by
  obtain ⟨c0, c1, c2⟩ := tot_cells hB
  clear hB
  unfold results
  rw [hf]
  simp [go_sem, hx, c0, c1, c2]
set_option maxRecDepth 100000 in
set_option maxHeartbeats 4000000 in
theorem AddT_any (va vb : Value) (ca cb : W1) (la lb : List W1) (w : World) (hla : la.length ≤ 1000) (hlb : lb.length ≤ 1000) (ha : IsTot w va ca la) (hb : IsTot w vb cb lb) :
    Calls Try.prog 9 #[va, vb] w fun e w' => ∃ v, e = .returned v ∧ Below w.heap.size w w' ∧ IsTot w' v (ca + cb) (sumL la lb) := by
  obtain ⟨A, p, rfl, hra⟩ := ha
  obtain ⟨B, q, rfl, hrb⟩ := hb
  have HA := Lib.hid hra
  have HB := Lib.hid hrb
  have HAdd := Lib.hid Add_w
  have hn := sumL_len la lb
  obtain ⟨n, hnn⟩ : ∃ n, n = min la.length lb.length := ⟨_, rfl⟩
  rw [← hnn] at hn
  have HM := Lib.hid (mkW n (by omega))
  have hmn : min (la.length : Int) (lb.length : Int) = (n : Int) := by omega
  have hmn2 := hnn.symm
  have HNN := Lib.hid hnn
  have HN := Lib.hid hn
  clear hnn hn
  clear hra hrb
  unfold totV
  go_enter Try.func9, Try.ntmps9
  go_upto_region 1 with fail
  have S0 := Lib.hid (((((Own.none w).alloc #[.int .i64 (hi ca), .int .u64 (lo ca), .slice A la.length p] 27).alloc #[.int .i64 (hi cb), .int .u64 (lo cb), .slice B lb.length q] 27).alloc #[.int .i64 0, .int .u64 0, .slice none 0 0] 27))
  obtain ⟨ga, hga⟩ : ∃ g, g = w.heap.size := ⟨_, rfl⟩
  obtain ⟨gb, hgb⟩ : ∃ g, g = (w.alloc (.cells #[.int .i64 (hi ca), .int .u64 (lo ca), .slice A la.length p] 27)).heap.size := ⟨_, rfl⟩
  obtain ⟨gr, hgr⟩ : ∃ g, g = ((w.alloc (.cells #[.int .i64 (hi ca), .int .u64 (lo ca), .slice A la.length p] 27)).alloc (.cells #[.int .i64 (hi cb), .int .u64 (lo cb), .slice B lb.length q] 27)).heap.size := ⟨_, rfl⟩
  rw [← hgr, ← hgb, ← hga] at S0
  have hgb1 : gb = w.heap.size + 1 := by rw [hgb]; simp
  have hgr1 : gr = w.heap.size + 2 := by rw [hgr]; simp
  try rw [← hgr1]
  try rw [← hgb1]
  try rw [← hga]
  clear hga hgb hgr hgb1 hgr1
  generalize World.alloc (World.alloc (World.alloc w _) _) _ = w1 at *
  go_cut [5] (fun x wx => ∃ gm gx : Nat, x = .pointer (some ⟨gx, 0, none⟩) ∧ Hid (Own w No wx (Asn.blk gm 24 (cellsW (prt (sumL la lb) 0)).toArray * (Asn.blk gx 27 #[.int .i64 (hi (ca + cb)), .int .u64 (lo (ca + cb)), .slice (some ⟨gm, 0, none⟩) n n] * (Asn.blk ga 27 #[.int .i64 (hi ca), .int .u64 (lo ca), .slice A la.length p] * (Asn.blk gb 27 #[.int .i64 (hi cb), .int .u64 (lo cb), .slice B lb.length q] * (Asn.blk gr 27 #[.int .i64 0, .int .u64 0, .slice none 0 0] * Asn.emp)))))))
  case first =>
    have S1 := Lib.hid (S0.out.drew.re (show _ = Asn.blk ga 27 #[.int .i64 (hi ca), .int .u64 (lo ca), .slice A la.length p] * (Asn.blk gb 27 #[.int .i64 (hi cb), .int .u64 (lo cb), .slice B lb.length q] * (Asn.blk gr 27 #[.int .i64 0, .int .u64 0, .slice none 0 0] * Asn.emp)) by ac_rfl))
    clear S0
    obtain ⟨a0, a1, a2⟩ := tot_cells (S1.out.has (Has.l (has_blk ga _ _)))
    obtain ⟨b0, b1, b2⟩ := tot_cells (S1.out.has (Has.r (Has.l (has_blk gb _ _))))
    refine wp_region_held_drew (S := fun W : World => W.cell? ⟨ga, 0, none⟩ = some (.int .i64 (hi ca)) ∧ W.cell? ⟨ga, 1, none⟩ = some (.int .u64 (lo ca)) ∧ W.cell? ⟨ga, 2, none⟩ = some (.slice A la.length p) ∧ W.cell? ⟨gb, 0, none⟩ = some (.int .i64 (hi cb)) ∧ W.cell? ⟨gb, 1, none⟩ = some (.int .u64 (lo cb)) ∧ W.cell? ⟨gb, 2, none⟩ = some (.slice B lb.length q)) (by kernel_rfl) ⟨a0, a1, a2, b0, b1, b2⟩ (fun hHeld => ?_)
    clear a0 a1 a2 b0 b1 b2
    generalize w1.drew = w2 at *
    refine' wpAnyH_take (i := 0) (oi := ?ot1z0) (v := ?vt1z0) ?ht1z0 ?st1z0 ?ft1z0 ?zt1z0 ?qt1z0 ?yt1z0 ?at1z0 ?rt1z0
    case ht1z0 => (simp only [List.getElem?_toArray, List.getElem?_cons_succ, List.getElem?_cons_zero]; rfl)
    case st1z0 => kernel_rfl
    case ft1z0 => kernel_rfl
    case zt1z0 => kernel_rfl
    case qt1z0 => exact fun _ _ _ h => h
    case yt1z0 => (refine Or.inl ⟨rfl, ?_⟩; intro w hSw; obtain ⟨s0, s1, s2, s3, s4, s5⟩ := hSw; go_simp; try with_reducible rfl)
    case at1z0 => assumption
    case rt1z0 =>
    simp only [Act.put, List.setIfInBounds_toArray, List.set_cons_zero, List.set_cons_succ]
    refine' wpAnyH_take (i := 1) (oi := ?ot2z1) (v := ?vt2z1) ?ht2z1 ?st2z1 ?ft2z1 ?zt2z1 ?qt2z1 ?yt2z1 ?at2z1 ?rt2z1
    case ht2z1 => (simp only [List.getElem?_toArray, List.getElem?_cons_succ, List.getElem?_cons_zero]; rfl)
    case st2z1 => kernel_rfl
    case ft2z1 => kernel_rfl
    case zt2z1 => kernel_rfl
    case qt2z1 => exact fun _ _ _ h => h
    case yt2z1 => (refine Or.inl ⟨rfl, ?_⟩; intro w hSw; obtain ⟨s0, s1, s2, s3, s4, s5⟩ := hSw; go_simp; try with_reducible rfl)
    case at2z1 => assumption
    case rt2z1 =>
    simp only [Act.put, List.setIfInBounds_toArray, List.set_cons_zero, List.set_cons_succ]
    refine' wpAnyH_take (i := 2) (oi := ?ot3z2) (v := ?vt3z2) ?ht3z2 ?st3z2 ?ft3z2 ?zt3z2 ?qt3z2 ?yt3z2 ?at3z2 ?rt3z2
    case ht3z2 => (simp only [List.getElem?_toArray, List.getElem?_cons_succ, List.getElem?_cons_zero]; rfl)
    case st3z2 => kernel_rfl
    case ft3z2 => kernel_rfl
    case zt3z2 => kernel_rfl
    case qt3z2 => exact fun _ _ _ h => h
    case yt3z2 => (refine Or.inl ⟨rfl, ?_⟩; intro w hSw; obtain ⟨s0, s1, s2, s3, s4, s5⟩ := hSw; go_simp; try with_reducible rfl)
    case at3z2 => assumption
    case rt3z2 =>
    simp only [Act.put, List.setIfInBounds_toArray, List.set_cons_zero, List.set_cons_succ]
    refine' wpAnyH_take (i := 3) (oi := ?ot4z3) (v := ?vt4z3) ?ht4z3 ?st4z3 ?ft4z3 ?zt4z3 ?qt4z3 ?yt4z3 ?at4z3 ?rt4z3
    case ht4z3 => (simp only [List.getElem?_toArray, List.getElem?_cons_succ, List.getElem?_cons_zero]; rfl)
    case st4z3 => kernel_rfl
    case ft4z3 => kernel_rfl
    case zt4z3 => kernel_rfl
    case qt4z3 => exact fun _ _ _ h => h
    case yt4z3 => (refine Or.inl ⟨rfl, ?_⟩; intro w hSw; obtain ⟨s0, s1, s2, s3, s4, s5⟩ := hSw; go_simp; try with_reducible rfl)
    case at4z3 => assumption
    case rt4z3 =>
    simp only [Act.put, List.setIfInBounds_toArray, List.set_cons_zero, List.set_cons_succ]
    refine' wpAnyH_take (i := 5) (oi := ?ot5z5) (v := ?vt5z5) ?ht5z5 ?st5z5 ?ft5z5 ?zt5z5 ?qt5z5 ?yt5z5 ?at5z5 ?rt5z5
    case ht5z5 => (simp only [List.getElem?_toArray, List.getElem?_cons_succ, List.getElem?_cons_zero]; rfl)
    case st5z5 => kernel_rfl
    case ft5z5 => kernel_rfl
    case zt5z5 => kernel_rfl
    case qt5z5 => exact fun _ _ _ h => h
    case yt5z5 => (refine Or.inl ⟨rfl, ?_⟩; intro w hSw; obtain ⟨s0, s1, s2, s3, s4, s5⟩ := hSw; go_simp; try with_reducible rfl)
    case at5z5 => assumption
    case rt5z5 =>
    simp only [Act.put, List.setIfInBounds_toArray, List.set_cons_zero, List.set_cons_succ]
    refine' wpAnyH_take (i := 6) (oi := ?ot6z6) (v := ?vt6z6) ?ht6z6 ?st6z6 ?ft6z6 ?zt6z6 ?qt6z6 ?yt6z6 ?at6z6 ?rt6z6
    case ht6z6 => (simp only [List.getElem?_toArray, List.getElem?_cons_succ, List.getElem?_cons_zero]; rfl)
    case st6z6 => kernel_rfl
    case ft6z6 => kernel_rfl
    case zt6z6 => kernel_rfl
    case qt6z6 => exact fun _ _ _ h => h
    case yt6z6 => (refine Or.inl ⟨rfl, ?_⟩; intro w hSw; obtain ⟨s0, s1, s2, s3, s4, s5⟩ := hSw; go_simp; try with_reducible rfl)
    case at6z6 => assumption
    case rt6z6 =>
    simp only [Act.put, List.setIfInBounds_toArray, List.set_cons_zero, List.set_cons_succ]
    refine' wpAnyH_take (i := 7) (oi := ?ot7z7) (v := ?vt7z7) ?ht7z7 ?st7z7 ?ft7z7 ?zt7z7 ?qt7z7 ?yt7z7 ?at7z7 ?rt7z7
    case ht7z7 => (simp only [List.getElem?_toArray, List.getElem?_cons_succ, List.getElem?_cons_zero]; rfl)
    case st7z7 => kernel_rfl
    case ft7z7 => kernel_rfl
    case zt7z7 => kernel_rfl
    case qt7z7 => exact fun _ _ _ h => h
    case yt7z7 => (refine Or.inl ⟨rfl, ?_⟩; intro w hSw; obtain ⟨s0, s1, s2, s3, s4, s5⟩ := hSw; go_simp; try with_reducible rfl)
    case at7z7 => assumption
    case rt7z7 =>
    simp only [Act.put, List.setIfInBounds_toArray, List.set_cons_zero, List.set_cons_succ]
    refine' wpAnyH_take (i := 8) (oi := ?ot8z8) (v := ?vt8z8) ?ht8z8 ?st8z8 ?ft8z8 ?zt8z8 ?qt8z8 ?yt8z8 ?at8z8 ?rt8z8
    case ht8z8 => (simp only [List.getElem?_toArray, List.getElem?_cons_succ, List.getElem?_cons_zero]; rfl)
    case st8z8 => kernel_rfl
    case ft8z8 => kernel_rfl
    case zt8z8 => kernel_rfl
    case qt8z8 => exact fun _ _ _ h => h
    case yt8z8 => (refine Or.inl ⟨rfl, ?_⟩; intro w hSw; obtain ⟨s0, s1, s2, s3, s4, s5⟩ := hSw; go_simp; try with_reducible rfl)
    case at8z8 => assumption
    case rt8z8 =>
    simp only [Act.put, List.setIfInBounds_toArray, List.set_cons_zero, List.set_cons_succ]
    refine' wpAnyH_take (i := 9) (oi := ?ot9z9) (v := ?vt9z9) ?ht9z9 ?st9z9 ?ft9z9 ?zt9z9 ?qt9z9 ?yt9z9 ?at9z9 ?rt9z9
    case ht9z9 => (simp only [List.getElem?_toArray, List.getElem?_cons_succ, List.getElem?_cons_zero]; rfl)
    case st9z9 => kernel_rfl
    case ft9z9 => kernel_rfl
    case zt9z9 => kernel_rfl
    case qt9z9 => exact fun _ _ _ h => h
    case yt9z9 => (refine Or.inl ⟨rfl, ?_⟩; intro w hSw; obtain ⟨s0, s1, s2, s3, s4, s5⟩ := hSw; go_simp; try with_reducible rfl)
    case at9z9 => assumption
    case rt9z9 =>
    simp only [Act.put, List.setIfInBounds_toArray, List.set_cons_zero, List.set_cons_succ]
    refine' wpAnyH_take (i := 10) (oi := ?ot10z10) (v := ?vt10z10) ?ht10z10 ?st10z10 ?ft10z10 ?zt10z10 ?qt10z10 ?yt10z10 ?at10z10 ?rt10z10
    case ht10z10 => (simp only [List.getElem?_toArray, List.getElem?_cons_succ, List.getElem?_cons_zero]; rfl)
    case st10z10 => kernel_rfl
    case ft10z10 => kernel_rfl
    case zt10z10 => kernel_rfl
    case qt10z10 => exact fun _ _ _ h => h
    case yt10z10 => (refine Or.inl ⟨rfl, ?_⟩; intro w hSw; obtain ⟨s0, s1, s2, s3, s4, s5⟩ := hSw; go_simp; try with_reducible rfl)
    case at10z10 => assumption
    case rt10z10 =>
    simp only [Act.put, List.setIfInBounds_toArray, List.set_cons_zero, List.set_cons_succ]
    refine' wpAnyH_take (i := 11) (oi := ?ot11z11) (v := ?vt11z11) ?ht11z11 ?st11z11 ?ft11z11 ?zt11z11 ?qt11z11 ?yt11z11 ?at11z11 ?rt11z11
    case ht11z11 => (simp only [List.getElem?_toArray, List.getElem?_cons_succ, List.getElem?_cons_zero]; rfl)
    case st11z11 => kernel_rfl
    case ft11z11 => kernel_rfl
    case zt11z11 => kernel_rfl
    case qt11z11 => exact fun _ _ _ h => h
    case yt11z11 => (refine Or.inl ⟨rfl, ?_⟩; intro w hSw; obtain ⟨s0, s1, s2, s3, s4, s5⟩ := hSw; go_simp; try with_reducible rfl)
    case at11z11 => assumption
    case rt11z11 =>
    simp only [Act.put, List.setIfInBounds_toArray, List.set_cons_zero, List.set_cons_succ]
    refine wpAnyH_ready (rs := [4, 12, 14]) (by kernel_rfl) (by simp) ?_
    refine' AllReadyH.cons (o := ?ob12z4) ?hb12z4 ?kb12z4 ?mb12z4
    case hb12z4 => (simp only [List.getElem?_toArray, List.getElem?_cons_succ, List.getElem?_cons_zero]; rfl)
    case kb12z4 =>
      intro K0 hK
      go_simp
      refine (HAdd.out ca cb _).mono ?_
      rintro er wk13 ⟨rfl, hX⟩
      have SK13 := Lib.hid (S1.out.below hX)
      clear hX S1
      refine hK.out _ _ ?_ (fun hHeld => ?_)
      · exact ⟨(tot_cells (SK13.out.has (Has.l (has_blk ga _ _)))).1, (tot_cells (SK13.out.has (Has.l (has_blk ga _ _)))).2.1, (tot_cells (SK13.out.has (Has.l (has_blk ga _ _)))).2.2, (tot_cells (SK13.out.has (Has.r (Has.l (has_blk gb _ _))))).1, (tot_cells (SK13.out.has (Has.r (Has.l (has_blk gb _ _))))).2.1, (tot_cells (SK13.out.has (Has.r (Has.l (has_blk gb _ _))))).2.2⟩
      clear hK K0
      (try simp only [Act.put, List.setIfInBounds_toArray, List.set_cons_zero, List.set_cons_succ])
      (try clear hH2)
      refine wpAnyH_ready (rs := [12, 14]) (by kernel_rfl) (by simp) ?_
      refine' AllReadyH.cons (o := ?ob14z12) ?hb14z12 ?kb14z12 ?mb14z12
      case hb14z12 => (simp only [List.getElem?_toArray, List.getElem?_cons_succ, List.getElem?_cons_zero]; rfl)
      case kb14z12 =>
        intro K0 hK
        have hmk := HM.out
        go_simp
        clear hmk
        have SM15a := Lib.hid (SK13.out.alloc (cellsW (zer n)).toArray 24)
        obtain ⟨gm, hgz⟩ : ∃ g, g = wk13.heap.size := ⟨_, rfl⟩
        rw [← hgz] at SM15a ⊢
        clear hgz SK13
        generalize World.alloc wk13 _ = wm15 at *
        have SM15 := Lib.hid (SM15a.out.re (show _ = Asn.blk ga 27 #[.int .i64 (hi ca), .int .u64 (lo ca), .slice A la.length p] * (Asn.blk gb 27 #[.int .i64 (hi cb), .int .u64 (lo cb), .slice B lb.length q] * (Asn.blk gr 27 #[.int .i64 0, .int .u64 0, .slice none 0 0] * Asn.blk gm 24 (cellsW (zer n)).toArray * Asn.emp)) by ac_rfl))
        clear SM15a
        refine hK.out _ _ ?_ (fun hHeld => ?_)
        · exact ⟨(tot_cells (SM15.out.has (Has.l (has_blk ga _ _)))).1, (tot_cells (SM15.out.has (Has.l (has_blk ga _ _)))).2.1, (tot_cells (SM15.out.has (Has.l (has_blk ga _ _)))).2.2, (tot_cells (SM15.out.has (Has.r (Has.l (has_blk gb _ _))))).1, (tot_cells (SM15.out.has (Has.r (Has.l (has_blk gb _ _))))).2.1, (tot_cells (SM15.out.has (Has.r (Has.l (has_blk gb _ _))))).2.2⟩
        clear hK K0
        (try simp only [Act.put, List.setIfInBounds_toArray, List.set_cons_zero, List.set_cons_succ])
        (try clear hH2)
        refine' wpAnyH_take (i := 13) (oi := ?ot16z13) (v := ?vt16z13) ?ht16z13 ?st16z13 ?ft16z13 ?zt16z13 ?qt16z13 ?yt16z13 ?at16z13 ?rt16z13
        case ht16z13 => (simp only [List.getElem?_toArray, List.getElem?_cons_succ, List.getElem?_cons_zero]; rfl)
        case st16z13 => kernel_rfl
        case ft16z13 => kernel_rfl
        case zt16z13 => kernel_rfl
        case qt16z13 => exact fun _ _ _ h => h
        case yt16z13 => (refine Or.inl ⟨rfl, ?_⟩; intro w hSw; obtain ⟨s0, s1, s2, s3, s4, s5⟩ := hSw; go_simp; try with_reducible rfl)
        case at16z13 => assumption
        case rt16z13 =>
        simp only [Act.put, List.setIfInBounds_toArray, List.set_cons_zero, List.set_cons_succ]
        refine wpAnyH_ready (rs := [14]) (by kernel_rfl) (by simp) ?_
        refine' AllReadyH.cons (o := ?ob17z14) ?hb17z14 ?kb17z14 AllReadyH.nil
        case hb17z14 => (simp only [List.getElem?_toArray, List.getElem?_cons_succ, List.getElem?_cons_zero]; rfl)
        case kb17z14 =>
          intro K0 hK
          go_simp
          have SA18a := Lib.hid (SM15.out.alloc #[.int .i64 0, .int .u64 0, .slice none 0 0] 27)
          obtain ⟨gx, hgz⟩ : ∃ g, g = wm15.heap.size := ⟨_, rfl⟩
          rw [← hgz] at SA18a ⊢
          clear hgz SM15
          generalize World.alloc wm15 _ = wa18 at *
          have SA18 := Lib.hid (SA18a.out.re (show _ = Asn.blk ga 27 #[.int .i64 (hi ca), .int .u64 (lo ca), .slice A la.length p] * (Asn.blk gb 27 #[.int .i64 (hi cb), .int .u64 (lo cb), .slice B lb.length q] * (Asn.blk gr 27 #[.int .i64 0, .int .u64 0, .slice none 0 0] * Asn.blk gx 27 #[.int .i64 0, .int .u64 0, .slice none 0 0] * (Asn.blk gm 24 (cellsW (zer n)).toArray * Asn.emp))) by ac_rfl))
          clear SA18a
          refine hK.out _ _ ?_ (fun hHeld => ?_)
          · exact ⟨(tot_cells (SA18.out.has (Has.l (has_blk ga _ _)))).1, (tot_cells (SA18.out.has (Has.l (has_blk ga _ _)))).2.1, (tot_cells (SA18.out.has (Has.l (has_blk ga _ _)))).2.2, (tot_cells (SA18.out.has (Has.r (Has.l (has_blk gb _ _))))).1, (tot_cells (SA18.out.has (Has.r (Has.l (has_blk gb _ _))))).2.1, (tot_cells (SA18.out.has (Has.r (Has.l (has_blk gb _ _))))).2.2⟩
          clear hK K0
          (try simp only [Act.put, List.setIfInBounds_toArray, List.set_cons_zero, List.set_cons_succ])
          (try clear hH2)
          refine wpAnyH_ready (rs := [15]) (by kernel_rfl) (by simp) ?_
          refine' AllReadyH.cons (o := ?ob19z15) ?hb19z15 ?kb19z15 AllReadyH.nil
          case hb19z15 => (simp only [List.getElem?_toArray, List.getElem?_cons_succ, List.getElem?_cons_zero]; rfl)
          case kb19z15 =>
            intro K0 hK
            have SB20a := Lib.hid (SA18.out.re (show _ = Asn.blk gx 27 #[.int .i64 0, .int .u64 0, .slice none 0 0] * (Asn.blk ga 27 #[.int .i64 (hi ca), .int .u64 (lo ca), .slice A la.length p] * (Asn.blk gb 27 #[.int .i64 (hi cb), .int .u64 (lo cb), .slice B lb.length q] * (Asn.blk gr 27 #[.int .i64 0, .int .u64 0, .slice none 0 0] * (Asn.blk gm 24 (cellsW (zer n)).toArray * Asn.emp)))) by ac_rfl))
            clear SA18
            obtain ⟨x0, x1, x2⟩ := tot_cells (SB20a.out.has (Has.l (has_blk gx _ _)))
            have y0 := fr3 (SB20a.out.has (Has.l (has_blk gx _ _))) 0
            have y1 := fr3 (SB20a.out.has (Has.l (has_blk gx _ _))) 1
            have y2 := fr3 (SB20a.out.has (Has.l (has_blk gx _ _))) 2
            go_simp
            clear x0 x1 x2 y0 y1 y2
            have SB20b := Lib.hid (own_3 SB20a.out (.int .i64 (hi (ca + cb))) (.int .u64 (lo (ca + cb))) (.slice (some ⟨gm, 0, none⟩) n n))
            clear SB20a
            generalize World.setCell (World.setCell (World.setCell wa18 _ _) _ _) _ _ = wb20 at *
            have SB20 := Lib.hid (SB20b.out.re (show _ = Asn.blk ga 27 #[.int .i64 (hi ca), .int .u64 (lo ca), .slice A la.length p] * (Asn.blk gb 27 #[.int .i64 (hi cb), .int .u64 (lo cb), .slice B lb.length q] * (Asn.blk gr 27 #[.int .i64 0, .int .u64 0, .slice none 0 0] * Asn.blk gx 27 #[.int .i64 (hi (ca + cb)), .int .u64 (lo (ca + cb)), .slice (some ⟨gm, 0, none⟩) n n] * (Asn.blk gm 24 (cellsW (zer n)).toArray * Asn.emp))) by ac_rfl))
            clear SB20b
            refine hK.out _ _ ?_ (fun hHeld => ?_)
            · exact ⟨(tot_cells (SB20.out.has (Has.l (has_blk ga _ _)))).1, (tot_cells (SB20.out.has (Has.l (has_blk ga _ _)))).2.1, (tot_cells (SB20.out.has (Has.l (has_blk ga _ _)))).2.2, (tot_cells (SB20.out.has (Has.r (Has.l (has_blk gb _ _))))).1, (tot_cells (SB20.out.has (Has.r (Has.l (has_blk gb _ _))))).2.1, (tot_cells (SB20.out.has (Has.r (Has.l (has_blk gb _ _))))).2.2⟩
            clear hK K0
            (try simp only [Act.put, List.setIfInBounds_toArray, List.set_cons_zero, List.set_cons_succ])
            (try clear hH2)
            refine wpAnyH_done (by kernel_rfl) ?_ _
            have SX := Lib.hid (show Own w No wb20 (Asn.blk gm 24 (cellsW (prt (sumL la lb) 0)).toArray * (Asn.blk gx 27 #[.int .i64 (hi (ca + cb)), .int .u64 (lo (ca + cb)), .slice (some ⟨gm, 0, none⟩) n n] * (Asn.blk ga 27 #[.int .i64 (hi ca), .int .u64 (lo ca), .slice A la.length p] * (Asn.blk gb 27 #[.int .i64 (hi cb), .int .u64 (lo cb), .slice B lb.length q] * (Asn.blk gr 27 #[.int .i64 0, .int .u64 0, .slice none 0 0] * Asn.emp))))) from by
              rw [prt_zero, HN.out]
              exact SB20.out.re (by ac_rfl))
            clear SB20 HM hmn hmn2
            go_wp2_with fail
            go_meet
            case rel => exact ⟨gm, gx, rfl, SX⟩
      case mb14z12 =>
      refine' AllReadyH.cons (o := ?ob21z14) ?hb21z14 ?kb21z14 AllReadyH.nil
      case hb21z14 => (simp only [List.getElem?_toArray, List.getElem?_cons_succ, List.getElem?_cons_zero]; rfl)
      case kb21z14 =>
        intro K0 hK
        go_simp
        have SA22a := Lib.hid (SK13.out.alloc #[.int .i64 0, .int .u64 0, .slice none 0 0] 27)
        obtain ⟨gx, hgz⟩ : ∃ g, g = wk13.heap.size := ⟨_, rfl⟩
        rw [← hgz] at SA22a ⊢
        clear hgz SK13
        generalize World.alloc wk13 _ = wa22 at *
        have SA22 := Lib.hid (SA22a.out.re (show _ = Asn.blk ga 27 #[.int .i64 (hi ca), .int .u64 (lo ca), .slice A la.length p] * (Asn.blk gb 27 #[.int .i64 (hi cb), .int .u64 (lo cb), .slice B lb.length q] * (Asn.blk gr 27 #[.int .i64 0, .int .u64 0, .slice none 0 0] * Asn.blk gx 27 #[.int .i64 0, .int .u64 0, .slice none 0 0] * (Asn.emp))) by ac_rfl))
        clear SA22a
        refine hK.out _ _ ?_ (fun hHeld => ?_)
        · exact ⟨(tot_cells (SA22.out.has (Has.l (has_blk ga _ _)))).1, (tot_cells (SA22.out.has (Has.l (has_blk ga _ _)))).2.1, (tot_cells (SA22.out.has (Has.l (has_blk ga _ _)))).2.2, (tot_cells (SA22.out.has (Has.r (Has.l (has_blk gb _ _))))).1, (tot_cells (SA22.out.has (Has.r (Has.l (has_blk gb _ _))))).2.1, (tot_cells (SA22.out.has (Has.r (Has.l (has_blk gb _ _))))).2.2⟩
        clear hK K0
        (try simp only [Act.put, List.setIfInBounds_toArray, List.set_cons_zero, List.set_cons_succ])
        (try clear hH2)
        refine wpAnyH_ready (rs := [12]) (by kernel_rfl) (by simp) ?_
        refine' AllReadyH.cons (o := ?ob23z12) ?hb23z12 ?kb23z12 AllReadyH.nil
        case hb23z12 => (simp only [List.getElem?_toArray, List.getElem?_cons_succ, List.getElem?_cons_zero]; rfl)
        case kb23z12 =>
          intro K0 hK
          have hmk := HM.out
          go_simp
          clear hmk
          have SM24a := Lib.hid (SA22.out.alloc (cellsW (zer n)).toArray 24)
          obtain ⟨gm, hgz⟩ : ∃ g, g = wa22.heap.size := ⟨_, rfl⟩
          rw [← hgz] at SM24a ⊢
          clear hgz SA22
          generalize World.alloc wa22 _ = wm24 at *
          have SM24 := Lib.hid (SM24a.out.re (show _ = Asn.blk ga 27 #[.int .i64 (hi ca), .int .u64 (lo ca), .slice A la.length p] * (Asn.blk gb 27 #[.int .i64 (hi cb), .int .u64 (lo cb), .slice B lb.length q] * (Asn.blk gr 27 #[.int .i64 0, .int .u64 0, .slice none 0 0] * Asn.blk gx 27 #[.int .i64 0, .int .u64 0, .slice none 0 0] * (Asn.blk gm 24 (cellsW (zer n)).toArray * Asn.emp))) by ac_rfl))
          clear SM24a
          refine hK.out _ _ ?_ (fun hHeld => ?_)
          · exact ⟨(tot_cells (SM24.out.has (Has.l (has_blk ga _ _)))).1, (tot_cells (SM24.out.has (Has.l (has_blk ga _ _)))).2.1, (tot_cells (SM24.out.has (Has.l (has_blk ga _ _)))).2.2, (tot_cells (SM24.out.has (Has.r (Has.l (has_blk gb _ _))))).1, (tot_cells (SM24.out.has (Has.r (Has.l (has_blk gb _ _))))).2.1, (tot_cells (SM24.out.has (Has.r (Has.l (has_blk gb _ _))))).2.2⟩
          clear hK K0
          (try simp only [Act.put, List.setIfInBounds_toArray, List.set_cons_zero, List.set_cons_succ])
          (try clear hH2)
          refine' wpAnyH_take (i := 13) (oi := ?ot25z13) (v := ?vt25z13) ?ht25z13 ?st25z13 ?ft25z13 ?zt25z13 ?qt25z13 ?yt25z13 ?at25z13 ?rt25z13
          case ht25z13 => (simp only [List.getElem?_toArray, List.getElem?_cons_succ, List.getElem?_cons_zero]; rfl)
          case st25z13 => kernel_rfl
          case ft25z13 => kernel_rfl
          case zt25z13 => kernel_rfl
          case qt25z13 => exact fun _ _ _ h => h
          case yt25z13 => (refine Or.inl ⟨rfl, ?_⟩; intro w hSw; obtain ⟨s0, s1, s2, s3, s4, s5⟩ := hSw; go_simp; try with_reducible rfl)
          case at25z13 => assumption
          case rt25z13 =>
          simp only [Act.put, List.setIfInBounds_toArray, List.set_cons_zero, List.set_cons_succ]
          refine wpAnyH_ready (rs := [15]) (by kernel_rfl) (by simp) ?_
          refine' AllReadyH.cons (o := ?ob26z15) ?hb26z15 ?kb26z15 AllReadyH.nil
          case hb26z15 => (simp only [List.getElem?_toArray, List.getElem?_cons_succ, List.getElem?_cons_zero]; rfl)
          case kb26z15 =>
            intro K0 hK
            have SB27a := Lib.hid (SM24.out.re (show _ = Asn.blk gx 27 #[.int .i64 0, .int .u64 0, .slice none 0 0] * (Asn.blk ga 27 #[.int .i64 (hi ca), .int .u64 (lo ca), .slice A la.length p] * (Asn.blk gb 27 #[.int .i64 (hi cb), .int .u64 (lo cb), .slice B lb.length q] * (Asn.blk gr 27 #[.int .i64 0, .int .u64 0, .slice none 0 0] * (Asn.blk gm 24 (cellsW (zer n)).toArray * Asn.emp)))) by ac_rfl))
            clear SM24
            obtain ⟨x0, x1, x2⟩ := tot_cells (SB27a.out.has (Has.l (has_blk gx _ _)))
            have y0 := fr3 (SB27a.out.has (Has.l (has_blk gx _ _))) 0
            have y1 := fr3 (SB27a.out.has (Has.l (has_blk gx _ _))) 1
            have y2 := fr3 (SB27a.out.has (Has.l (has_blk gx _ _))) 2
            go_simp
            clear x0 x1 x2 y0 y1 y2
            have SB27b := Lib.hid (own_3 SB27a.out (.int .i64 (hi (ca + cb))) (.int .u64 (lo (ca + cb))) (.slice (some ⟨gm, 0, none⟩) n n))
            clear SB27a
            generalize World.setCell (World.setCell (World.setCell wm24 _ _) _ _) _ _ = wb27 at *
            have SB27 := Lib.hid (SB27b.out.re (show _ = Asn.blk ga 27 #[.int .i64 (hi ca), .int .u64 (lo ca), .slice A la.length p] * (Asn.blk gb 27 #[.int .i64 (hi cb), .int .u64 (lo cb), .slice B lb.length q] * (Asn.blk gr 27 #[.int .i64 0, .int .u64 0, .slice none 0 0] * Asn.blk gx 27 #[.int .i64 (hi (ca + cb)), .int .u64 (lo (ca + cb)), .slice (some ⟨gm, 0, none⟩) n n] * (Asn.blk gm 24 (cellsW (zer n)).toArray * Asn.emp))) by ac_rfl))
            clear SB27b
            refine hK.out _ _ ?_ (fun hHeld => ?_)
            · exact ⟨(tot_cells (SB27.out.has (Has.l (has_blk ga _ _)))).1, (tot_cells (SB27.out.has (Has.l (has_blk ga _ _)))).2.1, (tot_cells (SB27.out.has (Has.l (has_blk ga _ _)))).2.2, (tot_cells (SB27.out.has (Has.r (Has.l (has_blk gb _ _))))).1, (tot_cells (SB27.out.has (Has.r (Has.l (has_blk gb _ _))))).2.1, (tot_cells (SB27.out.has (Has.r (Has.l (has_blk gb _ _))))).2.2⟩
            clear hK K0
            (try simp only [Act.put, List.setIfInBounds_toArray, List.set_cons_zero, List.set_cons_succ])
            (try clear hH2)
            refine wpAnyH_done (by kernel_rfl) ?_ _
            have SX := Lib.hid (show Own w No wb27 (Asn.blk gm 24 (cellsW (prt (sumL la lb) 0)).toArray * (Asn.blk gx 27 #[.int .i64 (hi (ca + cb)), .int .u64 (lo (ca + cb)), .slice (some ⟨gm, 0, none⟩) n n] * (Asn.blk ga 27 #[.int .i64 (hi ca), .int .u64 (lo ca), .slice A la.length p] * (Asn.blk gb 27 #[.int .i64 (hi cb), .int .u64 (lo cb), .slice B lb.length q] * (Asn.blk gr 27 #[.int .i64 0, .int .u64 0, .slice none 0 0] * Asn.emp))))) from by
              rw [prt_zero, HN.out]
              exact SB27.out.re (by ac_rfl))
            clear SB27 HM hmn hmn2
            go_wp2_with fail
            go_meet
            case rel => exact ⟨gm, gx, rfl, SX⟩
    case mb12z4 =>
    refine' AllReadyH.cons (o := ?ob28z12) ?hb28z12 ?kb28z12 ?mb28z12
    case hb28z12 => (simp only [List.getElem?_toArray, List.getElem?_cons_succ, List.getElem?_cons_zero]; rfl)
    case kb28z12 =>
      intro K0 hK
      have hmk := HM.out
      go_simp
      clear hmk
      have SM29a := Lib.hid (S1.out.alloc (cellsW (zer n)).toArray 24)
      obtain ⟨gm, hgz⟩ : ∃ g, g = w2.heap.size := ⟨_, rfl⟩
      rw [← hgz] at SM29a ⊢
      clear hgz S1
      generalize World.alloc w2 _ = wm29 at *
      have SM29 := Lib.hid (SM29a.out.re (show _ = Asn.blk ga 27 #[.int .i64 (hi ca), .int .u64 (lo ca), .slice A la.length p] * (Asn.blk gb 27 #[.int .i64 (hi cb), .int .u64 (lo cb), .slice B lb.length q] * (Asn.blk gr 27 #[.int .i64 0, .int .u64 0, .slice none 0 0] * Asn.blk gm 24 (cellsW (zer n)).toArray * Asn.emp)) by ac_rfl))
      clear SM29a
      refine hK.out _ _ ?_ (fun hHeld => ?_)
      · exact ⟨(tot_cells (SM29.out.has (Has.l (has_blk ga _ _)))).1, (tot_cells (SM29.out.has (Has.l (has_blk ga _ _)))).2.1, (tot_cells (SM29.out.has (Has.l (has_blk ga _ _)))).2.2, (tot_cells (SM29.out.has (Has.r (Has.l (has_blk gb _ _))))).1, (tot_cells (SM29.out.has (Has.r (Has.l (has_blk gb _ _))))).2.1, (tot_cells (SM29.out.has (Has.r (Has.l (has_blk gb _ _))))).2.2⟩
      clear hK K0
      (try simp only [Act.put, List.setIfInBounds_toArray, List.set_cons_zero, List.set_cons_succ])
      (try clear hH2)
      refine wpAnyH_ready (rs := [4, 14]) (by kernel_rfl) (by simp) ?_
      refine' AllReadyH.cons (o := ?ob30z4) ?hb30z4 ?kb30z4 ?mb30z4
      case hb30z4 => (simp only [List.getElem?_toArray, List.getElem?_cons_succ, List.getElem?_cons_zero]; rfl)
      case kb30z4 =>
        intro K0 hK
        go_simp
        refine (HAdd.out ca cb _).mono ?_
        rintro er wk31 ⟨rfl, hX⟩
        have SK31 := Lib.hid (SM29.out.below hX)
        clear hX SM29
        refine hK.out _ _ ?_ (fun hHeld => ?_)
        · exact ⟨(tot_cells (SK31.out.has (Has.l (has_blk ga _ _)))).1, (tot_cells (SK31.out.has (Has.l (has_blk ga _ _)))).2.1, (tot_cells (SK31.out.has (Has.l (has_blk ga _ _)))).2.2, (tot_cells (SK31.out.has (Has.r (Has.l (has_blk gb _ _))))).1, (tot_cells (SK31.out.has (Has.r (Has.l (has_blk gb _ _))))).2.1, (tot_cells (SK31.out.has (Has.r (Has.l (has_blk gb _ _))))).2.2⟩
        clear hK K0
        (try simp only [Act.put, List.setIfInBounds_toArray, List.set_cons_zero, List.set_cons_succ])
        (try clear hH2)
        refine' wpAnyH_take (i := 13) (oi := ?ot32z13) (v := ?vt32z13) ?ht32z13 ?st32z13 ?ft32z13 ?zt32z13 ?qt32z13 ?yt32z13 ?at32z13 ?rt32z13
        case ht32z13 => (simp only [List.getElem?_toArray, List.getElem?_cons_succ, List.getElem?_cons_zero]; rfl)
        case st32z13 => kernel_rfl
        case ft32z13 => kernel_rfl
        case zt32z13 => kernel_rfl
        case qt32z13 => exact fun _ _ _ h => h
        case yt32z13 => (refine Or.inl ⟨rfl, ?_⟩; intro w hSw; obtain ⟨s0, s1, s2, s3, s4, s5⟩ := hSw; go_simp; try with_reducible rfl)
        case at32z13 => assumption
        case rt32z13 =>
        simp only [Act.put, List.setIfInBounds_toArray, List.set_cons_zero, List.set_cons_succ]
        refine wpAnyH_ready (rs := [14]) (by kernel_rfl) (by simp) ?_
        refine' AllReadyH.cons (o := ?ob33z14) ?hb33z14 ?kb33z14 AllReadyH.nil
        case hb33z14 => (simp only [List.getElem?_toArray, List.getElem?_cons_succ, List.getElem?_cons_zero]; rfl)
        case kb33z14 =>
          intro K0 hK
          go_simp
          have SA34a := Lib.hid (SK31.out.alloc #[.int .i64 0, .int .u64 0, .slice none 0 0] 27)
          obtain ⟨gx, hgz⟩ : ∃ g, g = wk31.heap.size := ⟨_, rfl⟩
          rw [← hgz] at SA34a ⊢
          clear hgz SK31
          generalize World.alloc wk31 _ = wa34 at *
          have SA34 := Lib.hid (SA34a.out.re (show _ = Asn.blk ga 27 #[.int .i64 (hi ca), .int .u64 (lo ca), .slice A la.length p] * (Asn.blk gb 27 #[.int .i64 (hi cb), .int .u64 (lo cb), .slice B lb.length q] * (Asn.blk gr 27 #[.int .i64 0, .int .u64 0, .slice none 0 0] * Asn.blk gx 27 #[.int .i64 0, .int .u64 0, .slice none 0 0] * (Asn.blk gm 24 (cellsW (zer n)).toArray * Asn.emp))) by ac_rfl))
          clear SA34a
          refine hK.out _ _ ?_ (fun hHeld => ?_)
          · exact ⟨(tot_cells (SA34.out.has (Has.l (has_blk ga _ _)))).1, (tot_cells (SA34.out.has (Has.l (has_blk ga _ _)))).2.1, (tot_cells (SA34.out.has (Has.l (has_blk ga _ _)))).2.2, (tot_cells (SA34.out.has (Has.r (Has.l (has_blk gb _ _))))).1, (tot_cells (SA34.out.has (Has.r (Has.l (has_blk gb _ _))))).2.1, (tot_cells (SA34.out.has (Has.r (Has.l (has_blk gb _ _))))).2.2⟩
          clear hK K0
          (try simp only [Act.put, List.setIfInBounds_toArray, List.set_cons_zero, List.set_cons_succ])
          (try clear hH2)
          refine wpAnyH_ready (rs := [15]) (by kernel_rfl) (by simp) ?_
          refine' AllReadyH.cons (o := ?ob35z15) ?hb35z15 ?kb35z15 AllReadyH.nil
          case hb35z15 => (simp only [List.getElem?_toArray, List.getElem?_cons_succ, List.getElem?_cons_zero]; rfl)
          case kb35z15 =>
            intro K0 hK
            have SB36a := Lib.hid (SA34.out.re (show _ = Asn.blk gx 27 #[.int .i64 0, .int .u64 0, .slice none 0 0] * (Asn.blk ga 27 #[.int .i64 (hi ca), .int .u64 (lo ca), .slice A la.length p] * (Asn.blk gb 27 #[.int .i64 (hi cb), .int .u64 (lo cb), .slice B lb.length q] * (Asn.blk gr 27 #[.int .i64 0, .int .u64 0, .slice none 0 0] * (Asn.blk gm 24 (cellsW (zer n)).toArray * Asn.emp)))) by ac_rfl))
            clear SA34
            obtain ⟨x0, x1, x2⟩ := tot_cells (SB36a.out.has (Has.l (has_blk gx _ _)))
            have y0 := fr3 (SB36a.out.has (Has.l (has_blk gx _ _))) 0
            have y1 := fr3 (SB36a.out.has (Has.l (has_blk gx _ _))) 1
            have y2 := fr3 (SB36a.out.has (Has.l (has_blk gx _ _))) 2
            go_simp
            clear x0 x1 x2 y0 y1 y2
            have SB36b := Lib.hid (own_3 SB36a.out (.int .i64 (hi (ca + cb))) (.int .u64 (lo (ca + cb))) (.slice (some ⟨gm, 0, none⟩) n n))
            clear SB36a
            generalize World.setCell (World.setCell (World.setCell wa34 _ _) _ _) _ _ = wb36 at *
            have SB36 := Lib.hid (SB36b.out.re (show _ = Asn.blk ga 27 #[.int .i64 (hi ca), .int .u64 (lo ca), .slice A la.length p] * (Asn.blk gb 27 #[.int .i64 (hi cb), .int .u64 (lo cb), .slice B lb.length q] * (Asn.blk gr 27 #[.int .i64 0, .int .u64 0, .slice none 0 0] * Asn.blk gx 27 #[.int .i64 (hi (ca + cb)), .int .u64 (lo (ca + cb)), .slice (some ⟨gm, 0, none⟩) n n] * (Asn.blk gm 24 (cellsW (zer n)).toArray * Asn.emp))) by ac_rfl))
            clear SB36b
            refine hK.out _ _ ?_ (fun hHeld => ?_)
            · exact ⟨(tot_cells (SB36.out.has (Has.l (has_blk ga _ _)))).1, (tot_cells (SB36.out.has (Has.l (has_blk ga _ _)))).2.1, (tot_cells (SB36.out.has (Has.l (has_blk ga _ _)))).2.2, (tot_cells (SB36.out.has (Has.r (Has.l (has_blk gb _ _))))).1, (tot_cells (SB36.out.has (Has.r (Has.l (has_blk gb _ _))))).2.1, (tot_cells (SB36.out.has (Has.r (Has.l (has_blk gb _ _))))).2.2⟩
            clear hK K0
            (try simp only [Act.put, List.setIfInBounds_toArray, List.set_cons_zero, List.set_cons_succ])
            (try clear hH2)
            refine wpAnyH_done (by kernel_rfl) ?_ _
            have SX := Lib.hid (show Own w No wb36 (Asn.blk gm 24 (cellsW (prt (sumL la lb) 0)).toArray * (Asn.blk gx 27 #[.int .i64 (hi (ca + cb)), .int .u64 (lo (ca + cb)), .slice (some ⟨gm, 0, none⟩) n n] * (Asn.blk ga 27 #[.int .i64 (hi ca), .int .u64 (lo ca), .slice A la.length p] * (Asn.blk gb 27 #[.int .i64 (hi cb), .int .u64 (lo cb), .slice B lb.length q] * (Asn.blk gr 27 #[.int .i64 0, .int .u64 0, .slice none 0 0] * Asn.emp))))) from by
              rw [prt_zero, HN.out]
              exact SB36.out.re (by ac_rfl))
            clear SB36 HM hmn hmn2
            go_wp2_with fail
            go_meet
            case rel => exact ⟨gm, gx, rfl, SX⟩
      case mb30z4 =>
      refine' AllReadyH.cons (o := ?ob37z14) ?hb37z14 ?kb37z14 AllReadyH.nil
      case hb37z14 => (simp only [List.getElem?_toArray, List.getElem?_cons_succ, List.getElem?_cons_zero]; rfl)
      case kb37z14 =>
        intro K0 hK
        go_simp
        have SA38a := Lib.hid (SM29.out.alloc #[.int .i64 0, .int .u64 0, .slice none 0 0] 27)
        obtain ⟨gx, hgz⟩ : ∃ g, g = wm29.heap.size := ⟨_, rfl⟩
        rw [← hgz] at SA38a ⊢
        clear hgz SM29
        generalize World.alloc wm29 _ = wa38 at *
        have SA38 := Lib.hid (SA38a.out.re (show _ = Asn.blk ga 27 #[.int .i64 (hi ca), .int .u64 (lo ca), .slice A la.length p] * (Asn.blk gb 27 #[.int .i64 (hi cb), .int .u64 (lo cb), .slice B lb.length q] * (Asn.blk gr 27 #[.int .i64 0, .int .u64 0, .slice none 0 0] * Asn.blk gx 27 #[.int .i64 0, .int .u64 0, .slice none 0 0] * (Asn.blk gm 24 (cellsW (zer n)).toArray * Asn.emp))) by ac_rfl))
        clear SA38a
        refine hK.out _ _ ?_ (fun hHeld => ?_)
        · exact ⟨(tot_cells (SA38.out.has (Has.l (has_blk ga _ _)))).1, (tot_cells (SA38.out.has (Has.l (has_blk ga _ _)))).2.1, (tot_cells (SA38.out.has (Has.l (has_blk ga _ _)))).2.2, (tot_cells (SA38.out.has (Has.r (Has.l (has_blk gb _ _))))).1, (tot_cells (SA38.out.has (Has.r (Has.l (has_blk gb _ _))))).2.1, (tot_cells (SA38.out.has (Has.r (Has.l (has_blk gb _ _))))).2.2⟩
        clear hK K0
        (try simp only [Act.put, List.setIfInBounds_toArray, List.set_cons_zero, List.set_cons_succ])
        (try clear hH2)
        refine wpAnyH_ready (rs := [4]) (by kernel_rfl) (by simp) ?_
        refine' AllReadyH.cons (o := ?ob39z4) ?hb39z4 ?kb39z4 AllReadyH.nil
        case hb39z4 => (simp only [List.getElem?_toArray, List.getElem?_cons_succ, List.getElem?_cons_zero]; rfl)
        case kb39z4 =>
          intro K0 hK
          go_simp
          refine (HAdd.out ca cb _).mono ?_
          rintro er wk40 ⟨rfl, hX⟩
          have SK40 := Lib.hid (SA38.out.below hX)
          clear hX SA38
          refine hK.out _ _ ?_ (fun hHeld => ?_)
          · exact ⟨(tot_cells (SK40.out.has (Has.l (has_blk ga _ _)))).1, (tot_cells (SK40.out.has (Has.l (has_blk ga _ _)))).2.1, (tot_cells (SK40.out.has (Has.l (has_blk ga _ _)))).2.2, (tot_cells (SK40.out.has (Has.r (Has.l (has_blk gb _ _))))).1, (tot_cells (SK40.out.has (Has.r (Has.l (has_blk gb _ _))))).2.1, (tot_cells (SK40.out.has (Has.r (Has.l (has_blk gb _ _))))).2.2⟩
          clear hK K0
          (try simp only [Act.put, List.setIfInBounds_toArray, List.set_cons_zero, List.set_cons_succ])
          (try clear hH2)
          refine' wpAnyH_take (i := 13) (oi := ?ot41z13) (v := ?vt41z13) ?ht41z13 ?st41z13 ?ft41z13 ?zt41z13 ?qt41z13 ?yt41z13 ?at41z13 ?rt41z13
          case ht41z13 => (simp only [List.getElem?_toArray, List.getElem?_cons_succ, List.getElem?_cons_zero]; rfl)
          case st41z13 => kernel_rfl
          case ft41z13 => kernel_rfl
          case zt41z13 => kernel_rfl
          case qt41z13 => exact fun _ _ _ h => h
          case yt41z13 => (refine Or.inl ⟨rfl, ?_⟩; intro w hSw; obtain ⟨s0, s1, s2, s3, s4, s5⟩ := hSw; go_simp; try with_reducible rfl)
          case at41z13 => assumption
          case rt41z13 =>
          simp only [Act.put, List.setIfInBounds_toArray, List.set_cons_zero, List.set_cons_succ]
          refine wpAnyH_ready (rs := [15]) (by kernel_rfl) (by simp) ?_
          refine' AllReadyH.cons (o := ?ob42z15) ?hb42z15 ?kb42z15 AllReadyH.nil
          case hb42z15 => (simp only [List.getElem?_toArray, List.getElem?_cons_succ, List.getElem?_cons_zero]; rfl)
          case kb42z15 =>
            intro K0 hK
            have SB43a := Lib.hid (SK40.out.re (show _ = Asn.blk gx 27 #[.int .i64 0, .int .u64 0, .slice none 0 0] * (Asn.blk ga 27 #[.int .i64 (hi ca), .int .u64 (lo ca), .slice A la.length p] * (Asn.blk gb 27 #[.int .i64 (hi cb), .int .u64 (lo cb), .slice B lb.length q] * (Asn.blk gr 27 #[.int .i64 0, .int .u64 0, .slice none 0 0] * (Asn.blk gm 24 (cellsW (zer n)).toArray * Asn.emp)))) by ac_rfl))
            clear SK40
            obtain ⟨x0, x1, x2⟩ := tot_cells (SB43a.out.has (Has.l (has_blk gx _ _)))
            have y0 := fr3 (SB43a.out.has (Has.l (has_blk gx _ _))) 0
            have y1 := fr3 (SB43a.out.has (Has.l (has_blk gx _ _))) 1
            have y2 := fr3 (SB43a.out.has (Has.l (has_blk gx _ _))) 2
            go_simp
            clear x0 x1 x2 y0 y1 y2
            have SB43b := Lib.hid (own_3 SB43a.out (.int .i64 (hi (ca + cb))) (.int .u64 (lo (ca + cb))) (.slice (some ⟨gm, 0, none⟩) n n))
            clear SB43a
            generalize World.setCell (World.setCell (World.setCell wk40 _ _) _ _) _ _ = wb43 at *
            have SB43 := Lib.hid (SB43b.out.re (show _ = Asn.blk ga 27 #[.int .i64 (hi ca), .int .u64 (lo ca), .slice A la.length p] * (Asn.blk gb 27 #[.int .i64 (hi cb), .int .u64 (lo cb), .slice B lb.length q] * (Asn.blk gr 27 #[.int .i64 0, .int .u64 0, .slice none 0 0] * Asn.blk gx 27 #[.int .i64 (hi (ca + cb)), .int .u64 (lo (ca + cb)), .slice (some ⟨gm, 0, none⟩) n n] * (Asn.blk gm 24 (cellsW (zer n)).toArray * Asn.emp))) by ac_rfl))
            clear SB43b
            refine hK.out _ _ ?_ (fun hHeld => ?_)
            · exact ⟨(tot_cells (SB43.out.has (Has.l (has_blk ga _ _)))).1, (tot_cells (SB43.out.has (Has.l (has_blk ga _ _)))).2.1, (tot_cells (SB43.out.has (Has.l (has_blk ga _ _)))).2.2, (tot_cells (SB43.out.has (Has.r (Has.l (has_blk gb _ _))))).1, (tot_cells (SB43.out.has (Has.r (Has.l (has_blk gb _ _))))).2.1, (tot_cells (SB43.out.has (Has.r (Has.l (has_blk gb _ _))))).2.2⟩
            clear hK K0
            (try simp only [Act.put, List.setIfInBounds_toArray, List.set_cons_zero, List.set_cons_succ])
            (try clear hH2)
            refine wpAnyH_done (by kernel_rfl) ?_ _
            have SX := Lib.hid (show Own w No wb43 (Asn.blk gm 24 (cellsW (prt (sumL la lb) 0)).toArray * (Asn.blk gx 27 #[.int .i64 (hi (ca + cb)), .int .u64 (lo (ca + cb)), .slice (some ⟨gm, 0, none⟩) n n] * (Asn.blk ga 27 #[.int .i64 (hi ca), .int .u64 (lo ca), .slice A la.length p] * (Asn.blk gb 27 #[.int .i64 (hi cb), .int .u64 (lo cb), .slice B lb.length q] * (Asn.blk gr 27 #[.int .i64 0, .int .u64 0, .slice none 0 0] * Asn.emp))))) from by
              rw [prt_zero, HN.out]
              exact SB43.out.re (by ac_rfl))
            clear SB43 HM hmn hmn2
            go_wp2_with fail
            go_meet
            case rel => exact ⟨gm, gx, rfl, SX⟩
    case mb28z12 =>
    refine' AllReadyH.cons (o := ?ob44z14) ?hb44z14 ?kb44z14 AllReadyH.nil
    case hb44z14 => (simp only [List.getElem?_toArray, List.getElem?_cons_succ, List.getElem?_cons_zero]; rfl)
    case kb44z14 =>
      intro K0 hK
      go_simp
      have SA45a := Lib.hid (S1.out.alloc #[.int .i64 0, .int .u64 0, .slice none 0 0] 27)
      obtain ⟨gx, hgz⟩ : ∃ g, g = w2.heap.size := ⟨_, rfl⟩
      rw [← hgz] at SA45a ⊢
      clear hgz S1
      generalize World.alloc w2 _ = wa45 at *
      have SA45 := Lib.hid (SA45a.out.re (show _ = Asn.blk ga 27 #[.int .i64 (hi ca), .int .u64 (lo ca), .slice A la.length p] * (Asn.blk gb 27 #[.int .i64 (hi cb), .int .u64 (lo cb), .slice B lb.length q] * (Asn.blk gr 27 #[.int .i64 0, .int .u64 0, .slice none 0 0] * Asn.blk gx 27 #[.int .i64 0, .int .u64 0, .slice none 0 0] * (Asn.emp))) by ac_rfl))
      clear SA45a
      refine hK.out _ _ ?_ (fun hHeld => ?_)
      · exact ⟨(tot_cells (SA45.out.has (Has.l (has_blk ga _ _)))).1, (tot_cells (SA45.out.has (Has.l (has_blk ga _ _)))).2.1, (tot_cells (SA45.out.has (Has.l (has_blk ga _ _)))).2.2, (tot_cells (SA45.out.has (Has.r (Has.l (has_blk gb _ _))))).1, (tot_cells (SA45.out.has (Has.r (Has.l (has_blk gb _ _))))).2.1, (tot_cells (SA45.out.has (Has.r (Has.l (has_blk gb _ _))))).2.2⟩
      clear hK K0
      (try simp only [Act.put, List.setIfInBounds_toArray, List.set_cons_zero, List.set_cons_succ])
      (try clear hH2)
      refine wpAnyH_ready (rs := [4, 12]) (by kernel_rfl) (by simp) ?_
      refine' AllReadyH.cons (o := ?ob46z4) ?hb46z4 ?kb46z4 ?mb46z4
      case hb46z4 => (simp only [List.getElem?_toArray, List.getElem?_cons_succ, List.getElem?_cons_zero]; rfl)
      case kb46z4 =>
        intro K0 hK
        go_simp
        refine (HAdd.out ca cb _).mono ?_
        rintro er wk47 ⟨rfl, hX⟩
        have SK47 := Lib.hid (SA45.out.below hX)
        clear hX SA45
        refine hK.out _ _ ?_ (fun hHeld => ?_)
        · exact ⟨(tot_cells (SK47.out.has (Has.l (has_blk ga _ _)))).1, (tot_cells (SK47.out.has (Has.l (has_blk ga _ _)))).2.1, (tot_cells (SK47.out.has (Has.l (has_blk ga _ _)))).2.2, (tot_cells (SK47.out.has (Has.r (Has.l (has_blk gb _ _))))).1, (tot_cells (SK47.out.has (Has.r (Has.l (has_blk gb _ _))))).2.1, (tot_cells (SK47.out.has (Has.r (Has.l (has_blk gb _ _))))).2.2⟩
        clear hK K0
        (try simp only [Act.put, List.setIfInBounds_toArray, List.set_cons_zero, List.set_cons_succ])
        (try clear hH2)
        refine wpAnyH_ready (rs := [12]) (by kernel_rfl) (by simp) ?_
        refine' AllReadyH.cons (o := ?ob48z12) ?hb48z12 ?kb48z12 AllReadyH.nil
        case hb48z12 => (simp only [List.getElem?_toArray, List.getElem?_cons_succ, List.getElem?_cons_zero]; rfl)
        case kb48z12 =>
          intro K0 hK
          have hmk := HM.out
          go_simp
          clear hmk
          have SM49a := Lib.hid (SK47.out.alloc (cellsW (zer n)).toArray 24)
          obtain ⟨gm, hgz⟩ : ∃ g, g = wk47.heap.size := ⟨_, rfl⟩
          rw [← hgz] at SM49a ⊢
          clear hgz SK47
          generalize World.alloc wk47 _ = wm49 at *
          have SM49 := Lib.hid (SM49a.out.re (show _ = Asn.blk ga 27 #[.int .i64 (hi ca), .int .u64 (lo ca), .slice A la.length p] * (Asn.blk gb 27 #[.int .i64 (hi cb), .int .u64 (lo cb), .slice B lb.length q] * (Asn.blk gr 27 #[.int .i64 0, .int .u64 0, .slice none 0 0] * Asn.blk gx 27 #[.int .i64 0, .int .u64 0, .slice none 0 0] * (Asn.blk gm 24 (cellsW (zer n)).toArray * Asn.emp))) by ac_rfl))
          clear SM49a
          refine hK.out _ _ ?_ (fun hHeld => ?_)
          · exact ⟨(tot_cells (SM49.out.has (Has.l (has_blk ga _ _)))).1, (tot_cells (SM49.out.has (Has.l (has_blk ga _ _)))).2.1, (tot_cells (SM49.out.has (Has.l (has_blk ga _ _)))).2.2, (tot_cells (SM49.out.has (Has.r (Has.l (has_blk gb _ _))))).1, (tot_cells (SM49.out.has (Has.r (Has.l (has_blk gb _ _))))).2.1, (tot_cells (SM49.out.has (Has.r (Has.l (has_blk gb _ _))))).2.2⟩
          clear hK K0
          (try simp only [Act.put, List.setIfInBounds_toArray, List.set_cons_zero, List.set_cons_succ])
          (try clear hH2)
          refine' wpAnyH_take (i := 13) (oi := ?ot50z13) (v := ?vt50z13) ?ht50z13 ?st50z13 ?ft50z13 ?zt50z13 ?qt50z13 ?yt50z13 ?at50z13 ?rt50z13
          case ht50z13 => (simp only [List.getElem?_toArray, List.getElem?_cons_succ, List.getElem?_cons_zero]; rfl)
          case st50z13 => kernel_rfl
          case ft50z13 => kernel_rfl
          case zt50z13 => kernel_rfl
          case qt50z13 => exact fun _ _ _ h => h
          case yt50z13 => (refine Or.inl ⟨rfl, ?_⟩; intro w hSw; obtain ⟨s0, s1, s2, s3, s4, s5⟩ := hSw; go_simp; try with_reducible rfl)
          case at50z13 => assumption
          case rt50z13 =>
          simp only [Act.put, List.setIfInBounds_toArray, List.set_cons_zero, List.set_cons_succ]
          refine wpAnyH_ready (rs := [15]) (by kernel_rfl) (by simp) ?_
          refine' AllReadyH.cons (o := ?ob51z15) ?hb51z15 ?kb51z15 AllReadyH.nil
          case hb51z15 => (simp only [List.getElem?_toArray, List.getElem?_cons_succ, List.getElem?_cons_zero]; rfl)
          case kb51z15 =>
            intro K0 hK
            have SB52a := Lib.hid (SM49.out.re (show _ = Asn.blk gx 27 #[.int .i64 0, .int .u64 0, .slice none 0 0] * (Asn.blk ga 27 #[.int .i64 (hi ca), .int .u64 (lo ca), .slice A la.length p] * (Asn.blk gb 27 #[.int .i64 (hi cb), .int .u64 (lo cb), .slice B lb.length q] * (Asn.blk gr 27 #[.int .i64 0, .int .u64 0, .slice none 0 0] * (Asn.blk gm 24 (cellsW (zer n)).toArray * Asn.emp)))) by ac_rfl))
            clear SM49
            obtain ⟨x0, x1, x2⟩ := tot_cells (SB52a.out.has (Has.l (has_blk gx _ _)))
            have y0 := fr3 (SB52a.out.has (Has.l (has_blk gx _ _))) 0
            have y1 := fr3 (SB52a.out.has (Has.l (has_blk gx _ _))) 1
            have y2 := fr3 (SB52a.out.has (Has.l (has_blk gx _ _))) 2
            go_simp
            clear x0 x1 x2 y0 y1 y2
            have SB52b := Lib.hid (own_3 SB52a.out (.int .i64 (hi (ca + cb))) (.int .u64 (lo (ca + cb))) (.slice (some ⟨gm, 0, none⟩) n n))
            clear SB52a
            generalize World.setCell (World.setCell (World.setCell wm49 _ _) _ _) _ _ = wb52 at *
            have SB52 := Lib.hid (SB52b.out.re (show _ = Asn.blk ga 27 #[.int .i64 (hi ca), .int .u64 (lo ca), .slice A la.length p] * (Asn.blk gb 27 #[.int .i64 (hi cb), .int .u64 (lo cb), .slice B lb.length q] * (Asn.blk gr 27 #[.int .i64 0, .int .u64 0, .slice none 0 0] * Asn.blk gx 27 #[.int .i64 (hi (ca + cb)), .int .u64 (lo (ca + cb)), .slice (some ⟨gm, 0, none⟩) n n] * (Asn.blk gm 24 (cellsW (zer n)).toArray * Asn.emp))) by ac_rfl))
            clear SB52b
            refine hK.out _ _ ?_ (fun hHeld => ?_)
            · exact ⟨(tot_cells (SB52.out.has (Has.l (has_blk ga _ _)))).1, (tot_cells (SB52.out.has (Has.l (has_blk ga _ _)))).2.1, (tot_cells (SB52.out.has (Has.l (has_blk ga _ _)))).2.2, (tot_cells (SB52.out.has (Has.r (Has.l (has_blk gb _ _))))).1, (tot_cells (SB52.out.has (Has.r (Has.l (has_blk gb _ _))))).2.1, (tot_cells (SB52.out.has (Has.r (Has.l (has_blk gb _ _))))).2.2⟩
            clear hK K0
            (try simp only [Act.put, List.setIfInBounds_toArray, List.set_cons_zero, List.set_cons_succ])
            (try clear hH2)
            refine wpAnyH_done (by kernel_rfl) ?_ _
            have SX := Lib.hid (show Own w No wb52 (Asn.blk gm 24 (cellsW (prt (sumL la lb) 0)).toArray * (Asn.blk gx 27 #[.int .i64 (hi (ca + cb)), .int .u64 (lo (ca + cb)), .slice (some ⟨gm, 0, none⟩) n n] * (Asn.blk ga 27 #[.int .i64 (hi ca), .int .u64 (lo ca), .slice A la.length p] * (Asn.blk gb 27 #[.int .i64 (hi cb), .int .u64 (lo cb), .slice B lb.length q] * (Asn.blk gr 27 #[.int .i64 0, .int .u64 0, .slice none 0 0] * Asn.emp))))) from by
              rw [prt_zero, HN.out]
              exact SB52.out.re (by ac_rfl))
            clear SB52 HM hmn hmn2
            go_wp2_with fail
            go_meet
            case rel => exact ⟨gm, gx, rfl, SX⟩
      case mb46z4 =>
      refine' AllReadyH.cons (o := ?ob53z12) ?hb53z12 ?kb53z12 AllReadyH.nil
      case hb53z12 => (simp only [List.getElem?_toArray, List.getElem?_cons_succ, List.getElem?_cons_zero]; rfl)
      case kb53z12 =>
        intro K0 hK
        have hmk := HM.out
        go_simp
        clear hmk
        have SM54a := Lib.hid (SA45.out.alloc (cellsW (zer n)).toArray 24)
        obtain ⟨gm, hgz⟩ : ∃ g, g = wa45.heap.size := ⟨_, rfl⟩
        rw [← hgz] at SM54a ⊢
        clear hgz SA45
        generalize World.alloc wa45 _ = wm54 at *
        have SM54 := Lib.hid (SM54a.out.re (show _ = Asn.blk ga 27 #[.int .i64 (hi ca), .int .u64 (lo ca), .slice A la.length p] * (Asn.blk gb 27 #[.int .i64 (hi cb), .int .u64 (lo cb), .slice B lb.length q] * (Asn.blk gr 27 #[.int .i64 0, .int .u64 0, .slice none 0 0] * Asn.blk gx 27 #[.int .i64 0, .int .u64 0, .slice none 0 0] * (Asn.blk gm 24 (cellsW (zer n)).toArray * Asn.emp))) by ac_rfl))
        clear SM54a
        refine hK.out _ _ ?_ (fun hHeld => ?_)
        · exact ⟨(tot_cells (SM54.out.has (Has.l (has_blk ga _ _)))).1, (tot_cells (SM54.out.has (Has.l (has_blk ga _ _)))).2.1, (tot_cells (SM54.out.has (Has.l (has_blk ga _ _)))).2.2, (tot_cells (SM54.out.has (Has.r (Has.l (has_blk gb _ _))))).1, (tot_cells (SM54.out.has (Has.r (Has.l (has_blk gb _ _))))).2.1, (tot_cells (SM54.out.has (Has.r (Has.l (has_blk gb _ _))))).2.2⟩
        clear hK K0
        (try simp only [Act.put, List.setIfInBounds_toArray, List.set_cons_zero, List.set_cons_succ])
        (try clear hH2)
        refine wpAnyH_ready (rs := [4]) (by kernel_rfl) (by simp) ?_
        refine' AllReadyH.cons (o := ?ob55z4) ?hb55z4 ?kb55z4 AllReadyH.nil
        case hb55z4 => (simp only [List.getElem?_toArray, List.getElem?_cons_succ, List.getElem?_cons_zero]; rfl)
        case kb55z4 =>
          intro K0 hK
          go_simp
          refine (HAdd.out ca cb _).mono ?_
          rintro er wk56 ⟨rfl, hX⟩
          have SK56 := Lib.hid (SM54.out.below hX)
          clear hX SM54
          refine hK.out _ _ ?_ (fun hHeld => ?_)
          · exact ⟨(tot_cells (SK56.out.has (Has.l (has_blk ga _ _)))).1, (tot_cells (SK56.out.has (Has.l (has_blk ga _ _)))).2.1, (tot_cells (SK56.out.has (Has.l (has_blk ga _ _)))).2.2, (tot_cells (SK56.out.has (Has.r (Has.l (has_blk gb _ _))))).1, (tot_cells (SK56.out.has (Has.r (Has.l (has_blk gb _ _))))).2.1, (tot_cells (SK56.out.has (Has.r (Has.l (has_blk gb _ _))))).2.2⟩
          clear hK K0
          (try simp only [Act.put, List.setIfInBounds_toArray, List.set_cons_zero, List.set_cons_succ])
          (try clear hH2)
          refine' wpAnyH_take (i := 13) (oi := ?ot57z13) (v := ?vt57z13) ?ht57z13 ?st57z13 ?ft57z13 ?zt57z13 ?qt57z13 ?yt57z13 ?at57z13 ?rt57z13
          case ht57z13 => (simp only [List.getElem?_toArray, List.getElem?_cons_succ, List.getElem?_cons_zero]; rfl)
          case st57z13 => kernel_rfl
          case ft57z13 => kernel_rfl
          case zt57z13 => kernel_rfl
          case qt57z13 => exact fun _ _ _ h => h
          case yt57z13 => (refine Or.inl ⟨rfl, ?_⟩; intro w hSw; obtain ⟨s0, s1, s2, s3, s4, s5⟩ := hSw; go_simp; try with_reducible rfl)
          case at57z13 => assumption
          case rt57z13 =>
          simp only [Act.put, List.setIfInBounds_toArray, List.set_cons_zero, List.set_cons_succ]
          refine wpAnyH_ready (rs := [15]) (by kernel_rfl) (by simp) ?_
          refine' AllReadyH.cons (o := ?ob58z15) ?hb58z15 ?kb58z15 AllReadyH.nil
          case hb58z15 => (simp only [List.getElem?_toArray, List.getElem?_cons_succ, List.getElem?_cons_zero]; rfl)
          case kb58z15 =>
            intro K0 hK
            have SB59a := Lib.hid (SK56.out.re (show _ = Asn.blk gx 27 #[.int .i64 0, .int .u64 0, .slice none 0 0] * (Asn.blk ga 27 #[.int .i64 (hi ca), .int .u64 (lo ca), .slice A la.length p] * (Asn.blk gb 27 #[.int .i64 (hi cb), .int .u64 (lo cb), .slice B lb.length q] * (Asn.blk gr 27 #[.int .i64 0, .int .u64 0, .slice none 0 0] * (Asn.blk gm 24 (cellsW (zer n)).toArray * Asn.emp)))) by ac_rfl))
            clear SK56
            obtain ⟨x0, x1, x2⟩ := tot_cells (SB59a.out.has (Has.l (has_blk gx _ _)))
            have y0 := fr3 (SB59a.out.has (Has.l (has_blk gx _ _))) 0
            have y1 := fr3 (SB59a.out.has (Has.l (has_blk gx _ _))) 1
            have y2 := fr3 (SB59a.out.has (Has.l (has_blk gx _ _))) 2
            go_simp
            clear x0 x1 x2 y0 y1 y2
            have SB59b := Lib.hid (own_3 SB59a.out (.int .i64 (hi (ca + cb))) (.int .u64 (lo (ca + cb))) (.slice (some ⟨gm, 0, none⟩) n n))
            clear SB59a
            generalize World.setCell (World.setCell (World.setCell wk56 _ _) _ _) _ _ = wb59 at *
            have SB59 := Lib.hid (SB59b.out.re (show _ = Asn.blk ga 27 #[.int .i64 (hi ca), .int .u64 (lo ca), .slice A la.length p] * (Asn.blk gb 27 #[.int .i64 (hi cb), .int .u64 (lo cb), .slice B lb.length q] * (Asn.blk gr 27 #[.int .i64 0, .int .u64 0, .slice none 0 0] * Asn.blk gx 27 #[.int .i64 (hi (ca + cb)), .int .u64 (lo (ca + cb)), .slice (some ⟨gm, 0, none⟩) n n] * (Asn.blk gm 24 (cellsW (zer n)).toArray * Asn.emp))) by ac_rfl))
            clear SB59b
            refine hK.out _ _ ?_ (fun hHeld => ?_)
            · exact ⟨(tot_cells (SB59.out.has (Has.l (has_blk ga _ _)))).1, (tot_cells (SB59.out.has (Has.l (has_blk ga _ _)))).2.1, (tot_cells (SB59.out.has (Has.l (has_blk ga _ _)))).2.2, (tot_cells (SB59.out.has (Has.r (Has.l (has_blk gb _ _))))).1, (tot_cells (SB59.out.has (Has.r (Has.l (has_blk gb _ _))))).2.1, (tot_cells (SB59.out.has (Has.r (Has.l (has_blk gb _ _))))).2.2⟩
            clear hK K0
            (try simp only [Act.put, List.setIfInBounds_toArray, List.set_cons_zero, List.set_cons_succ])
            (try clear hH2)
            refine wpAnyH_done (by kernel_rfl) ?_ _
            have SX := Lib.hid (show Own w No wb59 (Asn.blk gm 24 (cellsW (prt (sumL la lb) 0)).toArray * (Asn.blk gx 27 #[.int .i64 (hi (ca + cb)), .int .u64 (lo (ca + cb)), .slice (some ⟨gm, 0, none⟩) n n] * (Asn.blk ga 27 #[.int .i64 (hi ca), .int .u64 (lo ca), .slice A la.length p] * (Asn.blk gb 27 #[.int .i64 (hi cb), .int .u64 (lo cb), .slice B lb.length q] * (Asn.blk gr 27 #[.int .i64 0, .int .u64 0, .slice none 0 0] * Asn.emp))))) from by
              rw [prt_zero, HN.out]
              exact SB59.out.re (by ac_rfl))
            clear SB59 HM hmn hmn2
            go_wp2_with fail
            go_meet
            case rel => exact ⟨gm, gx, rfl, SX⟩

  case rest =>
    obtain ⟨gm, gx, rfl, SX⟩ := hcut
    clear S0 HM hmn hmn2
    obtain ⟨x0, x1, x2⟩ := tot_cells (SX.out.has (Has.r (Has.l (has_blk gx _ _))))
    go_wp2_with fail
    clear x0 x1 x2
    go_loopw [24] (fun i wr => ∃ (k : Nat), k ≤ n ∧ i = .int .i64 k ∧ Hid (Own w No wr (Asn.blk gm 24 (cellsW (prt (sumL la lb) k)).toArray * (Asn.blk gx 27 #[.int .i64 (hi (ca + cb)), .int .u64 (lo (ca + cb)), .slice (some ⟨gm, 0, none⟩) n n] * (Asn.blk ga 27 #[.int .i64 (hi ca), .int .u64 (lo ca), .slice A la.length p] * (Asn.blk gb 27 #[.int .i64 (hi cb), .int .u64 (lo cb), .slice B lb.length q] * (Asn.blk gr 27 #[.int .i64 0, .int .u64 0, .slice none 0 0] * Asn.emp))))))) (fun i _ => n - (intOf i).toNat)
    case atStart => exact ⟨0, by omega, rfl, SX⟩
    case round =>
      clear SX
      obtain ⟨k, hk, rfl, S4⟩ := hrel
      by_cases hlt : k < n
      · have hltI : (k : Int) < (n : Int) := by omega
        have hka : k < la.length := by have := HNN.out; omega
        have hkb : k < lb.length := by have := HNN.out; omega
        have hkaI : (k : Int) < (la.length : Int) := by omega
        have hkbI : (k : Int) < (lb.length : Int) := by omega
        have hk0 : (0 : Int) ≤ (k : Int) := by omega
        obtain ⟨x, hx⟩ : ∃ x, la[k]? = some x := ⟨_, List.getElem?_eq_getElem hka⟩
        obtain ⟨y, hy⟩ : ∃ y, lb[k]? = some y := ⟨_, List.getElem?_eq_getElem hkb⟩
        have hxy : (sumL la lb)[k]? = some (x + y) := by unfold sumL; rw [List.getElem?_zipWith, hx, hy]
        obtain ⟨ba, oa, rfl, -, -⟩ := HA.out.at hx
        obtain ⟨bb, ob, rfl, -, -⟩ := HB.out.at hy
        have WAX := Lib.hid (fun (W : World) (hW : Below w.heap.size w W) => (show WAt W ba (oa + k * 2) x from by
          obtain ⟨b, o, e, -, h⟩ := (HA.out.keep hW).at hx
          injection e with e
          injection e with e1 e2
          subst e1 e2
          exact h))
        have WBX := Lib.hid (fun (W : World) (hW : Below w.heap.size w W) => (show WAt W bb (ob + k * 2) y from by
          obtain ⟨b, o, e, -, h⟩ := (HB.out.keep hW).at hy
          injection e with e
          injection e with e1 e2
          subst e1 e2
          exact h))
        have KA := HA
        have hkl : k < (prt (sumL la lb) k).length := by have hn := HN.out; rw [prt_len _ (by omega), hn]; exact hlt
        obtain ⟨z, hz⟩ : ∃ z, (prt (sumL la lb) k)[k]? = some z := ⟨_, List.getElem?_eq_getElem hkl⟩
        have hcz := cellsW_at _ _ _ hz
        obtain ⟨x0, x1, x2⟩ := tot_cells (S4.out.has (Has.r (Has.l (has_blk gx _ _))))
        go_upto_region 5 with fail
        clear x0 x1 x2
        have S5 := Lib.hid S4.out.drew
        clear S4
        refine wp_region_held_drew (S := fun W : World => W.cell? ⟨gx, 2, none⟩ = some (.slice (some ⟨gm, 0, none⟩) n n) ∧ W.cell? ⟨ga, 2, none⟩ = some (.slice (some ⟨ba, oa, none⟩) la.length p) ∧ W.cell? ⟨gb, 2, none⟩ = some (.slice (some ⟨bb, ob, none⟩) lb.length q) ∧ WAt W ba (oa + k * 2) x ∧ WAt W bb (ob + k * 2) y) (by kernel_rfl) ⟨(tot_cells (S5.out.has (Has.r (Has.l (has_blk _ _ _))))).2.2, (tot_cells (S5.out.has (Has.r (Has.r (Has.l (has_blk _ _ _)))))).2.2, (tot_cells (S5.out.has (Has.r (Has.r (Has.r (Has.l (has_blk _ _ _))))))).2.2, WAX.out _ S5.out.bel, WBX.out _ S5.out.bel⟩ (fun hHeld => ?_)
        generalize wr.drew = w4 at *
        refine' wpAnyH_take (i := 0) (oi := ?ot60z0) (v := ?vt60z0) ?ht60z0 ?st60z0 ?ft60z0 ?zt60z0 ?qt60z0 ?yt60z0 ?at60z0 ?rt60z0
        case ht60z0 => (simp only [List.getElem?_toArray, List.getElem?_cons_succ, List.getElem?_cons_zero]; rfl)
        case st60z0 => kernel_rfl
        case ft60z0 => kernel_rfl
        case zt60z0 => kernel_rfl
        case qt60z0 => exact fun _ _ _ h => h
        case yt60z0 => (refine Or.inl ⟨rfl, ?_⟩; intro w hSw; obtain ⟨s0, s1, s2, ⟨s3, s4⟩, s5, s6⟩ := hSw; go_simp; try with_reducible rfl)
        case at60z0 => assumption
        case rt60z0 =>
        simp only [Act.put, List.setIfInBounds_toArray, List.set_cons_zero, List.set_cons_succ]
        refine' wpAnyH_take (i := 1) (oi := ?ot61z1) (v := ?vt61z1) ?ht61z1 ?st61z1 ?ft61z1 ?zt61z1 ?qt61z1 ?yt61z1 ?at61z1 ?rt61z1
        case ht61z1 => (simp only [List.getElem?_toArray, List.getElem?_cons_succ, List.getElem?_cons_zero]; rfl)
        case st61z1 => kernel_rfl
        case ft61z1 => kernel_rfl
        case zt61z1 => kernel_rfl
        case qt61z1 => exact fun _ _ _ h => h
        case yt61z1 => (refine Or.inl ⟨rfl, ?_⟩; intro w hSw; obtain ⟨s0, s1, s2, ⟨s3, s4⟩, s5, s6⟩ := hSw; go_simp; try with_reducible rfl)
        case at61z1 => assumption
        case rt61z1 =>
        simp only [Act.put, List.setIfInBounds_toArray, List.set_cons_zero, List.set_cons_succ]
        refine' wpAnyH_take (i := 2) (oi := ?ot62z2) (v := ?vt62z2) ?ht62z2 ?st62z2 ?ft62z2 ?zt62z2 ?qt62z2 ?yt62z2 ?at62z2 ?rt62z2
        case ht62z2 => (simp only [List.getElem?_toArray, List.getElem?_cons_succ, List.getElem?_cons_zero]; rfl)
        case st62z2 => kernel_rfl
        case ft62z2 => kernel_rfl
        case zt62z2 => kernel_rfl
        case qt62z2 => exact fun _ _ _ h => h
        case yt62z2 => (refine Or.inl ⟨rfl, ?_⟩; intro w hSw; obtain ⟨s0, s1, s2, ⟨s3, s4⟩, s5, s6⟩ := hSw; go_simp; try with_reducible rfl)
        case at62z2 => assumption
        case rt62z2 =>
        simp only [Act.put, List.setIfInBounds_toArray, List.set_cons_zero, List.set_cons_succ]
        refine' wpAnyH_take (i := 3) (oi := ?ot63z3) (v := ?vt63z3) ?ht63z3 ?st63z3 ?ft63z3 ?zt63z3 ?qt63z3 ?yt63z3 ?at63z3 ?rt63z3
        case ht63z3 => (simp only [List.getElem?_toArray, List.getElem?_cons_succ, List.getElem?_cons_zero]; rfl)
        case st63z3 => kernel_rfl
        case ft63z3 => kernel_rfl
        case zt63z3 => kernel_rfl
        case qt63z3 => exact fun _ _ _ h => h
        case yt63z3 => (refine Or.inl ⟨rfl, ?_⟩; intro w hSw; obtain ⟨s0, s1, s2, ⟨s3, s4⟩, s5, s6⟩ := hSw; go_simp; try with_reducible rfl)
        case at63z3 => assumption
        case rt63z3 =>
        simp only [Act.put, List.setIfInBounds_toArray, List.set_cons_zero, List.set_cons_succ]
        refine' wpAnyH_take (i := 4) (oi := ?ot64z4) (v := ?vt64z4) ?ht64z4 ?st64z4 ?ft64z4 ?zt64z4 ?qt64z4 ?yt64z4 ?at64z4 ?rt64z4
        case ht64z4 => (simp only [List.getElem?_toArray, List.getElem?_cons_succ, List.getElem?_cons_zero]; rfl)
        case st64z4 => kernel_rfl
        case ft64z4 => kernel_rfl
        case zt64z4 => kernel_rfl
        case qt64z4 => exact fun _ _ _ h => h
        case yt64z4 => (refine Or.inl ⟨rfl, ?_⟩; intro w hSw; obtain ⟨s0, s1, s2, ⟨s3, s4⟩, s5, s6⟩ := hSw; go_simp; try with_reducible rfl)
        case at64z4 => assumption
        case rt64z4 =>
        simp only [Act.put, List.setIfInBounds_toArray, List.set_cons_zero, List.set_cons_succ]
        refine' wpAnyH_take (i := 5) (oi := ?ot65z5) (v := ?vt65z5) ?ht65z5 ?st65z5 ?ft65z5 ?zt65z5 ?qt65z5 ?yt65z5 ?at65z5 ?rt65z5
        case ht65z5 => (simp only [List.getElem?_toArray, List.getElem?_cons_succ, List.getElem?_cons_zero]; rfl)
        case st65z5 => kernel_rfl
        case ft65z5 => kernel_rfl
        case zt65z5 => kernel_rfl
        case qt65z5 => exact fun _ _ _ h => h
        case yt65z5 => (refine Or.inl ⟨rfl, ?_⟩; intro w hSw; obtain ⟨s0, s1, s2, ⟨s3, s4⟩, s5, s6⟩ := hSw; go_simp; try with_reducible rfl)
        case at65z5 => assumption
        case rt65z5 =>
        simp only [Act.put, List.setIfInBounds_toArray, List.set_cons_zero, List.set_cons_succ]
        refine' wpAnyH_take (i := 6) (oi := ?ot66z6) (v := ?vt66z6) ?ht66z6 ?st66z6 ?ft66z6 ?zt66z6 ?qt66z6 ?yt66z6 ?at66z6 ?rt66z6
        case ht66z6 => (simp only [List.getElem?_toArray, List.getElem?_cons_succ, List.getElem?_cons_zero]; rfl)
        case st66z6 => kernel_rfl
        case ft66z6 => kernel_rfl
        case zt66z6 => kernel_rfl
        case qt66z6 => exact fun _ _ _ h => h
        case yt66z6 => (refine Or.inl ⟨rfl, ?_⟩; intro w hSw; obtain ⟨s0, s1, s2, ⟨s3, s4⟩, s5, s6⟩ := hSw; go_simp; try with_reducible rfl)
        case at66z6 => assumption
        case rt66z6 =>
        simp only [Act.put, List.setIfInBounds_toArray, List.set_cons_zero, List.set_cons_succ]
        refine' wpAnyH_take (i := 7) (oi := ?ot67z7) (v := ?vt67z7) ?ht67z7 ?st67z7 ?ft67z7 ?zt67z7 ?qt67z7 ?yt67z7 ?at67z7 ?rt67z7
        case ht67z7 => (simp only [List.getElem?_toArray, List.getElem?_cons_succ, List.getElem?_cons_zero]; rfl)
        case st67z7 => kernel_rfl
        case ft67z7 => kernel_rfl
        case zt67z7 => kernel_rfl
        case qt67z7 => exact fun _ _ _ h => h
        case yt67z7 => (refine Or.inl ⟨rfl, ?_⟩; intro w hSw; obtain ⟨s0, s1, s2, ⟨s3, s4⟩, s5, s6⟩ := hSw; go_simp; try with_reducible rfl)
        case at67z7 => assumption
        case rt67z7 =>
        simp only [Act.put, List.setIfInBounds_toArray, List.set_cons_zero, List.set_cons_succ]
        refine' wpAnyH_take (i := 8) (oi := ?ot68z8) (v := ?vt68z8) ?ht68z8 ?st68z8 ?ft68z8 ?zt68z8 ?qt68z8 ?yt68z8 ?at68z8 ?rt68z8
        case ht68z8 => (simp only [List.getElem?_toArray, List.getElem?_cons_succ, List.getElem?_cons_zero]; rfl)
        case st68z8 => kernel_rfl
        case ft68z8 => kernel_rfl
        case zt68z8 => kernel_rfl
        case qt68z8 => exact fun _ _ _ h => h
        case yt68z8 => (refine Or.inl ⟨rfl, ?_⟩; intro w hSw; obtain ⟨s0, s1, s2, ⟨s3, s4⟩, s5, s6⟩ := hSw; go_simp; try with_reducible rfl)
        case at68z8 => assumption
        case rt68z8 =>
        simp only [Act.put, List.setIfInBounds_toArray, List.set_cons_zero, List.set_cons_succ]
        refine' wpAnyH_take (i := 9) (oi := ?ot69z9) (v := ?vt69z9) ?ht69z9 ?st69z9 ?ft69z9 ?zt69z9 ?qt69z9 ?yt69z9 ?at69z9 ?rt69z9
        case ht69z9 => (simp only [List.getElem?_toArray, List.getElem?_cons_succ, List.getElem?_cons_zero]; rfl)
        case st69z9 => kernel_rfl
        case ft69z9 => kernel_rfl
        case zt69z9 => kernel_rfl
        case qt69z9 => exact fun _ _ _ h => h
        case yt69z9 => (refine Or.inl ⟨rfl, ?_⟩; intro w hSw; obtain ⟨s0, s1, s2, ⟨s3, s4⟩, s5, s6⟩ := hSw; go_simp; try with_reducible rfl)
        case at69z9 => assumption
        case rt69z9 =>
        simp only [Act.put, List.setIfInBounds_toArray, List.set_cons_zero, List.set_cons_succ]
        refine' wpAnyH_take (i := 10) (oi := ?ot70z10) (v := ?vt70z10) ?ht70z10 ?st70z10 ?ft70z10 ?zt70z10 ?qt70z10 ?yt70z10 ?at70z10 ?rt70z10
        case ht70z10 => (simp only [List.getElem?_toArray, List.getElem?_cons_succ, List.getElem?_cons_zero]; rfl)
        case st70z10 => kernel_rfl
        case ft70z10 => kernel_rfl
        case zt70z10 => kernel_rfl
        case qt70z10 => exact fun _ _ _ h => h
        case yt70z10 => (refine Or.inl ⟨rfl, ?_⟩; intro w hSw; obtain ⟨s0, s1, s2, ⟨s3, s4⟩, s5, s6⟩ := hSw; go_simp; try with_reducible rfl)
        case at70z10 => assumption
        case rt70z10 =>
        simp only [Act.put, List.setIfInBounds_toArray, List.set_cons_zero, List.set_cons_succ]
        refine' wpAnyH_take (i := 11) (oi := ?ot71z11) (v := ?vt71z11) ?ht71z11 ?st71z11 ?ft71z11 ?zt71z11 ?qt71z11 ?yt71z11 ?at71z11 ?rt71z11
        case ht71z11 => (simp only [List.getElem?_toArray, List.getElem?_cons_succ, List.getElem?_cons_zero]; rfl)
        case st71z11 => kernel_rfl
        case ft71z11 => kernel_rfl
        case zt71z11 => kernel_rfl
        case qt71z11 => exact fun _ _ _ h => h
        case yt71z11 => (refine Or.inl ⟨rfl, ?_⟩; intro w hSw; obtain ⟨s0, s1, s2, ⟨s3, s4⟩, s5, s6⟩ := hSw; go_simp; try with_reducible rfl)
        case at71z11 => assumption
        case rt71z11 =>
        simp only [Act.put, List.setIfInBounds_toArray, List.set_cons_zero, List.set_cons_succ]
        refine' wpAnyH_take (i := 12) (oi := ?ot72z12) (v := ?vt72z12) ?ht72z12 ?st72z12 ?ft72z12 ?zt72z12 ?qt72z12 ?yt72z12 ?at72z12 ?rt72z12
        case ht72z12 => (simp only [List.getElem?_toArray, List.getElem?_cons_succ, List.getElem?_cons_zero]; rfl)
        case st72z12 => kernel_rfl
        case ft72z12 => kernel_rfl
        case zt72z12 => kernel_rfl
        case qt72z12 => exact fun _ _ _ h => h
        case yt72z12 => (refine Or.inl ⟨rfl, ?_⟩; intro w hSw; obtain ⟨s0, s1, s2, ⟨s3, s4⟩, s5, s6⟩ := hSw; go_simp; try with_reducible rfl)
        case at72z12 => assumption
        case rt72z12 =>
        simp only [Act.put, List.setIfInBounds_toArray, List.set_cons_zero, List.set_cons_succ]
        refine wpAnyH_ready (rs := [13]) (by kernel_rfl) (by simp) ?_
        refine' AllReadyH.cons (o := ?ob73z13) ?hb73z13 ?kb73z13 AllReadyH.nil
        case hb73z13 => (simp only [List.getElem?_toArray, List.getElem?_cons_succ, List.getElem?_cons_zero]; rfl)
        case kb73z13 =>
          intro K0 hK
          go_simp
          refine (HAdd.out x y _).mono ?_
          rintro er wk74 ⟨rfl, hX⟩
          have SK74 := Lib.hid (S5.out.below hX)
          have SK74k := Lib.hid (KA.out.keep SK74.out.bel)
          clear hX S5
          refine hK.out _ _ ?_ (fun hHeld => ?_)
          · exact ⟨(tot_cells (SK74.out.has (Has.r (Has.l (has_blk _ _ _))))).2.2, (tot_cells (SK74.out.has (Has.r (Has.r (Has.l (has_blk _ _ _)))))).2.2, (tot_cells (SK74.out.has (Has.r (Has.r (Has.r (Has.l (has_blk _ _ _))))))).2.2, WAX.out wk74 SK74.out.bel, WBX.out wk74 SK74.out.bel⟩
          clear hK K0
          (try simp only [Act.put, List.setIfInBounds_toArray, List.set_cons_zero, List.set_cons_succ])
          (try clear hH2)
          refine' wpAnyH_take (i := 14) (oi := ?ot75z14) (v := ?vt75z14) ?ht75z14 ?st75z14 ?ft75z14 ?zt75z14 ?qt75z14 ?yt75z14 ?at75z14 ?rt75z14
          case ht75z14 => (simp only [List.getElem?_toArray, List.getElem?_cons_succ, List.getElem?_cons_zero]; rfl)
          case st75z14 => kernel_rfl
          case ft75z14 => kernel_rfl
          case zt75z14 => kernel_rfl
          case qt75z14 => exact fun _ _ _ h => h
          case yt75z14 => (refine Or.inl ⟨rfl, ?_⟩; intro w hSw; obtain ⟨s0, s1, s2, ⟨s3, s4⟩, s5, s6⟩ := hSw; go_simp; try with_reducible rfl)
          case at75z14 => assumption
          case rt75z14 =>
          simp only [Act.put, List.setIfInBounds_toArray, List.set_cons_zero, List.set_cons_succ]
          refine wpAnyH_ready (rs := [15]) (by kernel_rfl) (by simp) ?_
          refine' AllReadyH.cons (o := ?ob76z15) ?hb76z15 ?kb76z15 AllReadyH.nil
          case hb76z15 => (simp only [List.getElem?_toArray, List.getElem?_cons_succ, List.getElem?_cons_zero]; rfl)
          case kb76z15 =>
            intro K0 hK
            have e0 := (SK74.out.has (Has.l (has_blk gm _ _))).cell (k * 2)
            have e1 := (SK74.out.has (Has.l (has_blk gm _ _))).cell (k * 2 + 1)
            rw [List.getElem?_toArray, hcz.1] at e0
            rw [List.getElem?_toArray, hcz.2] at e1
            have y0 := fr3 (SK74.out.has (Has.l (has_blk gm _ _))) (k * 2)
            have y1 := fr3 (SK74.out.has (Has.l (has_blk gm _ _))) (k * 2 + 1)
            go_simp
            clear e0 e1 y0 y1
            have SB77a := Lib.hid ((SK74.out.set (Sets.l (sets_blk gm _ _ (k * 2) (.int .i64 (hi (x + y)))))).set (Sets.l (sets_blk gm _ _ (k * 2 + 1) (.int .u64 (lo (x + y))))))
            rw [cellsW_setA _ _ _ hkl, prt_set _ hxy] at SB77a
            have SB77 := SB77a
            clear SB77a SK74
            generalize World.setCell (World.setCell wk74 _ _) _ _ = wb77 at *
            refine hK.out _ _ ?_ (fun hHeld => ?_)
            · exact ⟨(tot_cells (SB77.out.has (Has.r (Has.l (has_blk _ _ _))))).2.2, (tot_cells (SB77.out.has (Has.r (Has.r (Has.l (has_blk _ _ _)))))).2.2, (tot_cells (SB77.out.has (Has.r (Has.r (Has.r (Has.l (has_blk _ _ _))))))).2.2, WAX.out wb77 SB77.out.bel, WBX.out wb77 SB77.out.bel⟩
            clear hK K0
            (try simp only [Act.put, List.setIfInBounds_toArray, List.set_cons_zero, List.set_cons_succ])
            (try clear hH2)
            refine wpAnyH_done (by kernel_rfl) ?_ _
            go_wp2_with fail
            go_roundw
            case rel => exact ⟨k + 1, by omega, by go_num, SB77⟩
            case measure => simp only [intOf]; omega

      · obtain rfl : n = k := by omega
        rw [show prt (sumL la lb) n = sumL la lb by rw [← HN.out, prt_end]] at S4
        have S5 := Lib.hid (S4.out.re (show _ = Asn.blk gr 27 #[.int .i64 0, .int .u64 0, .slice none 0 0] * (Asn.blk gm 24 (cellsW (sumL la lb)).toArray * (Asn.blk gx 27 #[.int .i64 (hi (ca + cb)), .int .u64 (lo (ca + cb)), .slice (some ⟨gm, 0, none⟩) n n] * (Asn.blk ga 27 #[.int .i64 (hi ca), .int .u64 (lo ca), .slice A la.length p] * (Asn.blk gb 27 #[.int .i64 (hi cb), .int .u64 (lo cb), .slice B lb.length q] * Asn.emp)))) by ac_rfl))
        clear S4
        obtain ⟨x0, x1, x2⟩ := tot_cells (S5.out.has (Has.r (Has.r (Has.l (has_blk gx _ _)))))
        obtain ⟨z0, z1, z2⟩ := tot_cells (S5.out.has (Has.l (has_blk gr _ _)))
        have y0 := fr3 (S5.out.has (Has.l (has_blk gr _ _))) 0
        have y1 := fr3 (S5.out.has (Has.l (has_blk gr _ _))) 1
        have y2 := fr3 (S5.out.has (Has.l (has_blk gr _ _))) 2
        go_wp2_with fail
        have S6 := Lib.hid (own_3 S5.out (.int .i64 (hi (ca + cb))) (.int .u64 (lo (ca + cb))) (.slice (some ⟨gm, 0, none⟩) n n))
        clear x0 x1 x2 y0 y1 y2 z0 z1 z2 S5
        generalize World.setCell (World.setCell (World.setCell wr _ _) _ _) _ _ = w9 at *
        exact bodyPost_ret (resT rfl rfl (S6.out.has (Has.l (has_blk gr _ _)))) rfl ⟨_, rfl, S6.out.bel, some ⟨gm, 0, none⟩, n, by rw [HN.out]; rfl, WReads.of_blk (S6.out.has (Has.r (Has.l (has_blk gm _ _))))⟩

end Go.Proofs.Ytoofoalpffoheaa.Pn
