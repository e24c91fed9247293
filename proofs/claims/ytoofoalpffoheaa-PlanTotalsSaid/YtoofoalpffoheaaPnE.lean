/- Totals: read (ReadTotal); the document's Same. -/
import Derived.Test.YtoofoalpffoheaaPnD
namespace Go.Proofs.Ytoofoalpffoheaa.Pn
open Go.ChangeShapes Go.WideShapes Go.ChangeAt Go.RowKit Go.PlainAid Aid Wd
set_option linter.unusedVariables false
set_option linter.unusedSimpArgs false
theorem Nothing_own (n : Int) (w : World) :
    Calls Try.prog 14 #[.int .i64 n] w fun e w' => ∃ g, e = .returned (.agg #[.int .i64 0, .int .u64 0, .slice (some ⟨g, 0, none⟩) (cut2 n) (cut2 n)]) ∧ Own w No w' (Asn.blk g 24 (cellsW (zer (cut2 n))).toArray) := by
  have HM := Lib.hid (mkW (cut2 n) (by unfold cut2; split <;> (try split) <;> omega))
  have hmx : min (max n 0) 2 = (cut2 n : Int) := by unfold cut2; split <;> (try split) <;> omega
  go_enter Try.func14, Try.ntmps14
  go_upto_region 1 with fail
  have hmk := HM.out
  go_wp2_with fail
  have S0 := Lib.hid (((Own.none w).alloc #[.int .i64 0, .int .u64 0, .slice (some ⟨w.heap.size + 1, 0, none⟩) (cut2 n) (cut2 n)] 27).alloc (cellsW (zer (cut2 n))).toArray 24)
  refine bodyPost_ret (v := .agg #[.int .i64 0, .int .u64 0, .slice (some ⟨w.heap.size + 1, 0, none⟩) (cut2 n) (cut2 n)]) (by simp [results, Try.results14, go_sem]) rfl ⟨w.heap.size + 1, rfl, ?_⟩
  have h := (S0.out.re (show _ = Asn.blk (w.alloc (.cells #[.int .i64 0, .int .u64 0, .slice (some ⟨w.heap.size + 1, 0, none⟩) (cut2 n) (cut2 n)] 27)).heap.size 24 (cellsW (zer (cut2 n))).toArray * (Asn.emp * Asn.blk w.heap.size 27 #[.int .i64 0, .int .u64 0, .slice (some ⟨w.heap.size + 1, 0, none⟩) (cut2 n) (cut2 n)]) by ac_rfl)).left
  rw [show (w.alloc (.cells #[.int .i64 0, .int .u64 0, .slice (some ⟨w.heap.size + 1, 0, none⟩) (cut2 n) (cut2 n)] 27)).heap.size = w.heap.size + 1 by simp] at h
  exact h
theorem neq_same (ev : Operand → Value) (xh xl : Int) (d : Tmp) (x y : Operand) (ty : TypeId) (ps : String) (af : Array Edge) (g : Option (Tmp × Bool)) (hx : ev x = .agg #[.int .i64 xh, .int .u64 xl]) (hy : ev y = .agg #[.int .i64 xh, .int .u64 xl]) (W : World) :
    (execOp ev { dst := some d, op := Op.binOp BinOp.neq 24 x y 24, type := ty, pos := ps, after := af, guard := g }).run Try.prog W = .ok (.value (.bool false)) W := by
  unfold execOp
  simp only [hx, hy]
  go_simp
set_option maxRecDepth 100000 in
set_option maxHeartbeats 1000000 in
/-- The document's Same, of totals that are the same. -/
theorem refSame_eq (va vb : Value) (c : W1) (l : List W1) (w : World) (hl : l.length ≤ 1000) (ha : IsTot w va c l) (hb : IsTot w vb c l) :
    Calls Try.prog 8 #[va, vb] w fun e w' => e = .returned (.bool true) ∧ Below w.heap.size w w' := by
  obtain ⟨A, p, rfl, hra⟩ := ha
  obtain ⟨B, q, rfl, hrb⟩ := hb
  have HA := Lib.hid hra
  have HB := Lib.hid hrb
  clear hra hrb
  unfold totV
  generalize hi c = ch, lo c = cl
  go_enter Try.func8, Try.ntmps8
  go_upto_region 1 with fail
  have S0 := Lib.hid (((Own.none w).alloc #[.int .i64 ch, .int .u64 cl, .slice A l.length p] 27).alloc #[.int .i64 ch, .int .u64 cl, .slice B l.length q] 27)
  obtain ⟨ga, hga⟩ : ∃ g, g = w.heap.size := ⟨_, rfl⟩
  obtain ⟨gb, hgb⟩ : ∃ g, g = (w.alloc (.cells #[.int .i64 ch, .int .u64 cl, .slice A l.length p] 27)).heap.size := ⟨_, rfl⟩
  rw [← hgb, ← hga] at S0
  have hgb1 : gb = w.heap.size + 1 := by rw [hgb]; simp
  try rw [← hgb1]
  try rw [← hga]
  clear hga hgb hgb1
  generalize World.alloc (World.alloc w _) _ = w1 at *
  as_aux_lemma =>
    obtain ⟨b0, b1, b2⟩ := tot_cells (S0.out.has (Has.l (has_blk gb _ _)))
    obtain ⟨a0, a1, a2⟩ := tot_cells (S0.out.has (Has.r (Has.l (has_blk ga _ _))))
    go_wp2_with fail
    clear a0 a1 a2 b0 b1 b2
    go_loopw [5] (fun i wr => ∃ (k : Nat), k ≤ l.length ∧ i = .int .i64 k ∧ Hid (Own w No wr (Asn.blk gb 27 #[.int .i64 ch, .int .u64 cl, .slice B l.length q] * (Asn.blk ga 27 #[.int .i64 ch, .int .u64 cl, .slice A l.length p] * Asn.emp)))) (fun i _ => l.length - (intOf i).toNat)
    case atStart => exact ⟨0, by omega, rfl, S0⟩
    case round =>
      clear S0
      obtain ⟨k, hk, rfl, S0⟩ := hrel
      obtain ⟨b0, b1, b2⟩ := tot_cells (S0.out.has (Has.l (has_blk gb _ _)))
      obtain ⟨a0, a1, a2⟩ := tot_cells (S0.out.has (Has.r (Has.l (has_blk ga _ _))))
      by_cases hlt : k < l.length
      · as_aux_lemma =>
        have hltI : (k : Int) < (l.length : Int) := by omega
        obtain ⟨x, hx⟩ : ∃ x, l[k]? = some x := ⟨_, List.getElem?_eq_getElem hlt⟩
        obtain ⟨ba, oa, rfl, -, hc0, hc1⟩ := (HA.out.keep S0.out.bel).at hx
        obtain ⟨bb, ob, rfl, -, hd0, hd1⟩ := (HB.out.keep S0.out.bel).at hx
        generalize hi x = xh, lo x = xl at hc0 hc1 hd0 hd1
        go_upto_region 6 with fail
        have S1 := Lib.hid S0.out.drew
        clear S0
        refine wp_region_held_drew (S := fun W : World => W.cell? ⟨ga, 2, none⟩ = some (.slice (some ⟨ba, oa, none⟩) l.length p) ∧ W.cell? ⟨gb, 2, none⟩ = some (.slice (some ⟨bb, ob, none⟩) l.length q) ∧ W.cell? ⟨ba, oa + k * 2, none⟩ = some (.int .i64 xh) ∧ W.cell? ⟨ba, oa + k * 2 + 1, none⟩ = some (.int .u64 xl) ∧ W.cell? ⟨bb, ob + k * 2, none⟩ = some (.int .i64 xh) ∧ W.cell? ⟨bb, ob + k * 2 + 1, none⟩ = some (.int .u64 xl)) (by kernel_rfl) ⟨a2, b2, hc0, hc1, hd0, hd1⟩ (fun hHeld => ?_)
        clear a0 a1 a2 b0 b1 b2 hc0 hc1 hd0 hd1
        generalize wr.drew = w4 at *
        refine' wpAnyH_take (i := 0) (oi := ?ot1z0) (v := ?vt1z0) ?ht1z0 ?st1z0 ?ft1z0 ?zt1z0 ?qt1z0 ?yt1z0 ?at1z0 ?rt1z0
        case ht1z0 => (simp only [List.getElem?_toArray, List.getElem?_cons_succ, List.getElem?_cons_zero]; rfl)
        case st1z0 => kernel_rfl
        case ft1z0 => kernel_rfl
        case zt1z0 => kernel_rfl
        case qt1z0 => exact fun _ _ _ h => h
        case yt1z0 => (refine Or.inl ⟨rfl, ?_⟩; intro w hSw; obtain ⟨s0, s1, s2, s3, s4, s5⟩ := hSw; go_simp; try with_reducible rfl)
        case at1z0 => assumption
        case rt1z0 =>
        simp only [Act.put, List.setIfInBounds_toArray, List.set_cons_zero, List.set_cons_succ]
        refine' wpAnyH_take (i := 1) (oi := ?ot2z1) (v := ?vt2z1) ?ht2z1 ?st2z1 ?ft2z1 ?zt2z1 ?qt2z1 ?yt2z1 ?at2z1 ?rt2z1
        case ht2z1 => (simp only [List.getElem?_toArray, List.getElem?_cons_succ, List.getElem?_cons_zero]; rfl)
        case st2z1 => kernel_rfl
        case ft2z1 => kernel_rfl
        case zt2z1 => kernel_rfl
        case qt2z1 => exact fun _ _ _ h => h
        case yt2z1 => (refine Or.inl ⟨rfl, ?_⟩; intro w hSw; obtain ⟨s0, s1, s2, s3, s4, s5⟩ := hSw; go_simp; try with_reducible rfl)
        case at2z1 => assumption
        case rt2z1 =>
        simp only [Act.put, List.setIfInBounds_toArray, List.set_cons_zero, List.set_cons_succ]
        refine' wpAnyH_take (i := 2) (oi := ?ot3z2) (v := ?vt3z2) ?ht3z2 ?st3z2 ?ft3z2 ?zt3z2 ?qt3z2 ?yt3z2 ?at3z2 ?rt3z2
        case ht3z2 => (simp only [List.getElem?_toArray, List.getElem?_cons_succ, List.getElem?_cons_zero]; rfl)
        case st3z2 => kernel_rfl
        case ft3z2 => kernel_rfl
        case zt3z2 => kernel_rfl
        case qt3z2 => exact fun _ _ _ h => h
        case yt3z2 => (refine Or.inl ⟨rfl, ?_⟩; intro w hSw; obtain ⟨s0, s1, s2, s3, s4, s5⟩ := hSw; go_simp; try with_reducible rfl)
        case at3z2 => assumption
        case rt3z2 =>
        simp only [Act.put, List.setIfInBounds_toArray, List.set_cons_zero, List.set_cons_succ]
        refine' wpAnyH_take (i := 3) (oi := ?ot4z3) (v := ?vt4z3) ?ht4z3 ?st4z3 ?ft4z3 ?zt4z3 ?qt4z3 ?yt4z3 ?at4z3 ?rt4z3
        case ht4z3 => (simp only [List.getElem?_toArray, List.getElem?_cons_succ, List.getElem?_cons_zero]; rfl)
        case st4z3 => kernel_rfl
        case ft4z3 => kernel_rfl
        case zt4z3 => kernel_rfl
        case qt4z3 => exact fun _ _ _ h => h
        case yt4z3 => (refine Or.inl ⟨rfl, ?_⟩; intro w hSw; obtain ⟨s0, s1, s2, s3, s4, s5⟩ := hSw; go_simp; try with_reducible rfl)
        case at4z3 => assumption
        case rt4z3 =>
        simp only [Act.put, List.setIfInBounds_toArray, List.set_cons_zero, List.set_cons_succ]
        refine' wpAnyH_take (i := 4) (oi := ?ot5z4) (v := ?vt5z4) ?ht5z4 ?st5z4 ?ft5z4 ?zt5z4 ?qt5z4 ?yt5z4 ?at5z4 ?rt5z4
        case ht5z4 => (simp only [List.getElem?_toArray, List.getElem?_cons_succ, List.getElem?_cons_zero]; rfl)
        case st5z4 => kernel_rfl
        case ft5z4 => kernel_rfl
        case zt5z4 => kernel_rfl
        case qt5z4 => exact fun _ _ _ h => h
        case yt5z4 => (refine Or.inl ⟨rfl, ?_⟩; intro w hSw; obtain ⟨s0, s1, s2, s3, s4, s5⟩ := hSw; go_simp; try with_reducible rfl)
        case at5z4 => assumption
        case rt5z4 =>
        simp only [Act.put, List.setIfInBounds_toArray, List.set_cons_zero, List.set_cons_succ]
        refine' wpAnyH_take (i := 5) (oi := ?ot6z5) (v := ?vt6z5) ?ht6z5 ?st6z5 ?ft6z5 ?zt6z5 ?qt6z5 ?yt6z5 ?at6z5 ?rt6z5
        case ht6z5 => (simp only [List.getElem?_toArray, List.getElem?_cons_succ, List.getElem?_cons_zero]; rfl)
        case st6z5 => kernel_rfl
        case ft6z5 => kernel_rfl
        case zt6z5 => kernel_rfl
        case qt6z5 => exact fun _ _ _ h => h
        case yt6z5 => (refine Or.inl ⟨rfl, ?_⟩; intro w hSw; obtain ⟨s0, s1, s2, s3, s4, s5⟩ := hSw; go_simp; try with_reducible rfl)
        case at6z5 => assumption
        case rt6z5 =>
        simp only [Act.put, List.setIfInBounds_toArray, List.set_cons_zero, List.set_cons_succ]
        refine' wpAnyH_take (i := 6) (oi := ?ot7z6) (v := ?vt7z6) ?ht7z6 ?st7z6 ?ft7z6 ?zt7z6 ?qt7z6 ?yt7z6 ?at7z6 ?rt7z6
        case ht7z6 => (simp only [List.getElem?_toArray, List.getElem?_cons_succ, List.getElem?_cons_zero]; rfl)
        case st7z6 => kernel_rfl
        case ft7z6 => kernel_rfl
        case zt7z6 => kernel_rfl
        case qt7z6 => exact fun _ _ _ h => h
        case yt7z6 => (refine Or.inl ⟨rfl, ?_⟩; intro w hSw; obtain ⟨s0, s1, s2, s3, s4, s5⟩ := hSw; go_simp; try with_reducible rfl)
        case at7z6 => assumption
        case rt7z6 =>
        simp only [Act.put, List.setIfInBounds_toArray, List.set_cons_zero, List.set_cons_succ]
        refine' wpAnyH_take (i := 7) (oi := ?ot8z7) (v := ?vt8z7) ?ht8z7 ?st8z7 ?ft8z7 ?zt8z7 ?qt8z7 ?yt8z7 ?at8z7 ?rt8z7
        case ht8z7 => (simp only [List.getElem?_toArray, List.getElem?_cons_succ, List.getElem?_cons_zero]; rfl)
        case st8z7 => kernel_rfl
        case ft8z7 => kernel_rfl
        case zt8z7 => kernel_rfl
        case qt8z7 => exact fun _ _ _ h => h
        case yt8z7 => (refine Or.inl ⟨rfl, ?_⟩; intro w hSw; obtain ⟨s0, s1, s2, s3, s4, s5⟩ := hSw; go_simp; try with_reducible rfl)
        case at8z7 => assumption
        case rt8z7 =>
        simp only [Act.put, List.setIfInBounds_toArray, List.set_cons_zero, List.set_cons_succ]
        refine' wpAnyH_take (i := 8) (oi := ?ot9z8) (v := ?vt9z8) ?ht9z8 ?st9z8 ?ft9z8 ?zt9z8 ?qt9z8 ?yt9z8 ?at9z8 ?rt9z8
        case ht9z8 => (simp only [List.getElem?_toArray, List.getElem?_cons_succ, List.getElem?_cons_zero]; rfl)
        case st9z8 => kernel_rfl
        case ft9z8 => kernel_rfl
        case zt9z8 => kernel_rfl
        case qt9z8 => exact fun _ _ _ h => h
        case yt9z8 => (refine Or.inl ⟨rfl, ?_⟩; intro w hSw; obtain ⟨s0, s1, s2, s3, s4, s5⟩ := hSw; go_simp; try with_reducible rfl)
        case at9z8 => assumption
        case rt9z8 =>
        simp only [Act.put, List.setIfInBounds_toArray, List.set_cons_zero, List.set_cons_succ]
        refine' wpAnyH_take (i := 9) (oi := ?ot10z9) (v := ?vt10z9) ?ht10z9 ?st10z9 ?ft10z9 ?zt10z9 ?qt10z9 ?yt10z9 ?at10z9 ?rt10z9
        case ht10z9 => (simp only [List.getElem?_toArray, List.getElem?_cons_succ, List.getElem?_cons_zero]; rfl)
        case st10z9 => kernel_rfl
        case ft10z9 => kernel_rfl
        case zt10z9 => kernel_rfl
        case qt10z9 => exact fun _ _ _ h => h
        case yt10z9 => (refine Or.inl ⟨rfl, ?_⟩; intro w hSw; obtain ⟨s0, s1, s2, s3, s4, s5⟩ := hSw; go_simp; try with_reducible rfl)
        case at10z9 => assumption
        case rt10z9 =>
        simp only [Act.put, List.setIfInBounds_toArray, List.set_cons_zero, List.set_cons_succ]
        refine' wpAnyH_take (i := 10) (oi := ?ot11z10) (v := ?vt11z10) ?ht11z10 ?st11z10 ?ft11z10 ?zt11z10 ?qt11z10 ?yt11z10 ?at11z10 ?rt11z10
        case ht11z10 => (simp only [List.getElem?_toArray, List.getElem?_cons_succ, List.getElem?_cons_zero]; rfl)
        case st11z10 => kernel_rfl
        case ft11z10 => kernel_rfl
        case zt11z10 => kernel_rfl
        case qt11z10 => exact fun _ _ _ h => h
        case yt11z10 => (refine Or.inl ⟨rfl, ?_⟩; intro w hSw; rw [neq_same _ xh xl _ _ _ _ _ _ _ rfl rfl w])
        case at11z10 => assumption
        case rt11z10 =>
        simp only [Act.put, List.setIfInBounds_toArray, List.set_cons_zero, List.set_cons_succ]
        refine wpAnyH_done (by kernel_rfl) ?_ _
        go_wp2_with fail
        go_roundw
        case rel => exact ⟨k + 1, by omega, by go_num, S1⟩
        case measure => simp only [intOf]; omega

      · as_aux_lemma =>
        obtain rfl : k = l.length := by omega
        go_wp2_with fail
        go_returns
        exact ⟨rfl, S0.out.bel⟩
set_option maxHeartbeats 1000000 in
theorem ReadTotal_no (s : ByteArray) (n : Int) (w : World) (hs : s.size ≤ 1000) (h : n < 0 ∨ 2 < n ∨ 0 ≤ n ∧ n ≤ 2 ∧ (s.size : Int) ≠ 16 * (1 + n)) :
    Calls Try.prog 13 #[.string s, .int .i64 n] w fun e w' => e = .returned (.tuple #[totV 0 none 0 0, .int .i64 3]) ∧ Below w.heap.size w w' := by
  unfold totV
  rw [hi0, lo0]
  rcases h with h | h | ⟨h0, h2, h⟩
  · go_enter Try.func13, Try.ntmps13
    go_wp2_with fail
    go_returns
    exact ⟨rfl, blA (Below.refl _ _) _⟩
  · have h0 : ¬ n < 0 := by omega
    go_enter Try.func13, Try.ntmps13
    go_wp2_with fail
    go_returns
    exact ⟨rfl, blA (Below.refl _ _) _⟩
  · have h1 : ¬ n < 0 := by omega
    have h3 : ¬ 2 < n := by omega
    have hw1 : IntKind.i64.wrap (1 + n) = 1 + n := by rw [i64_is, IntWalk.wrap64_in _ ⟨by omega, by omega⟩]
    have hw2 : IntKind.i64.wrap (16 * (1 + n)) = 16 * (1 + n) := by rw [i64_is, IntWalk.wrap64_in _ ⟨by omega, by omega⟩]
    have h4 : ((s.size : Int) != 16 * (1 + n)) = true := bne_iff_ne.2 h
    clear h
    go_enter Try.func13, Try.ntmps13
    go_wp2_with fail
    go_returns
    exact ⟨rfl, blA (Below.refl _ _) _⟩
/-- The sums that bytes hold, behind the first sixteen. -/
def rdL (s : ByteArray) (n : Nat) : List W1 := (List.range n).map fun i => readZ (s.extract (16 * (i + 1)) (16 * (i + 1) + 16))
theorem rdL_len (s : ByteArray) (n : Nat) : (rdL s n).length = n := by unfold rdL; simp
theorem rdL_at (s : ByteArray) {n k : Nat} (h : k < n) : (rdL s n)[k]? = some (readZ (s.extract (16 * (k + 1)) (16 * (k + 1) + 16))) := by unfold rdL; simp [h]
theorem own_joinP {w0 w w' : World} {O0 : Nat → Prop} {A B : Asn} (h : Own w0 O0 w A) (k : Own w No w' B) : Own w0 O0 w' (B * A) :=
  h.then fun O hO => k.frame hO (fun _ h => h.elim) (fun _ => ⟨Or.inr, fun h => h.elim (fun x => x.elim) id⟩)
theorem own_3a {w0 w : World} {O0 : Nat → Prop} {A : Asn} {g : Nat} {T : TypeId} {a0 a1 a2 : Value} (h : Own w0 O0 w (Asn.blk g T #[a0, a1, a2] * A)) (b0 b1 : Value) :
    Own w0 O0 ((w.setCell ⟨g, 0, none⟩ b0).setCell ⟨g, 1, none⟩ b1) (Asn.blk g T #[b0, b1, a2] * A) := by
  have h1 := h.set (Sets.l (sets_blk g T #[a0, a1, a2] 0 b0))
  exact h1.set (Sets.l (sets_blk g T _ 1 b1))
theorem resTE {fn : Func} {x y : Nat} {tm : Array Value} {w : World} {g : Nat} {a0 a1 a2 v : Value} (hf : fn.results = #[.cell x 27, .tmp y]) (hx : tm[x]?.getD undef = .pointer (some ⟨g, 0, none⟩)) (hy : tm[y]?.getD undef = v)
    (hB : Blk w g 27 #[a0, a1, a2]) : (results fn tm).run Try.prog w = .ok (.tuple #[.agg #[a0, a1, a2], v]) w := by
  obtain ⟨c0, c1, c2⟩ := tot_cells hB
  clear hB
  unfold results
  rw [hf]
  simp [go_sem, hx, hy, c0, c1, c2]
theorem number_w (s : ByteArray) (k : Nat) (w : World) (hm : s.size ≤ maxLen) (hk : 16 * k + 16 ≤ s.size) :
    Calls Try.prog 28 #[.string s, .int .i64 k] w fun e w' => e = .returned (.agg #[.int .i64 (hi (readZ (s.extract (16 * k) (16 * k + 16)))), .int .u64 (lo (readZ (s.extract (16 * k) (16 * k + 16))))]) ∧ Below w.heap.size w w' := numberAt_any s k w hm hk
set_option maxRecDepth 100000 in
set_option maxHeartbeats 4000000 in
theorem ReadTotal_yes (s : ByteArray) (n : Nat) (w : World) (h2 : n ≤ 2) (hs : s.size = 16 * (1 + n)) :
    Calls Try.prog 13 #[.string s, .int .i64 n] w fun e w' => ∃ v, e = .returned (.tuple #[v, .int .i64 0]) ∧ Below w.heap.size w w' ∧ IsTot w' v (readZ (s.extract 0 16)) (rdL s n) := by
  have hm : s.size ≤ maxLen := by unfold maxLen; omega
  have hc2 : cut2 (n : Int) = n := by unfold cut2; split <;> (try split) <;> omega
  have HNo := Lib.hid (fun w => Nothing_own (n : Int) w)
  rw [hc2] at HNo
  have HN0 := Lib.hid (fun w => number_w s 0 w hm (by omega))
  rw [show 16 * 0 + 16 = 16 from rfl, Nat.mul_zero] at HN0
  have HNk := Lib.hid (fun k (hk : k < n) w => number_w s (k + 1) w hm (by omega))
  have h0I : ¬ (n : Int) < 0 := by omega
  have h3I : ¬ (2 : Int) < (n : Int) := by omega
  have hw1 : IntKind.i64.wrap (1 + (n : Int)) = 1 + (n : Int) := by rw [i64_is, IntWalk.wrap64_in _ ⟨by omega, by omega⟩]
  have hw2 : IntKind.i64.wrap (16 * (1 + (n : Int))) = 16 * (1 + (n : Int)) := by rw [i64_is, IntWalk.wrap64_in _ ⟨by omega, by omega⟩]
  have h4 : ((s.size : Int) != 16 * (1 + (n : Int))) = false := by rw [bne_eq_false_iff_eq]; omega
  have hsb : s.size ≤ 48 := by omega
  clear hs hc2
  generalize hcc : readZ (s.extract 0 16) = c at *
  clear hcc
  go_enter Try.func13, Try.ntmps13
  go_upto_region 1 with fail
  have S0 := Lib.hid ((Own.none w).alloc #[.int .i64 0, .int .u64 0, .slice none 0 0] 27)
  obtain ⟨gr, hgz⟩ : ∃ g, g = w.heap.size := ⟨_, rfl⟩
  rw [← hgz] at S0 ⊢
  clear hgz
  generalize World.alloc w _ = w1 at *
  go_wp2_with fail
  refine (HNo.out _).mono ?_
  rintro e w2 ⟨gm, rfl, hX⟩
  have S1 := Lib.hid (own_joinP S0.out hX)
  clear S0 hX HNo hw1 hw2 h4 h0I h3I
  go_upto_region 4 with fail
  have S2 := Lib.hid (S1.out.alloc #[.int .i64 0, .int .u64 0, .slice (some ⟨gm, 0, none⟩) n n] 27)
  obtain ⟨gx, hgz⟩ : ∃ g, g = w2.heap.size := ⟨_, rfl⟩
  rw [← hgz] at S2 ⊢
  clear hgz S1
  generalize World.alloc w2 _ = w3 at *
  as_aux_lemma =>
    go_wp2_with fail
    refine (HN0.out _).mono ?_
    rintro e w4 ⟨rfl, hb⟩
    have S3 := Lib.hid (S2.out.below hb)
    clear S2 hb HN0
    obtain ⟨x0, x1, x2⟩ := tot_cells (S3.out.has (Has.l (has_blk gx _ _)))
    have y0 := fr3 (S3.out.has (Has.l (has_blk gx _ _))) 0
    have y1 := fr3 (S3.out.has (Has.l (has_blk gx _ _))) 1
    go_upto_region 5 with fail
    have S4 := Lib.hid (show Own w No _ (Asn.blk gx 27 #[.int .i64 (hi c), .int .u64 (lo c), .slice (some ⟨gm, 0, none⟩) n n] * (Asn.blk gm 24 (cellsW (prt (rdL s n) 0)).toArray * (Asn.blk gr 27 #[.int .i64 0, .int .u64 0, .slice none 0 0] * Asn.emp))) from by
      rw [show prt (rdL s n) 0 = zer n by rw [prt_zero, rdL_len]]
      exact (own_3a S3.out (.int .i64 (hi c)) (.int .u64 (lo c))).re (by ac_rfl))
    clear x0 x1 x2 y0 y1 S3
    generalize World.setCell (World.setCell w4 _ _) _ _ = w5 at *
    obtain ⟨x0, x1, x2⟩ := tot_cells (S4.out.has (Has.l (has_blk gx _ _)))
    go_wp2_with fail
    clear x0 x1 x2
    go_loopw [31] (fun i wr => ∃ (k : Nat), k ≤ n ∧ i = .int .i64 k ∧ Hid (Own w No wr (Asn.blk gx 27 #[.int .i64 (hi c), .int .u64 (lo c), .slice (some ⟨gm, 0, none⟩) n n] * (Asn.blk gm 24 (cellsW (prt (rdL s n) k)).toArray * (Asn.blk gr 27 #[.int .i64 0, .int .u64 0, .slice none 0 0] * Asn.emp))))) (fun i _ => n - (intOf i).toNat)
    case atStart => exact ⟨0, by omega, rfl, S4⟩
    case round =>
      clear S4
      obtain ⟨k, hk, rfl, S4⟩ := hrel
      by_cases hlt : k < n
      · as_aux_lemma =>
          have hltI : (k : Int) < (n : Int) := by omega
          have hk0 : (0 : Int) ≤ (k : Int) := by omega
          have hx := rdL_at s hlt
          have HNu := Lib.hid (HNk.out k hlt)
          rw [show ((k + 1 : Nat) : Int) = 1 + (k : Int) by omega] at HNu
          generalize readZ (s.extract (16 * (k + 1)) (16 * (k + 1) + 16)) = x at *
          have hw1 : IntKind.i64.wrap (1 + (k : Int)) = 1 + (k : Int) := by rw [i64_is, IntWalk.wrap64_in _ ⟨by omega, by omega⟩]
          have hkl : k < (prt (rdL s n) k).length := by rw [prt_len _ (by rw [rdL_len]; omega), rdL_len]; exact hlt
          obtain ⟨z, hz⟩ : ∃ z, (prt (rdL s n) k)[k]? = some z := ⟨_, List.getElem?_eq_getElem hkl⟩
          have hcz := cellsW_at _ _ _ hz
          have HPS := Lib.hid (prt_set _ hx)
          clear hx hz
          go_upto_region 8 with fail
          have S5 := Lib.hid S4.out.drew
          clear S4
          refine wp_region_held_drew (S := fun W : World => W.cell? ⟨gx, 2, none⟩ = some (.slice (some ⟨gm, 0, none⟩) n n)) (by kernel_rfl) (tot_cells (S5.out.has (Has.l (has_blk gx _ _)))).2.2 (fun hHeld => ?_)
          generalize wr.drew = w4 at *
          refine' wpAnyH_take (i := 0) (oi := ?ot12z0) (v := ?vt12z0) ?ht12z0 ?st12z0 ?ft12z0 ?zt12z0 ?qt12z0 ?yt12z0 ?at12z0 ?rt12z0
          case ht12z0 => (simp only [List.getElem?_toArray, List.getElem?_cons_succ, List.getElem?_cons_zero]; rfl)
          case st12z0 => kernel_rfl
          case ft12z0 => kernel_rfl
          case zt12z0 => kernel_rfl
          case qt12z0 => exact fun _ _ _ h => h
          case yt12z0 => (refine Or.inl ⟨rfl, ?_⟩; intro w hSw; have hS1 := hSw; go_simp; try with_reducible rfl)
          case at12z0 => assumption
          case rt12z0 =>
          simp only [Act.put, List.setIfInBounds_toArray, List.set_cons_zero, List.set_cons_succ]
          refine' wpAnyH_take (i := 1) (oi := ?ot13z1) (v := ?vt13z1) ?ht13z1 ?st13z1 ?ft13z1 ?zt13z1 ?qt13z1 ?yt13z1 ?at13z1 ?rt13z1
          case ht13z1 => (simp only [List.getElem?_toArray, List.getElem?_cons_succ, List.getElem?_cons_zero]; rfl)
          case st13z1 => kernel_rfl
          case ft13z1 => kernel_rfl
          case zt13z1 => kernel_rfl
          case qt13z1 => exact fun _ _ _ h => h
          case yt13z1 => (refine Or.inl ⟨rfl, ?_⟩; intro w hSw; have hS1 := hSw; go_simp; try with_reducible rfl)
          case at13z1 => assumption
          case rt13z1 =>
          simp only [Act.put, List.setIfInBounds_toArray, List.set_cons_zero, List.set_cons_succ]
          refine' wpAnyH_take (i := 2) (oi := ?ot14z2) (v := ?vt14z2) ?ht14z2 ?st14z2 ?ft14z2 ?zt14z2 ?qt14z2 ?yt14z2 ?at14z2 ?rt14z2
          case ht14z2 => (simp only [List.getElem?_toArray, List.getElem?_cons_succ, List.getElem?_cons_zero]; rfl)
          case st14z2 => kernel_rfl
          case ft14z2 => kernel_rfl
          case zt14z2 => kernel_rfl
          case qt14z2 => exact fun _ _ _ h => h
          case yt14z2 => (refine Or.inl ⟨rfl, ?_⟩; intro w hSw; have hS1 := hSw; go_simp; try with_reducible rfl)
          case at14z2 => assumption
          case rt14z2 =>
          simp only [Act.put, List.setIfInBounds_toArray, List.set_cons_zero, List.set_cons_succ]
          refine' wpAnyH_take (i := 3) (oi := ?ot15z3) (v := ?vt15z3) ?ht15z3 ?st15z3 ?ft15z3 ?zt15z3 ?qt15z3 ?yt15z3 ?at15z3 ?rt15z3
          case ht15z3 => (simp only [List.getElem?_toArray, List.getElem?_cons_succ, List.getElem?_cons_zero]; rfl)
          case st15z3 => kernel_rfl
          case ft15z3 => kernel_rfl
          case zt15z3 => kernel_rfl
          case qt15z3 => exact fun _ _ _ h => h
          case yt15z3 => (refine Or.inl ⟨rfl, ?_⟩; intro w hSw; have hS1 := hSw; go_simp; try with_reducible rfl)
          case at15z3 => assumption
          case rt15z3 =>
          simp only [Act.put, List.setIfInBounds_toArray, List.set_cons_zero, List.set_cons_succ]
          refine' wpAnyH_take (i := 4) (oi := ?ot16z4) (v := ?vt16z4) ?ht16z4 ?st16z4 ?ft16z4 ?zt16z4 ?qt16z4 ?yt16z4 ?at16z4 ?rt16z4
          case ht16z4 => (simp only [List.getElem?_toArray, List.getElem?_cons_succ, List.getElem?_cons_zero]; rfl)
          case st16z4 => kernel_rfl
          case ft16z4 => kernel_rfl
          case zt16z4 => kernel_rfl
          case qt16z4 => exact fun _ _ _ h => h
          case yt16z4 => (refine Or.inl ⟨rfl, ?_⟩; intro w hSw; have hS1 := hSw; go_simp; try with_reducible rfl)
          case at16z4 => assumption
          case rt16z4 =>
          simp only [Act.put, List.setIfInBounds_toArray, List.set_cons_zero, List.set_cons_succ]
          refine' wpAnyH_take (i := 5) (oi := ?ot17z5) (v := ?vt17z5) ?ht17z5 ?st17z5 ?ft17z5 ?zt17z5 ?qt17z5 ?yt17z5 ?at17z5 ?rt17z5
          case ht17z5 => (simp only [List.getElem?_toArray, List.getElem?_cons_succ, List.getElem?_cons_zero]; rfl)
          case st17z5 => kernel_rfl
          case ft17z5 => kernel_rfl
          case zt17z5 => kernel_rfl
          case qt17z5 => exact fun _ _ _ h => h
          case yt17z5 => (refine Or.inl ⟨rfl, ?_⟩; intro w hSw; have hS1 := hSw; go_simp; try with_reducible rfl)
          case at17z5 => assumption
          case rt17z5 =>
          simp only [Act.put, List.setIfInBounds_toArray, List.set_cons_zero, List.set_cons_succ]
          refine wpAnyH_ready (rs := [6]) (by kernel_rfl) (by simp) ?_
          refine' AllReadyH.cons (o := ?ob18z6) ?hb18z6 ?kb18z6 AllReadyH.nil
          case hb18z6 => (simp only [List.getElem?_toArray, List.getElem?_cons_succ, List.getElem?_cons_zero]; rfl)
          case kb18z6 =>
            intro K0 hK
            go_simp
            refine (HNu.out _).mono ?_
            rintro er wk19 ⟨rfl, hX⟩
            have SK19 := Lib.hid (S5.out.below hX)
            clear hX S5
            refine hK.out _ _ ?_ (fun hHeld => ?_)
            · exact (tot_cells (SK19.out.has (Has.l (has_blk _ _ _)))).2.2
            clear hK K0
            (try simp only [Act.put, List.setIfInBounds_toArray, List.set_cons_zero, List.set_cons_succ])
            (try clear hH2)
            refine' wpAnyH_take (i := 7) (oi := ?ot20z7) (v := ?vt20z7) ?ht20z7 ?st20z7 ?ft20z7 ?zt20z7 ?qt20z7 ?yt20z7 ?at20z7 ?rt20z7
            case ht20z7 => (simp only [List.getElem?_toArray, List.getElem?_cons_succ, List.getElem?_cons_zero]; rfl)
            case st20z7 => kernel_rfl
            case ft20z7 => kernel_rfl
            case zt20z7 => kernel_rfl
            case qt20z7 => exact fun _ _ _ h => h
            case yt20z7 => (refine Or.inl ⟨rfl, ?_⟩; intro w hSw; have hS1 := hSw; go_simp; try with_reducible rfl)
            case at20z7 => assumption
            case rt20z7 =>
            simp only [Act.put, List.setIfInBounds_toArray, List.set_cons_zero, List.set_cons_succ]
            refine wpAnyH_ready (rs := [8]) (by kernel_rfl) (by simp) ?_
            refine' AllReadyH.cons (o := ?ob21z8) ?hb21z8 ?kb21z8 AllReadyH.nil
            case hb21z8 => (simp only [List.getElem?_toArray, List.getElem?_cons_succ, List.getElem?_cons_zero]; rfl)
            case kb21z8 =>
              intro K0 hK
              have e0 := (SK19.out.has (Has.r (Has.l (has_blk _ _ _)))).cell (k * 2)
              have e1 := (SK19.out.has (Has.r (Has.l (has_blk _ _ _)))).cell (k * 2 + 1)
              rw [List.getElem?_toArray, hcz.1] at e0
              rw [List.getElem?_toArray, hcz.2] at e1
              have y0 := fr3 (SK19.out.has (Has.r (Has.l (has_blk _ _ _)))) (k * 2)
              have y1 := fr3 (SK19.out.has (Has.r (Has.l (has_blk _ _ _)))) (k * 2 + 1)
              go_simp
              clear e0 e1 y0 y1
              have SB22a := Lib.hid ((SK19.out.set (Sets.r (Sets.l (sets_blk gm _ _ (k * 2) (.int .i64 (hi x)))))).set (Sets.r (Sets.l (sets_blk gm _ _ (k * 2 + 1) (.int .u64 (lo x))))))
              rw [cellsW_setA _ _ _ hkl, HPS.out] at SB22a
              have SB22 := SB22a
              clear SB22a SK19
              generalize World.setCell (World.setCell wk19 _ _) _ _ = wb22 at *
              refine hK.out _ _ ?_ (fun hHeld => ?_)
              · exact (tot_cells (SB22.out.has (Has.l (has_blk _ _ _)))).2.2
              clear hK K0
              (try simp only [Act.put, List.setIfInBounds_toArray, List.set_cons_zero, List.set_cons_succ])
              (try clear hH2)
              refine wpAnyH_done (by kernel_rfl) ?_ _
              go_wp2_with fail
              go_roundw
              case rel => exact ⟨k + 1, by omega, by go_num, SB22⟩
              case measure => simp only [intOf]; omega

      · as_aux_lemma =>
          obtain rfl : n = k := by omega
          rw [show prt (rdL s n) n = rdL s n by have := prt_end (rdL s n); rw [rdL_len] at this; exact this] at S4
          have S5 := Lib.hid (S4.out.re (show _ = Asn.blk gr 27 #[.int .i64 0, .int .u64 0, .slice none 0 0] * (Asn.blk gm 24 (cellsW (rdL s n)).toArray * (Asn.blk gx 27 #[.int .i64 (hi c), .int .u64 (lo c), .slice (some ⟨gm, 0, none⟩) n n] * Asn.emp)) by ac_rfl))
          clear S4
          obtain ⟨x0, x1, x2⟩ := tot_cells (S5.out.has (Has.r (Has.r (Has.l (has_blk gx _ _)))))
          obtain ⟨z0, z1, z2⟩ := tot_cells (S5.out.has (Has.l (has_blk gr _ _)))
          have y0 := fr3 (S5.out.has (Has.l (has_blk gr _ _))) 0
          have y1 := fr3 (S5.out.has (Has.l (has_blk gr _ _))) 1
          have y2 := fr3 (S5.out.has (Has.l (has_blk gr _ _))) 2
          go_wp2_with fail
          have S6 := Lib.hid (own_3 S5.out (.int .i64 (hi c)) (.int .u64 (lo c)) (.slice (some ⟨gm, 0, none⟩) n n))
          clear x0 x1 x2 y0 y1 y2 z0 z1 z2 S5
          generalize World.setCell (World.setCell (World.setCell wr _ _) _ _) _ _ = w9 at *
          exact bodyPost_ret (resTE rfl rfl rfl (S6.out.has (Has.l (has_blk gr _ _)))) rfl ⟨_, rfl, S6.out.bel, some ⟨gm, 0, none⟩, n, by rw [rdL_len]; rfl, WReads.of_blk (S6.out.has (Has.r (Has.l (has_blk gm _ _))))⟩
end Go.Proofs.Ytoofoalpffoheaa.Pn
