/- The document's bytes of a total, and whether it is of nothing. -/
import Derived.Test.YtoofoalpffoheaaPnC
import Derived.Test.YtoofoalpffoheaaPnL
namespace Go.Proofs.Ytoofoalpffoheaa.Pn
open Go.ChangeShapes Go.WideShapes Go.ChangeAt Go.RowKit Go.PlainAid Aid Wd
set_option linter.unusedVariables false
set_option linter.unusedSimpArgs false
theorem ofL_appP (a b : List UInt8) : ofL a ++ ofL b = ofL (a ++ b) := by
  apply ByteArray.ext
  rw [ByteArray.data_append]
  show a.toArray ++ b.toArray = (a ++ b).toArray
  simp
theorem refCode_w (x : W1) (w : World) : Calls Try.prog 24 #[.agg #[.int .i64 (hi x), .int .u64 (lo x)]] w fun e w' => e = .returned (.string (ofL (codeW x))) ∧ Below w.heap.size w w' := refCode_any _ _ w
set_option maxRecDepth 100000 in
set_option maxHeartbeats 1000000 in
theorem refTotal_any (v : Value) (c : W1) (l : List W1) (w : World) (hl : l.length ≤ 1000) (h : IsTot w v c l) :
    Calls Try.prog 7 #[v] w fun e w' => e = .returned (.string (ofL (totB c l))) ∧ Below w.heap.size w w' := by
  obtain ⟨A, cap, rfl, hr⟩ := h
  have HR := Lib.hid hr
  have HC := Lib.hid refCode_w
  clear hr
  unfold totV
  go_enter Try.func7, Try.ntmps7
  go_upto_region 1 with fail
  have S0 := Lib.hid ((Own.none w).alloc #[.int .i64 (hi c), .int .u64 (lo c), .slice A l.length cap] 27)
  obtain ⟨gt, hgz⟩ : ∃ g, g = w.heap.size := ⟨_, rfl⟩
  rw [← hgz] at S0 ⊢
  clear hgz
  generalize World.alloc w _ = w1 at *
  obtain ⟨c0, c1, c2⟩ := tot_cells (S0.out.has (Has.l (has_blk gt _ _)))
  go_wp2_with fail
  refine (HC.out c _).mono ?_
  rintro e w3 ⟨rfl, hb⟩
  have S2 := Lib.hid (S0.out.below hb)
  clear S0 hb c0 c1 c2
  go_wp2_with fail
  go_loopw [3, 4] (fun s i wr => ∃ (k : Nat) (a : ByteArray), k ≤ l.length ∧ s = .string a ∧ i = .int .i64 k ∧ Hid (a = ofL (codeW c ++ codesW (l.take k))) ∧ Hid (Own w No wr (Asn.blk gt 27 #[.int .i64 (hi c), .int .u64 (lo c), .slice A l.length cap] * Asn.emp))) (fun _ i _ => l.length - (intOf i).toNat)
  case atStart => exact ⟨0, _, by omega, rfl, rfl, Lib.hid (by rw [List.take_zero, show codesW [] = [] from rfl, List.append_nil]), S2⟩
  case round =>
    clear S2
    obtain ⟨k, a, hk, rfl, rfl, HAc, S3⟩ := hrel
    obtain ⟨c0, c1, c2⟩ := tot_cells (S3.out.has (Has.l (has_blk gt _ _)))
    by_cases hlt : k < l.length
    · as_aux_lemma =>
        have hltI : (k : Int) < (l.length : Int) := by omega
        have hk0 : (0 : Int) ≤ (k : Int) := by omega
        obtain ⟨x, hx⟩ : ∃ x, l[k]? = some x := ⟨_, List.getElem?_eq_getElem hlt⟩
        obtain ⟨b, off, rfl, hbl, hc0, hc1⟩ := (HR.out.keep S3.out.bel).at hx
        have HTK := Lib.hid (show a ++ ofL (codeW x) = ofL (codeW c ++ codesW (l.take (k + 1))) from by
          rw [HAc.out, List.take_add_one, hx, ofL_appP, List.append_assoc]
          exact congrArg (fun z => ofL (codeW c ++ z)) (codesW_snoc _ _).symm)
        have HCx := Lib.hid (HC.out x)
        have hsa : a.size ≤ 100000 := by
          rw [HAc.out]
          show (codeW c ++ codesW (l.take k)).length ≤ _
          rw [List.length_append, codeW_len, codesW_len, List.length_take]
          omega
        have hsx : (ofL (codeW x)).size = 16 := rfl
        have hsum : a.size + (ofL (codeW x)).size ≤ 9223372036854775807 := by omega
        generalize ofL (codeW x) = sx at *
        clear HAc
        generalize hi x = xh, lo x = xl at *
        clear hx
        go_wp2_with fail
        refine (HCx.out _).mono ?_
        rintro e w6 ⟨rfl, hb⟩
        have S6 := Lib.hid (S3.out.below hb)
        clear S3 hb c0 c1 c2 hc0 hc1
        go_wp2_with fail
        go_roundw
        case rel => exact ⟨k + 1, _, by omega, rfl, by go_num, HTK, S6⟩
        case measure => simp only [intOf]; omega
    · as_aux_lemma =>
        obtain rfl : k = l.length := by omega
        rw [List.take_length] at HAc
        go_wp2_with fail
        go_returns
        exact ⟨by rw [show ofL (totB c l) = a from HAc.out.symm]; rfl, S3.out.bel⟩
theorem zero_iff (x : W1) : (decide (hi x = 0) && decide (lo x = 0)) = decide (x = 0) := by
  by_cases h : x = 0
  · subst h
    rw [hi0, lo0]
    rfl
  · rw [decide_eq_false h]
    by_cases h1 : hi x = 0
    · by_cases h2 : lo x = 0
      · exact absurd (same (by rw [h1, hi0]) (by rw [h2, lo0])) h
      · rw [decide_eq_false h2, Bool.and_false]
    · rw [decide_eq_false h1]; rfl
theorem eq_zero (ev : Operand → Value) (ah al : Int) (d : Option Tmp) (x y : Operand) (ty : TypeId) (ps : String) (af : Array Edge) (g : Option (Tmp × Bool)) (hx : ev x = .agg #[.int .i64 ah, .int .u64 al]) (hy : ev y = .agg #[.int .i64 0, .int .u64 0]) (W : World) :
    (execOp ev { dst := d, op := Op.binOp BinOp.eql 24 x y 24, type := ty, pos := ps, after := af, guard := g }).run Try.prog W = .ok (.value (.bool (decide (ah = 0) && decide (al = 0)))) W := by
  unfold execOp
  simp only [hx, hy]
  go_simp
  by_cases h1 : ah = 0
  · by_cases h2 : al = 0
    · simp [h1, h2]
    · simp [h1, h2]
  · simp [h1]
theorem list_eqz {ops : Array Oper} {rest : List Oper} {d : Option Tmp} {ty : TypeId} {ps : String} {af : Array Edge} {g : Option (Tmp × Bool)} {a : Act} {Q : Exit → Act → World → Prop} {w : World} (x y : Operand)
    (hw : Region.wanted { dst := d, op := Op.binOp BinOp.eql 24 x y 24, type := ty, pos := ps, after := af, guard := g } (yielded ops a.tmps) = true) (ah al : Int) (hx : a.eval x = .agg #[.int .i64 ah, .int .u64 al]) (hy : a.eval y = .agg #[.int .i64 0, .int .u64 0]) (q : Bool) (hq : (decide (ah = 0) && decide (al = 0)) = q)
    (h : wpList Try.prog ops Q rest (a.put d (.bool q)) w) : wpList Try.prog ops Q ({ dst := d, op := Op.binOp BinOp.eql 24 x y 24, type := ty, pos := ps, after := af, guard := g } :: rest) a w := by
  unfold wpList
  rw [if_pos hw]
  left
  unfold Oper.wp
  rw [eq_zero a.eval ah al d x y ty ps af g hx hy w, hq]
  exact h
theorem nothB_snoc (c : W1) (l : List W1) (x : W1) : nothB c (l ++ [x]) = (nothB c l && decide (x = 0)) := by unfold nothB; rw [List.all_append]; simp [Bool.and_assoc]
set_option maxRecDepth 100000 in
set_option maxHeartbeats 1000000 in
theorem refIsNothing_any (v : Value) (c : W1) (l : List W1) (w : World) (hl : l.length ≤ 1000) (h : IsTot w v c l) :
    Calls Try.prog 12 #[v] w fun e w' => e = .returned (.bool (nothB c l)) ∧ Below w.heap.size w w' := by
  obtain ⟨A, cap, rfl, hr⟩ := h
  have HR := Lib.hid hr
  have HZ := Lib.hid (zero_iff c)
  clear hr
  unfold totV
  obtain ⟨ch, hch⟩ : ∃ h, h = hi c := ⟨_, rfl⟩
  obtain ⟨cl, hcl⟩ : ∃ h, h = lo c := ⟨_, rfl⟩
  rw [← hch, ← hcl] at HZ ⊢
  clear hch hcl
  go_enter Try.func12, Try.ntmps12
  go_upto_region 1 with fail
  have S0 := Lib.hid ((Own.none w).alloc #[.int .i64 ch, .int .u64 cl, .slice A l.length cap] 27)
  obtain ⟨gt, hgz⟩ : ∃ g, g = w.heap.size := ⟨_, rfl⟩
  rw [← hgz] at S0 ⊢
  clear hgz
  generalize World.alloc w _ = w1 at *
  obtain ⟨c0, c1, c2⟩ := tot_cells (S0.out.has (Has.l (has_blk gt _ _)))
  go_upto_region 2 with (with_reducible refine list_eqz (.tmp 6) (.tmp 7) rfl ch cl rfl rfl (decide (c = 0)) HZ.out ?_)
  have HZ0 := HZ
  clear HZ c0 c1 c2
  generalize hq : decide (c = 0) = q at *
  have HQ := Lib.hid hq
  clear hq HZ0
  go_wp2_with fail
  go_loopw [3, 4] (fun s i wr => ∃ (k : Nat) (a : Bool), k ≤ l.length ∧ s = .bool a ∧ i = .int .i64 k ∧ Hid (a = nothB c (l.take k)) ∧ Hid (Own w No wr (Asn.blk gt 27 #[.int .i64 ch, .int .u64 cl, .slice A l.length cap] * Asn.emp))) (fun _ i _ => l.length - (intOf i).toNat)
  case atStart => exact ⟨0, _, by omega, rfl, rfl, Lib.hid (by unfold nothB; rw [HQ.out, List.take_zero]; simp), S0⟩
  case round =>
    clear S0 HQ
    obtain ⟨k, a, hk, rfl, rfl, HAc, S3⟩ := hrel
    obtain ⟨c0, c1, c2⟩ := tot_cells (S3.out.has (Has.l (has_blk gt _ _)))
    by_cases hlt : k < l.length
    · have hltI : (k : Int) < (l.length : Int) := by omega
      have hk0 : (0 : Int) ≤ (k : Int) := by omega
      obtain ⟨x, hx⟩ : ∃ x, l[k]? = some x := ⟨_, List.getElem?_eq_getElem hlt⟩
      obtain ⟨b, off, rfl, hbl, hd0, hd1⟩ := (HR.out.keep S3.out.bel).at hx
      have HTK := Lib.hid (show nothB c (l.take (k + 1)) = (a && decide (x = 0)) from by
        rw [HAc.out, List.take_add_one, hx]
        exact nothB_snoc c _ x)
      have HZx := Lib.hid (zero_iff x)
      generalize hi x = xh, lo x = xl at *
      generalize decide (x = 0) = qx at *
      clear HAc hx
      cases a with
      | false =>
        go_wp2_with fail
        go_roundw
        case rel => exact ⟨k + 1, _, by omega, rfl, by go_num, Lib.hid (by rw [HTK.out]; rfl), S3⟩
        case measure => simp only [intOf]; omega
      | true =>
        go_wp2_with (with_reducible refine list_eqz (.tmp 22) (.tmp 23) rfl xh xl rfl rfl qx HZx.out ?_)
        clear HZx hd0 hd1 c0 c1 c2
        go_wp2_with fail
        go_roundw
        case rel => exact ⟨k + 1, _, by omega, rfl, by go_num, Lib.hid (by rw [HTK.out]; rfl), S3⟩
        case measure => simp only [intOf]; omega
    · obtain rfl : k = l.length := by omega
      rw [List.take_length] at HAc
      go_wp2_with fail
      go_returns
      exact ⟨by rw [show nothB c l = a from HAc.out.symm]; rfl, S3.out.bel⟩
end Go.Proofs.Ytoofoalpffoheaa.Pn
