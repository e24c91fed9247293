/- A log's methods: what is safe, is there. -/
import Derived.Test.YtaacinhmgmmcaaaDoorDyC
namespace Go.Proofs.YtaacinhmgmmcaaaDoor.Nt
open Go.ChangeShapes Go.WideShapes Go.ChangeAt Go.RowKit Go.PlainAid Aid Cr
set_option linter.unusedVariables false
set_option linter.unusedSimpArgs false
section
variable (g gr m size : Nat) (v : Value) (L : List Rec) (safe held : Nat)
set_option maxRecDepth 100000 in
set_option maxHeartbeats 1000000 in
theorem tIsSafe_miss (x : Int) (hx : ∀ k, k < L.length → (at_ L k : Int) ≠ x) :
    Tr Tryd.prog 22 #[lPtr g, .int .i64 x] (aLg g gr m size v L safe held) (.bool false) (aLg g gr m size v L safe held) := by
  intro w O hA
  have HF := Lib.hid (tFind_miss g gr m size v L safe held x hx)
  have S := Lib.hid (Own.start hA)
  clear hA hx
  unfold lPtr noWr at *
  go_enter Tryd.func22, Tryd.ntmps22
  go_wp2_with fail
  refine (S.out.call (HF.out)).mono ?_
  rintro e w1 ⟨rfl, hX⟩
  have S1 := Lib.hid hX
  clear hX S 
  go_wp2_with fail
  go_returns
  exact ⟨rfl, (S1.out.alloc noWr 80).right⟩
set_option maxRecDepth 100000 in
set_option maxHeartbeats 1000000 in
theorem tIsSafe_hit (k : Nat) (r : Rec) (hk : L[k]? = some r) :
    Tr Tryd.prog 22 #[lPtr g, .int .i64 (at_ L k)] (aLg g gr m size v L safe held) (.bool (decide (at_ L k + (bytes r).length ≤ safe + 1))) (aLg g gr m size v L safe held) := by
  intro w O hA
  have HF := Lib.hid (tFind_hit g gr m size v L safe held k r hk)
  have S := Lib.hid (Own.start hA)
  obtain ⟨k1, k2, k3⟩ := lg_fits S.out
  have he := at_end L k r hk
  have HS := Lib.hid (tSafe g gr m size v L safe held (at_ L k) (ofL (bytes r)) (by omega) (by rw [ofL_sz]; omega))
  have hd : decide (((at_ L k : Nat) : Int) - 1 + ((ofL (bytes r)).size : Int) ≤ (safe : Int)) = decide (at_ L k + (bytes r).length ≤ safe + 1) := by
    rw [ofL_sz]; congr 1; apply propext; omega
  rw [hd] at HS
  clear hA hk he hd
  unfold lPtr wrV at *
  generalize at_ L k = a at *
  generalize ofL (bytes r) = y at *
  generalize decide (a + (bytes r).length ≤ safe + 1) = B at *
  go_enter Tryd.func22, Tryd.ntmps22
  go_wp2_with fail
  refine (S.out.call (HF.out)).mono ?_
  rintro e w1 ⟨rfl, hX⟩
  have S1 := Lib.hid hX
  clear hX S 
  have S2 := Lib.hid (S1.out.alloc #[.int .i64 a, .string y] 80)
  clear S1
  go_wp2_with fail
  obtain ⟨gx, hgz⟩ : ∃ g, g = w1.heap.size := ⟨_, rfl⟩
  rw [← hgz] at S2 ⊢
  clear hgz
  generalize w1.alloc _ = w2 at *
  refine (S2.out.call HS.out.r).mono ?_
  rintro e w3 ⟨rfl, hX⟩
  have S3 := Lib.hid hX
  clear hX S2 HS
  go_wp2_with fail
  go_returns
  exact ⟨rfl, S3.out.right⟩
set_option maxRecDepth 100000 in
set_option maxHeartbeats 1000000 in
theorem tForce_miss (x : Int) (hx : ∀ k, k < L.length → (at_ L k : Int) ≠ x) :
    Tr Tryd.prog 14 #[lPtr g, .int .i64 x] (aLg g gr m size v L safe held) (.int .i64 1) (aLg g gr m size v L safe held) := by
  intro w O hA
  have HF := Lib.hid (tFind_miss g gr m size v L safe held x hx)
  have S := Lib.hid (Own.start hA)
  clear hA hx
  unfold lPtr noWr at *
  go_enter Tryd.func14, Tryd.ntmps14
  go_wp2_with fail
  refine (S.out.call (HF.out)).mono ?_
  rintro e w1 ⟨rfl, hX⟩
  have S1 := Lib.hid hX
  clear hX S 
  go_wp2_with fail
  go_returns
  exact ⟨rfl, (S1.out.alloc noWr 80).right⟩
set_option maxRecDepth 100000 in
set_option maxHeartbeats 1000000 in
theorem tForce_safe (k : Nat) (r : Rec) (hk : L[k]? = some r) (hs : at_ L k + (bytes r).length ≤ safe + 1) :
    Tr Tryd.prog 14 #[lPtr g, .int .i64 (at_ L k)] (aLg g gr m size v L safe held) (.int .i64 0) (aLg g gr m size v L safe held) := by
  intro w O hA
  have HF := Lib.hid (tFind_hit g gr m size v L safe held k r hk)
  have S := Lib.hid (Own.start hA)
  obtain ⟨k1, k2, k3⟩ := lg_fits S.out
  have he := at_end L k r hk
  have HS := Lib.hid (tSafe g gr m size v L safe held (at_ L k) (ofL (bytes r)) (by omega) (by rw [ofL_sz]; omega))
  have hd : decide (((at_ L k : Nat) : Int) - 1 + ((ofL (bytes r)).size : Int) ≤ (safe : Int)) = true := by
    rw [ofL_sz]; simp only [decide_eq_true_eq]; omega
  rw [hd] at HS
  clear hA hk he hd hs
  unfold lPtr wrV at *
  generalize at_ L k = a at *
  generalize ofL (bytes r) = y at *
  go_enter Tryd.func14, Tryd.ntmps14
  go_wp2_with fail
  refine (S.out.call (HF.out)).mono ?_
  rintro e w1 ⟨rfl, hX⟩
  have S1 := Lib.hid hX
  clear hX S 
  have S2 := Lib.hid (S1.out.alloc #[.int .i64 a, .string y] 80)
  clear S1
  go_upto_region 6 with fail
  obtain ⟨gx, hgz⟩ : ∃ g, g = w1.heap.size := ⟨_, rfl⟩
  rw [← hgz] at S2 ⊢
  clear hgz
  generalize w1.alloc _ = w2 at *
  obtain ⟨c0, c1, -, -⟩ := two_wr (S2.out.has (Has.l (has_blk _ _ _)))
  go_wp2_with fail
  refine (S2.out.call HS.out.r).mono ?_
  rintro e w3 ⟨rfl, hX⟩
  have S3 := Lib.hid hX
  clear hX S2 HS c0 c1
  go_wp2_with fail
  go_returns
  exact ⟨rfl, S3.out.right⟩
set_option maxRecDepth 100000 in
set_option maxHeartbeats 1000000 in
theorem tForce_sync (q : Mn.Pw) (hq : q.ans = 0) (k : Nat) (r : Rec) (hk : L[k]? = some r) (hs : ¬ at_ L k + (bytes r).length ≤ safe + 1) :
    Tr Tryd.prog 14 #[lPtr g, .int .i64 (at_ L k)] (aLg g gr m size v L safe held * Mn.aMn m q) (.int .i64 0) (aLg g gr m size v L (flat L).length held * Mn.aMn m q.use) := by
  intro w O hA
  have HF := Lib.hid (tFind_hit g gr m size v L safe held k r hk)
  have S := Lib.hid (Own.start hA)
  obtain ⟨k1, k2, k3⟩ := lg_fits S.out.left
  have he := at_end L k r hk
  have HS := Lib.hid (tSafe g gr m size v L safe held (at_ L k) (ofL (bytes r)) (by omega) (by rw [ofL_sz]; omega))
  have hd : decide (((at_ L k : Nat) : Int) - 1 + ((ofL (bytes r)).size : Int) ≤ (safe : Int)) = false := by
    rw [ofL_sz]; simp only [decide_eq_false_iff_not]; omega
  rw [hd] at HS
  have HY := Lib.hid (Rl.tSync_ok gr m size (ofL (flat L)) safe q hq)
  clear hA hk he hd hs
  unfold lPtr wrV at *
  generalize at_ L k = a at *
  generalize ofL (bytes r) = y at *
  go_enter Tryd.func14, Tryd.ntmps14
  go_wp2_with fail
  refine (S.out.call (HF.out.l)).mono ?_
  rintro e w1 ⟨rfl, hX⟩
  have S1 := Lib.hid hX
  clear hX S 
  have S2 := Lib.hid (S1.out.alloc #[.int .i64 a, .string y] 80)
  clear S1
  go_upto_region 6 with fail
  obtain ⟨gx, hgz⟩ : ∃ g, g = w1.heap.size := ⟨_, rfl⟩
  rw [← hgz] at S2 ⊢
  clear hgz
  generalize w1.alloc _ = w2 at *
  obtain ⟨c0, c1, -, -⟩ := two_wr (S2.out.has (Has.l (has_blk _ _ _)))
  go_wp2_with fail
  refine (S2.out.call HS.out.l.r).mono ?_
  rintro e w3 ⟨rfl, hX⟩
  have S3 := Lib.hid hX.right.assoc
  clear hX S2 HS c0 c1
  obtain ⟨c0, -, -, -, -⟩ := lg_cells (S3.out.has (Has.l (Has.l (has_blk _ _ _))))
  go_wp2_with fail
  refine (S3.out.call HY.out.r).mono ?_
  rintro e w4 ⟨rfl, hX⟩
  have S4 := Lib.hid hX.assoc'
  clear hX S3 HY c0
  go_wp2_with fail
  go_returns
  exact ⟨rfl, S4.out⟩
set_option maxRecDepth 100000 in
set_option maxHeartbeats 1000000 in
theorem tAt_miss (x : Int) (hx : ∀ k, k < L.length → (at_ L k : Int) ≠ x) :
    Tr Tryd.prog 20 #[lPtr g, .int .i64 x] (aLg g gr m size v L safe held) (.tuple #[.agg zeroCells, .bool false]) (aLg g gr m size v L safe held) := by
  intro w O hA
  have HF := Lib.hid (tFind_miss g gr m size v L safe held x hx)
  have S := Lib.hid ((Own.start hA).alloc zeroCells 45)
  clear hA hx
  unfold lPtr noWr zeroCells at *
  go_enter Tryd.func20, Tryd.ntmps20
  go_wp2_with fail
  obtain ⟨gx, hgz⟩ : ∃ g, g = w.heap.size := ⟨_, rfl⟩
  rw [← hgz] at S ⊢
  clear hgz
  generalize w.alloc _ = w1 at *
  refine (S.out.call HF.out.r).mono ?_
  rintro e w2 ⟨rfl, hX⟩
  have S1 := Lib.hid (hX.alloc noWr 80).right
  unfold noWr at S1
  clear hX S
  go_upto_region 4 with fail
  generalize w2.alloc _ = w3 at *
  obtain ⟨⟨c0, c1, c2, c3, c4, c5, c6, c7, c8, c9, c10⟩, f0, f1, f2, f3, f4, f5, f6, f7, f8, f9, f10⟩ := eleven (S1.out.has (Has.l (has_blk _ _ _)))
  go_wp2_with fail
  have S2 := Lib.hid (own_eleven S1.out (.int .i64 0) (.int .i64 0) (.int .i64 0) (.int .i64 0) (.slice none 0 0) (.int .i64 0) (.int .i64 0) (.string ⟨#[]⟩) (.string ⟨#[]⟩) (.slice none 0 0) (.slice none 0 0))
  clear S1 c0 c1 c2 c3 c4 c5 c6 c7 c8 c9 c10 f0 f1 f2 f3 f4 f5 f6 f7 f8 f9 f10
  generalize World.setCell (World.setCell (World.setCell (World.setCell (World.setCell (World.setCell (World.setCell (World.setCell (World.setCell (World.setCell (World.setCell w3 _ _) _ _) _ _) _ _) _ _) _ _) _ _) _ _) _ _) _ _) _ _ = w4 at *
  obtain ⟨⟨c0, c1, c2, c3, c4, c5, c6, c7, c8, c9, c10⟩, -⟩ := eleven (S2.out.has (Has.l (has_blk _ _ _)))
  exact bodyPost_ret (v := .tuple #[.agg #[.int .i64 0, .int .i64 0, .int .i64 0, .int .i64 0, .slice none 0 0, .int .i64 0, .int .i64 0, .string ⟨#[]⟩, .string ⟨#[]⟩, .slice none 0 0, .slice none 0 0], .bool false]) (by simp [results, Tryd.results20, go_sem, c0, c1, c2, c3, c4, c5, c6, c7, c8, c9, c10]) rfl ⟨rfl, S2.out.right⟩
set_option maxRecDepth 100000 in
set_option maxHeartbeats 1000000 in
theorem tLast (n : Nat) (hn : n = if L.length = 0 then 0 else at_ L (L.length - 1)) :
    Tr Tryd.prog 23 #[lPtr g] (aLg g gr m size v L safe held) (.int .i64 n) (aLg g gr m size v L safe held) := by
  intro w O hA
  have HT := Lib.hid (tThere g gr m size v L safe held)
  have S := Lib.hid (Own.start hA)
  clear hA
  rcases S.out.left.vecR.forms with ⟨rfl, hz⟩ | ⟨b, cap, rfl, hb, hnc, hcm⟩
  · rw [if_pos hz] at hn
    subst hn
    unfold lPtr at *
    go_enter Tryd.func23, Tryd.ntmps23
    go_wp2_with fail
    refine (S.out.call (HT.out)).mono ?_
    rintro e w1 ⟨rfl, hX⟩
    have S1 := Lib.hid hX
    clear hX S 
    go_wp2_with fail
    go_returns
    exact ⟨rfl, S1.out⟩
  · by_cases hz : L.length = 0
    · rw [if_pos hz] at hn
      subst hn
      unfold lPtr at *
      have hzi : (L.length : Int) = 0 := by omega
      go_enter Tryd.func23, Tryd.ntmps23
      go_wp2_with fail
      refine (S.out.call (HT.out)).mono ?_
      rintro e w1 ⟨rfl, hX⟩
      have S1 := Lib.hid hX
      clear hX S 
      go_wp2_with fail
      go_returns
      exact ⟨rfl, S1.out⟩
    · rw [if_neg hz] at hn
      obtain ⟨r, hr⟩ : ∃ r, L[L.length - 1]? = some r := ⟨L[L.length - 1]'(by omega), List.getElem?_eq_getElem _⟩
      obtain ⟨q1, q2⟩ := rows_at 0 L _ r hr
      rw [Nat.zero_add, ← hn] at q1
      have Q1 := Lib.hid q1
      have hzi : ¬ (L.length : Int) = 0 := by omega
      have hpos : 0 < L.length := by omega
      unfold maxLen at hcm
      have hw1 : IntKind.i64.wrap ((L.length : Int) - 1) = ((L.length - 1 : Nat) : Int) := by rw [IntKind.wrap_i64]; omega
      have hsub : (L.length : Int) - 1 = ((L.length - 1 : Nat) : Int) := by omega
      have hlt : L.length - 1 < L.length := by omega
      clear q1 q2 hr hn
      unfold lPtr at *
      go_enter Tryd.func23, Tryd.ntmps23
      go_wp2_with fail
      refine (S.out.call (HT.out)).mono ?_
      rintro e w1 ⟨rfl, hX⟩
      have S1 := Lib.hid hX
      clear hX S 
      have d0 := S1.out.left.vecR.cell Q1.out
      go_wp2_with fail
      go_returns
      exact ⟨rfl, S1.out⟩
end
end Go.Proofs.YtaacinhmgmmcaaaDoor.Nt
