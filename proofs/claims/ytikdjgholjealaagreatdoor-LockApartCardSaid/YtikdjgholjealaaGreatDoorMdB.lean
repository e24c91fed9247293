/- Modes of locks: what can be a mode, go together, be above, in plain terms; and what the code's calls answer. -/
import Derived.Test.YtikdjgholjealaaGreatDoorChg
import Derived.Test.YtikdjgholjealaaGreatDoorRows
namespace Go.Proofs.YtikdjgholjealaaGreatDoor.Md
open Go.ChangeShapes Go.WideShapes Go.ChangeAt Go.RowKit Go.PlainAid Aid
set_option linter.unusedVariables false
set_option linter.unusedSimpArgs false

def partL : List Int := [0, 30, 6, 26, 10, 0, 64, 128, 256, 0]
def aboveL : List Int := [0, 62, 36, 56, 48, 32, 96, 640, 768, 512]
def bruL : List Int := [0, 1, 28, 2, 29, 14, 24, 3, 30, 22, 20, 15, 25, 17, 4, 8, 31, 27, 13, 23, 21, 19, 16, 7, 26, 12, 18, 6, 11, 5, 10, 9]
/-- The code's three tables. -/
def Tabs (w : World) : Prop := (1 < w.heap.size ∧ 0 < w.heap.size ∧ 3 < w.heap.size) ∧
  (∀ i, i < 10 → w.cell? ⟨1, i, none⟩ = some (.int .u16 (partL.getD i 0))) ∧
  (∀ i, i < 10 → w.cell? ⟨0, i, none⟩ = some (.int .u16 (aboveL.getD i 0))) ∧
  (∀ i, i < 32 → w.cell? ⟨3, i, none⟩ = some (.int .u8 (bruL.getD i 0)))
theorem Tabs.keep {w w' : World} (h : Tabs w) (hb : Below w.heap.size w w') : Tabs w' := by
  obtain ⟨⟨h0, h1, h2⟩, hp, ha, hd⟩ := h
  have hs := hb.size
  exact ⟨⟨by omega, by omega, by omega⟩, fun i hi => by rw [(bcell hb).1 _ _ h0]; exact hp i hi, fun i hi => by rw [(bcell hb).1 _ _ h1]; exact ha i hi, fun i hi => by rw [(bcell hb).1 _ _ h2]; exact hd i hi⟩

def goodZ (a : Int) : Bool := decide (1 ≤ a) && decide (a ≤ 9)
theorem goodZ_nat {a : Int} (h : goodZ a = true) : ∃ k : Nat, 1 ≤ k ∧ k ≤ 9 ∧ a = k := by
  simp only [goodZ, Bool.and_eq_true, decide_eq_true_eq] at h
  exact ⟨a.toNat, by omega, by omega, by omega⟩
def hasB (s : Int) (a : Nat) : Bool := (bits .and .u16 (s / 2 ^ a) 1 == 1)
def goesZ (a b : Int) : Bool := goodZ a && (goodZ b && hasB (partL.getD a.toNat 0) b.toNat)
def covZ (a b : Int) : Bool := goodZ a && (goodZ b && hasB (aboveL.getD b.toNat 0) a.toNat)

theorem Good_any (a : Int) (w : World) :
    Calls Tryz.prog 25 #[.int .i64 a] w fun e w' => e = .returned (.bool (goodZ a)) ∧ w' = w := by
  by_cases h : 1 ≤ a
  · go_enter Tryz.func25, Tryz.ntmps25
    go_wp2_with fail
    go_returns
    simp [h, goodZ]
  · go_enter Tryz.func25, Tryz.ntmps25
    go_wp2_with fail
    go_returns
    simp [goodZ]
    omega
theorem has_any (s : Int) (a : Nat) (ha : a ≤ 9) (w : World) :
    Calls Tryz.prog 26 #[.int .u16 s, .int .i64 a] w fun e w' => e = .returned (.bool (hasB s a)) ∧ w' = w := by
  go_enter Tryz.func26, Tryz.ntmps26
  go_wp2_with fail
  go_returns
  simp [hasB]
set_option maxHeartbeats 1000000 in
theorem Goes_any (a b : Int) (w : World) (ht : Tabs w) :
    Calls Tryz.prog 16 #[.int .i64 a, .int .i64 b] w fun e w' => e = .returned (.bool (goesZ a b)) ∧ w' = w := by
  have c1 := Good_any a w
  have c2 := Good_any b w
  cases h1 : goodZ a
  · rw [h1] at c1
    go_enter Tryz.func16, Tryz.ntmps16
    go_wp2_with fail
    refine (c1).mono ?_
    rintro e w' ⟨rfl, rfl⟩
    go_wp2_with fail
    go_returns
    simp [h1, goesZ]
  cases h2 : goodZ b
  · rw [h1] at c1; rw [h2] at c2
    go_enter Tryz.func16, Tryz.ntmps16
    go_wp2_with fail
    refine (c1).mono ?_
    rintro e w' ⟨rfl, rfl⟩
    go_wp2_with fail
    refine (c2).mono ?_
    rintro e w' ⟨rfl, rfl⟩
    go_wp2_with fail
    go_returns
    simp [h1, h2, goesZ]
  have h1' := h1
  have h2' := h2
  obtain ⟨i, hi1, hi9, rfl⟩ := goodZ_nat h1
  obtain ⟨j, hj1, hj9, rfl⟩ := goodZ_nat h2
  rw [h1] at c1; rw [h2] at c2
  have hc := ht.2.1 i (by omega)
  obtain ⟨x, hx⟩ : ∃ x, x = partL.getD i 0 := ⟨_, rfl⟩
  rw [← hx] at hc
  have HX := Lib.hid hx
  clear hx
  have c3 := has_any x j hj9 w
  go_enter Tryz.func16, Tryz.ntmps16
  go_wp2_with fail
  refine (c1).mono ?_
  rintro e w' ⟨rfl, rfl⟩
  go_wp2_with fail
  refine (c2).mono ?_
  rintro e w' ⟨rfl, rfl⟩
  go_wp2_with fail
  refine (c3).mono ?_
  rintro e w' ⟨rfl, rfl⟩
  go_wp2_with fail
  go_returns
  have hy := HX.out
  subst hy
  simp [h1', h2', goesZ]
set_option maxHeartbeats 1000000 in
theorem Covers_any (a b : Int) (w : World) (ht : Tabs w) :
    Calls Tryz.prog 10 #[.int .i64 a, .int .i64 b] w fun e w' => e = .returned (.bool (covZ a b)) ∧ w' = w := by
  have c1 := Good_any a w
  have c2 := Good_any b w
  cases h1 : goodZ a
  · rw [h1] at c1
    go_enter Tryz.func10, Tryz.ntmps10
    go_wp2_with fail
    refine (c1).mono ?_
    rintro e w' ⟨rfl, rfl⟩
    go_wp2_with fail
    go_returns
    simp [h1, covZ]
  cases h2 : goodZ b
  · rw [h1] at c1; rw [h2] at c2
    go_enter Tryz.func10, Tryz.ntmps10
    go_wp2_with fail
    refine (c1).mono ?_
    rintro e w' ⟨rfl, rfl⟩
    go_wp2_with fail
    refine (c2).mono ?_
    rintro e w' ⟨rfl, rfl⟩
    go_wp2_with fail
    go_returns
    simp [h1, h2, covZ]
  have h1' := h1
  have h2' := h2
  obtain ⟨i, hi1, hi9, rfl⟩ := goodZ_nat h1
  obtain ⟨j, hj1, hj9, rfl⟩ := goodZ_nat h2
  rw [h1] at c1; rw [h2] at c2
  have hc := ht.2.2.1 j (by omega)
  obtain ⟨x, hx⟩ : ∃ x, x = aboveL.getD j 0 := ⟨_, rfl⟩
  rw [← hx] at hc
  have HX := Lib.hid hx
  clear hx
  have c3 := has_any x i hi9 w
  go_enter Tryz.func10, Tryz.ntmps10
  go_wp2_with fail
  refine (c1).mono ?_
  rintro e w' ⟨rfl, rfl⟩
  go_wp2_with fail
  refine (c2).mono ?_
  rintro e w' ⟨rfl, rfl⟩
  go_wp2_with fail
  refine (c3).mono ?_
  rintro e w' ⟨rfl, rfl⟩
  go_wp2_with fail
  go_returns
  have hy := HX.out
  subst hy
  simp [h1', h2', covZ]
theorem tz_any (x : Int) (d : Nat) (h1 : 1 ≤ d) (h9 : d ≤ 9) (w : World) (ht : Tabs w) (hx : (x == 0) = false) (hb : bits .and .u16 x (IntKind.u16.wrap (-x)) = 2 ^ d) :
    Calls Tryz.prog 69 #[.int .u16 x] w fun e w' => e = .returned (.int .i64 d) ∧ w' = w := by
  obtain ⟨k, hk, hi, hd⟩ : ∃ k : Nat, k < 32 ∧ (2 ^ d : Int) % 4294967296 * 125613361 % 4294967296 / 134217728 = (k : Int) ∧ bruL.getD k 0 = (d : Int) := by
    have : ∀ d : Fin 10, 1 ≤ d.val → ∃ k : Fin 32, (2 ^ d.val : Int) % 4294967296 * 125613361 % 4294967296 / 134217728 = (k.val : Int) ∧ bruL.getD k.val 0 = (d.val : Int) := by decide +kernel
    obtain ⟨k, ha, hb⟩ := this ⟨d, by omega⟩ h1
    exact ⟨k.val, k.isLt, ha, hb⟩
  have hc := ht.2.2.2 k hk
  rw [hd] at hc
  rw [← hb] at hi
  have hk2 : (0 : Int) ≤ (k : Int) ∧ (k : Int) < 32 := by omega
  clear hb hd
  go_enter Tryz.func69, Tryz.ntmps69
  go_wp2_with fail
  go_returns
  simp

theorem least_one (s : Int) (d : Nat) (h1 : 1 ≤ d) (h9 : d ≤ 9) (w : World) (ht : Tabs w) (hx : (s == 0) = false) (hb : bits .and .u16 s (IntKind.u16.wrap (-s)) = 2 ^ d)
    (ha : bits .andNot .u16 s (aboveL.getD d 0) = 0) :
    Calls Tryz.prog 50 #[.int .u16 s] w fun e w' => e = .returned (.int .i64 d) ∧ w' = w := by
  have c1 := tz_any s d h1 h9 w ht hx hb
  have hc := ht.2.2.1 d (by omega)
  generalize aboveL.getD d 0 = y at *
  clear hb
  go_enter Tryz.func50, Tryz.ntmps50
  go_wp2_with fail
  refine wp_loop_rounds 1 ?_
  rw [rounds_succ]
  go_wp2_with fail
  refine (c1).mono ?_
  rintro e w' ⟨rfl, rfl⟩
  go_wp2_with fail
  go_returns
  simp
theorem least_none (w : World) (ht : Tabs w) :
    Calls Tryz.prog 50 #[.int .u16 0] w fun e w' => e = .returned (.int .i64 0) ∧ w' = w := by
  go_enter Tryz.func50, Tryz.ntmps50
  go_wp2_with fail
  refine wp_loop_rounds 1 ?_
  rw [rounds_succ]
  go_wp2_with fail
  go_returns
  simp
set_option maxHeartbeats 1000000 in
theorem least_E (w : World) (ht : Tabs w) :
    Calls Tryz.prog 50 #[.int .u16 96] w fun e w' => e = .returned (.int .i64 6) ∧ w' = w := by
  have c1 := tz_any 96 5 (by decide) (by decide) w ht (by decide) (by decide +kernel)
  have c2 := tz_any 64 6 (by decide) (by decide) w ht (by decide) (by decide +kernel)
  have h1 := ht.2.2.1 5 (by omega)
  have h2 := ht.2.2.1 6 (by omega)
  rw [show aboveL.getD 5 0 = 32 from rfl] at h1
  rw [show aboveL.getD 6 0 = 96 from rfl] at h2
  have e1 : bits .andNot .u16 96 32 = 64 := by decide +kernel
  have e2 : bits .andNot .u16 96 96 = 0 := by decide +kernel
  have e3 : bits .and .u16 96 95 = 64 := by decide +kernel
  go_enter Tryz.func50, Tryz.ntmps50
  go_wp2_with fail
  refine wp_loop_rounds 2 ?_
  rw [rounds_succ]
  go_wp2_with fail
  refine (c1).mono ?_
  rintro e w' ⟨rfl, rfl⟩
  go_wp2_with fail
  rw [rounds_succ]
  go_wp2_with fail
  refine (c2).mono ?_
  rintro e w' ⟨rfl, rfl⟩
  go_wp2_with fail
  go_returns
  simp
/-- What is least of a set that some two modes' sets have in common. -/
def leastL : List (Int × Nat) := [(62, 1), (36, 2), (56, 3), (48, 4), (32, 5), (96, 6), (640, 7), (768, 8), (512, 9), (0, 0)]
theorem least_any (s : Int) (d : Nat) (h : (s, d) ∈ leastL) (w : World) (ht : Tabs w) :
    Calls Tryz.prog 50 #[.int .u16 s] w fun e w' => e = .returned (.int .i64 d) ∧ w' = w := by
  simp only [leastL, List.mem_cons, Prod.mk.injEq, List.mem_nil_iff, or_false] at h
  rcases h with ⟨rfl, rfl⟩ | ⟨rfl, rfl⟩ | ⟨rfl, rfl⟩ | ⟨rfl, rfl⟩ | ⟨rfl, rfl⟩ | ⟨rfl, rfl⟩ | ⟨rfl, rfl⟩ | ⟨rfl, rfl⟩ | ⟨rfl, rfl⟩ | ⟨rfl, rfl⟩
  case inr.inr.inr.inr.inr.inl => exact least_E w ht
  case inr.inr.inr.inr.inr.inr.inr.inr.inr => exact least_none w ht
  all_goals exact least_one _ _ (by decide) (by decide) w ht (by decide) (by decide +kernel) (by decide +kernel)
def both (a b : Nat) : Int := bits .and .u16 (aboveL.getD a 0) (aboveL.getD b 0)
def joinN (a b : Nat) : Nat := (leastL.lookup (both a b)).getD 0
theorem joinN_mem (a b : Nat) (ha : a ≤ 9) (hb : b ≤ 9) : (both a b, joinN a b) ∈ leastL := by
  have : ∀ a b : Fin 10, (both a.val b.val, joinN a.val b.val) ∈ leastL := by decide +kernel
  exact this ⟨a, by omega⟩ ⟨b, by omega⟩
def joinZ (a b : Int) : Nat := if goodZ a && goodZ b then joinN a.toNat b.toNat else 0
set_option maxHeartbeats 1000000 in
theorem Join_any (a b : Int) (w : World) (ht : Tabs w) :
    Calls Tryz.prog 36 #[.int .i64 a, .int .i64 b] w fun e w' => e = .returned (.int .i64 (joinZ a b)) ∧ ∃ k, w' = w.drewN k := by
  cases h1 : goodZ a
  · have c1 := Good_any a w
    rw [h1] at c1
    go_enter Tryz.func36, Tryz.ntmps36
    go_wp2_with fail
    refine (c1).mono ?_
    rintro e w' ⟨rfl, rfl⟩
    go_wp2_with fail
    go_returns
    refine ⟨?_, 0, rfl⟩
    simp [h1, joinZ]
  cases h2 : goodZ b
  · have c1 := Good_any a w
    have c2 := Good_any b w
    rw [h1] at c1; rw [h2] at c2
    go_enter Tryz.func36, Tryz.ntmps36
    go_wp2_with fail
    refine (c1).mono ?_
    rintro e w' ⟨rfl, rfl⟩
    go_wp2_with fail
    refine (c2).mono ?_
    rintro e w' ⟨rfl, rfl⟩
    go_wp2_with fail
    go_returns
    refine ⟨?_, 0, rfl⟩
    simp [h1, h2, joinZ]
  have c1 := Good_any a w
  have c2 := Good_any b w
  have h1' := h1
  have h2' := h2
  obtain ⟨i, hi1, hi9, rfl⟩ := goodZ_nat h1
  obtain ⟨j, hj1, hj9, rfl⟩ := goodZ_nat h2
  rw [h1] at c1; rw [h2] at c2
  have ha := ht.2.2.1 i (by omega)
  have hb := ht.2.2.1 j (by omega)
  have hm := joinN_mem i j hi9 hj9
  have hz : joinZ (i : Int) (j : Int) = joinN i j := by simp [joinZ, h1', h2']
  rw [hz]
  obtain ⟨z, hzz⟩ : ∃ z, z = joinN i j := ⟨_, rfl⟩
  rw [← hzz] at hm ⊢
  clear hzz hz
  unfold both at hm
  generalize aboveL.getD i 0 = x at *
  generalize aboveL.getD j 0 = y at *
  have HM := Lib.hid hm
  have HT := Lib.hid ht
  clear hm ht
  go_enter Tryz.func36, Tryz.ntmps36
  go_wp2_with fail
  refine (c1).mono ?_
  rintro e w' ⟨rfl, rfl⟩
  go_wp2_with fail
  refine (c2).mono ?_
  rintro e w' ⟨rfl, rfl⟩
  go_wp2_with fail
  go_quiet ((exact Calls.quiet_of_same (least_any _ _ HM.out _ (HT.out.keep (blN (Below.refl _ _) _)))))
  go_wp2_with fail
  go_returns
  exact ⟨rfl, nq, rfl⟩
/-- A pair in a row of pairs. -/
def inL (l : List (Int × Int)) (a b : Int) : Bool := l.any fun p => p.1 == a && p.2 == b
def Pairs (w : World) (g : Nat) (l : List (Int × Int)) : Prop := ∀ i p, l[i]? = some p → w.cell? ⟨g, i * 2, none⟩ = some (.int .i64 p.1) ∧ w.cell? ⟨g, i * 2 + 1, none⟩ = some (.int .i64 p.2)
def goesP : List (Int × Int) := [(1, 1), (1, 2), (1, 3), (1, 4), (2, 2), (3, 3), (3, 4), (6, 6), (7, 7), (8, 8)]
def covP : List (Int × Int) := [(2, 1), (3, 1), (4, 1), (5, 1), (5, 2), (4, 3), (5, 3), (5, 4), (5, 6), (9, 7), (9, 8)]
def goesR (a b : Int) : Bool := inL goesP a b || inL goesP b a
def covR (a b : Int) : Bool := (goodZ a && a == b) || inL covP a b
def pairL (l : List (Int × Int)) : List Value := l.flatMap fun p => [.int .i64 p.1, .int .i64 p.2]
theorem pairL_at (l : List (Int × Int)) (i : Nat) (p : Int × Int) (h : l[i]? = some p) : (pairL l)[i * 2]? = some (.int .i64 p.1) ∧ (pairL l)[i * 2 + 1]? = some (.int .i64 p.2) := by
  induction l generalizing i with
  | nil => simp at h
  | cons a l ih =>
    cases i with
    | zero => obtain rfl : a = p := by simpa using h
              exact ⟨rfl, rfl⟩
    | succ i =>
      have := ih i (by simpa using h)
      rw [show (i + 1) * 2 = i * 2 + 2 by omega]
      exact this
theorem pairs_new (w : World) (T : TypeId) (l : List (Int × Int)) : Pairs (w.alloc (.cells (pairL l).toArray T)) w.heap.size l := by
  intro i p hp
  have B := Blk.new w (pairL l).toArray T
  rw [B.cell, B.cell, List.getElem?_toArray, List.getElem?_toArray]
  exact pairL_at l i p hp
theorem Pairs.keepB {w w' : World} {g : Nat} {l : List (Int × Int)} (h : Pairs w g l) (hg : g < w.heap.size) (hb : Below w.heap.size w w') : Pairs w' g l := by
  intro i p hp
  rw [(bcell hb).1 _ _ hg, (bcell hb).1 _ _ hg]
  exact h i p hp
end Go.Proofs.YtikdjgholjealaaGreatDoor.Md
