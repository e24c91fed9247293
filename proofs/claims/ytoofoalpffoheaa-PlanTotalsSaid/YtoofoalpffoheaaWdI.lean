/- The document's Of and Compare of rows of truths. -/
import Derived.Test.YtoofoalpffoheaaWdH
namespace Go.Proofs.Ytoofoalpffoheaa.Wd
open Go.ChangeShapes Go.WideShapes Go.ChangeAt Go.RowKit Go.PlainAid Aid
set_option linter.unusedVariables false
set_option linter.unusedSimpArgs false
theorem half_step (a k : Nat) : a / 2 ^ k = 2 * (a / 2 ^ (k + 1)) + (if a.testBit k then 1 else 0) := by
  rw [Nat.testBit_eq_decide_div_mod_eq, Nat.pow_succ, ← Nat.div_div_eq_div_mul]
  generalize a / 2 ^ k = q
  by_cases h : q % 2 = 1
  · simp [h]; omega
  · simp [h]; omega
theorem half_lt (a k : Nat) (ha : a < 18446744073709551616) (hk : k < 64) : a / 2 ^ (k + 1) < 9223372036854775808 := by
  rw [Nat.div_lt_iff_lt_mul (Nat.two_pow_pos _), Nat.pow_succ]
  have := Nat.one_le_two_pow (n := k)
  omega
theorem wv_nat (x : BitVec 128) : Wv x = .agg #[.int .i64 (wrap64 ((x.toNat / 18446744073709551616 : Nat) : Int)), .int .u64 ((x.toNat % 18446744073709551616 : Nat) : Int)] := by
  unfold Wv hi lo; simp
set_option maxRecDepth 100000 in
set_option maxHeartbeats 1000000 in
theorem refOf_any (x : BitVec 128) (w : World) :
    Calls Try.prog 36 #[.agg (Bs x.getLsbD)] w fun e w' => e = .returned (Wv x) ∧ Below w.heap.size w w' := by
  have b1 : ∀ k, k < 64 → x.getLsbD k = (x.toNat % 18446744073709551616).testBit k := fun k hk => by
    rw [show (18446744073709551616 : Nat) = 2 ^ 64 from rfl, Nat.testBit_mod_two_pow, BitVec.getLsbD]; simp [hk]
  have b2 : ∀ k, k < 64 → x.getLsbD (64 + k) = (x.toNat / 18446744073709551616).testBit k := fun k hk => by
    rw [show (18446744073709551616 : Nat) = 2 ^ 64 from rfl, Nat.testBit_div_two_pow, BitVec.getLsbD, Nat.add_comm]
  have HL := Lib.hid b1
  have HH := Lib.hid b2
  have ha : x.toNat % 18446744073709551616 < 18446744073709551616 := Nat.mod_lt _ (by decide)
  have hc : x.toNat / 18446744073709551616 < 18446744073709551616 := by have := x.isLt; omega
  rw [wv_nat]
  clear b1 b2
  generalize x.toNat % 18446744073709551616 = a, x.toNat / 18446744073709551616 = c, x.getLsbD = fr at *
  have S0 := Lib.hid (((Own.none w).alloc (Bs fr) 83).alloc #[.int .i64 0, .int .u64 0] 24)
  obtain ⟨B, hB⟩ : ∃ B, B = Bs fr := ⟨_, rfl⟩
  rw [← hB] at S0 ⊢
  have HB := Lib.hid hB
  clear hB
  go_enter Try.func36, Try.ntmps36
  simp only [World.size_alloc] at S0
  go_upto_region 1 with fail
  obtain ⟨g1, hgz⟩ : ∃ g, g = w.heap.size := ⟨_, rfl⟩
  rw [← hgz] at S0 ⊢
  clear hgz
  generalize World.alloc (World.alloc w _) _ = w1 at *
  generalize g1 + 1 = g2 at *
  rw [HB.out] at S0
  clear HB
  go_wp2_with fail
  go_loopw [3, 4, 5] (fun l h i wr => ∃ k : Nat, k ≤ 64 ∧ i = .int .i64 ((k : Int) - 1) ∧ l = .int .u64 ((a / 2 ^ k : Nat) : Int) ∧ h = .int .u64 ((c / 2 ^ k : Nat) : Int) ∧ wr = w1) (fun _ _ i _ => (intOf i + 1).toNat)
  case atStart =>
    exact ⟨64, by omega, rfl, by rw [Nat.div_eq_of_lt (a := a) ha]; rfl, by rw [Nat.div_eq_of_lt (a := c) hc]; rfl, rfl⟩
  case round =>
    obtain ⟨k, hk, rfl, rfl, rfl, rfl⟩ := hrel
    rcases k with _ | k
    · rw [show ((0 : Nat) : Int) - 1 = -1 from rfl, Nat.pow_zero, Nat.div_one, Nat.div_one]
      obtain ⟨⟨d0, d1⟩, f0, f1⟩ := two_of (S0.out.has (Has.l (has_blk g2 _ _)))
      have S3 := Lib.hid (own_2 S0.out (.int .i64 (wrap64 (c : Int))) (.int .u64 (a : Int)))
      go_wp2_with fail
      exact bodyPost_ret (resW (x := 2) rfl rfl (S3.out.has (Has.l (has_blk g2 _ _)))) rfl ⟨rfl, S3.out.bel⟩
    · have hk' : k < 64 := by omega
      have hx := bit_of (S0.out.has (Has.r (Has.l (has_blk g1 _ _)))) k (by omega)
      have hy := bit_of (S0.out.has (Has.r (Has.l (has_blk g1 _ _)))) (64 + k) (by omega)
      rw [HL.out k hk'] at hx
      rw [HH.out k hk'] at hy
      have s1 := half_step a k
      have s2 := half_step c k
      have l1 := half_lt a k ha hk'
      have l2 := half_lt c k hc hk'
      rw [show ((k + 1 : Nat) : Int) - 1 = (k : Int) by omega]
      generalize hp : a / 2 ^ (k + 1) = p at *
      generalize hq : c / 2 ^ (k + 1) = q at *
      have HP := Lib.hid hp
      have HQ := Lib.hid hq
      clear hp hq
      have m1 : IntKind.u64.wrap ((p : Int) * 2) = (p : Int) * 2 := by rw [IntKind.wrap_u64]; omega
      have m2 : IntKind.u64.wrap ((q : Int) * 2) = (q : Int) * 2 := by rw [IntKind.wrap_u64]; omega
      have m3 : IntKind.u64.wrap ((p : Int) * 2 + 1) = (p : Int) * 2 + 1 := by rw [IntKind.wrap_u64]; omega
      have m4 : IntKind.u64.wrap ((q : Int) * 2 + 1) = (q : Int) * 2 + 1 := by rw [IntKind.wrap_u64]; omega
      have HS1 := Lib.hid s1
      have HS2 := Lib.hid s2
      clear s1 s2
      have ht1 : a.testBit k = a.testBit k := rfl
      generalize a.testBit k = ba at *
      generalize c.testBit k = bc at *
      clear ht1
      cases ba <;> cases bc
      all_goals (
        go_wp2_with fail
        go_round
        case rel => exact ⟨k, by omega, rfl, by rw [HS1.out]; simp; omega, by rw [HS2.out]; simp; omega, trivial⟩
        case measure => (simp [intOf] <;> omega))
/-- The sign's bit parts the two kinds. -/
theorem val_nat (x : BitVec 128) : val x = (x.toNat : Int) - if x.toNat.testBit 127 then 340282366920938463463374607431768211456 else 0 := by
  have n := num_of x; have h := hi_bd x; have l := lo_bd x; have lt := x.isLt
  have e : x.toNat.testBit 127 = decide (170141183460469231731687303715884105728 ≤ x.toNat) := by
    rw [Nat.testBit_eq_decide_div_mod_eq]
    by_cases hx : 170141183460469231731687303715884105728 ≤ x.toNat
    · have : x.toNat / 2 ^ 127 = 1 := by omega
      simp [this, hx]
    · have : x.toNat / 2 ^ 127 = 0 := by omega
      simp [this, hx]
  rw [e]
  unfold val
  generalize hi x = H, lo x = L, x.toNat = N at *
  by_cases hx : 170141183460469231731687303715884105728 ≤ N
  · simp [hx]; omega
  · simp [hx]; omega
/-- The order, by signs, else by the highest bit that differs. -/
theorem cmp_sign {x y : BitVec 128} (h : x.getLsbD 127 ≠ y.getLsbD 127) : cmpZ (val x) (val y) = if x.getLsbD 127 then -1 else 1 := by
  have h1 : x.toNat.testBit 127 = x.getLsbD 127 := rfl
  have h2 : y.toNat.testBit 127 = y.getLsbD 127 := rfl
  have l1 := x.isLt; have l2 := y.isLt
  rw [val_nat, val_nat, h1, h2]
  unfold cmpZ
  cases a : x.getLsbD 127 <;> cases b : y.getLsbD 127
  · rw [a, b] at h; exact absurd rfl h
  · simp; omega
  · simp; omega
  · rw [a, b] at h; exact absurd rfl h
theorem cmp_bit {x y : BitVec 128} (k : Nat) (hs : x.getLsbD 127 = y.getLsbD 127) (he : x.toNat / 2 ^ (k + 1) = y.toNat / 2 ^ (k + 1)) (h : x.getLsbD k ≠ y.getLsbD k) : cmpZ (val x) (val y) = if y.getLsbD k then -1 else 1 := by
  have h1 : x.toNat.testBit 127 = x.getLsbD 127 := rfl
  have h2 : y.toNat.testBit 127 = y.getLsbD 127 := rfl
  have s1 := half_step x.toNat k
  have s2 := half_step y.toNat k
  have h3 : x.toNat.testBit k = x.getLsbD k := rfl
  have h4 : y.toNat.testBit k = y.getLsbD k := rfl
  rw [h3] at s1; rw [h4, ← he] at s2
  rw [val_nat, val_nat, h1, h2, hs]
  generalize (if y.getLsbD 127 = true then (340282366920938463463374607431768211456 : Int) else 0) = s
  have d1 := Nat.div_add_mod x.toNat (2 ^ k); have d2 := Nat.div_add_mod y.toNat (2 ^ k)
  have m1 := Nat.mod_lt x.toNat (Nat.two_pow_pos k); have m2 := Nat.mod_lt y.toNat (Nat.two_pow_pos k)
  unfold cmpZ
  cases a : x.getLsbD k <;> cases b : y.getLsbD k
  · rw [a, b] at h; exact absurd rfl h
  · rw [a] at s1; rw [b] at s2
    simp at s1 s2
    have : x.toNat < y.toNat := by
      rw [s1] at d1; rw [s2] at d2
      rw [Nat.mul_add] at d2
      omega
    simp; omega
  · rw [a] at s1; rw [b] at s2
    simp at s1 s2
    have : y.toNat < x.toNat := by
      rw [s1] at d1; rw [s2] at d2
      rw [Nat.mul_add] at d1
      omega
    simp; omega
  · rw [a, b] at h; exact absurd rfl h
theorem cmp_same {x y : BitVec 128} (he : x.toNat / 2 ^ 0 = y.toNat / 2 ^ 0) : cmpZ (val x) (val y) = 0 := by
  have : x = y := by apply BitVec.eq_of_toNat_eq; simpa using he
  subst this
  unfold cmpZ; simp
theorem eq_step {x y : BitVec 128} (k : Nat) (he : x.toNat / 2 ^ (k + 1) = y.toNat / 2 ^ (k + 1)) (h : x.getLsbD k = y.getLsbD k) : x.toNat / 2 ^ k = y.toNat / 2 ^ k := by
  have s1 := half_step x.toNat k
  have s2 := half_step y.toNat k
  have h3 : x.toNat.testBit k = x.getLsbD k := rfl
  have h4 : y.toNat.testBit k = y.getLsbD k := rfl
  rw [s1, s2, h3, h4, he, h]
theorem eq_top {x y : BitVec 128} (h : x.getLsbD 127 = y.getLsbD 127) : x.toNat / 2 ^ 127 = y.toNat / 2 ^ 127 :=
  eq_step 127 (by rw [Nat.div_eq_of_lt x.isLt, Nat.div_eq_of_lt y.isLt]) h
end Go.Proofs.Ytoofoalpffoheaa.Wd
