/- The document's Compare of rows of truths, walked. -/
import Derived.Test.YtggpcebcmoopnaaWdI
namespace Go.Proofs.Ytggpcebcmoopnaa.Wd
open Go.ChangeShapes Go.WideShapes Go.ChangeAt Go.RowKit Go.PlainAid Aid
set_option linter.unusedVariables false
set_option linter.unusedSimpArgs false
set_option maxRecDepth 100000 in
set_option maxHeartbeats 1000000 in
theorem refCompare_any (x y : BitVec 128) (w : World) :
    Calls Try.prog 13 #[.agg (Bs x.getLsbD), .agg (Bs y.getLsbD)] w fun e w' => e = .returned (.int .i64 (cmpZ (val x) (val y))) ∧ Below w.heap.size w w' := by
  have S0 := Lib.hid (((Own.none w).alloc (Bs x.getLsbD) 26).alloc (Bs y.getLsbD) 26)
  obtain ⟨BX, hBX⟩ : ∃ B, B = Bs x.getLsbD := ⟨_, rfl⟩
  obtain ⟨BY, hBY⟩ : ∃ B, B = Bs y.getLsbD := ⟨_, rfl⟩
  rw [← hBX, ← hBY] at S0 ⊢
  have HX := Lib.hid hBX
  have HY := Lib.hid hBY
  clear hBX hBY
  have C1 := Lib.hid (@cmp_sign x y)
  have C2 := Lib.hid (@cmp_bit x y)
  have C3 := Lib.hid (@cmp_same x y)
  have C4 := Lib.hid (@eq_step x y)
  have C5 := Lib.hid (@eq_top x y)
  generalize cmpZ (val x) (val y) = r at *
  go_enter Try.func13, Try.ntmps13
  simp only [World.size_alloc] at S0
  go_upto_region 1 with fail
  obtain ⟨g2, hgz⟩ : ∃ g, g = w.heap.size := ⟨_, rfl⟩
  rw [← hgz] at S0 ⊢
  clear hgz
  generalize World.alloc (World.alloc w _) _ = w1 at *
  generalize g2 + 1 = g3 at *
  rw [HX.out, HY.out] at S0
  clear HX HY
  have hx := bit_of (S0.out.has (Has.r (Has.l (has_blk g2 _ _)))) 127 (by omega)
  have hy := bit_of (S0.out.has (Has.l (has_blk g3 _ _))) 127 (by omega)
  cases a : x.getLsbD 127 <;> cases b : y.getLsbD 127 <;> rw [a] at hx <;> rw [b] at hy
  case' false.true => (have hr := C1.out (by rw [a, b]; simp); rw [a] at hr; simp only [Bool.false_eq_true, if_false, if_true] at hr; subst hr; go_wp2_with fail; go_returns; exact ⟨rfl, S0.out.bel⟩)
  case' true.false => (have hr := C1.out (by rw [a, b]; simp); rw [a] at hr; simp only [Bool.false_eq_true, if_false, if_true] at hr; subst hr; go_wp2_with fail; go_returns; exact ⟨rfl, S0.out.bel⟩)
  all_goals (
    have hs : x.getLsbD 127 = y.getLsbD 127 := by rw [a, b]
    have HS := Lib.hid hs
    have E0 := Lib.hid (C5.out hs)
    clear hs a b
    go_wp2_with fail
    go_loopw [5] (fun i wr => ∃ k : Nat, k ≤ 127 ∧ i = .int .i64 ((k : Int) - 1) ∧ Hid (x.toNat / 2 ^ k = y.toNat / 2 ^ k) ∧ Hid (Own w No wr (Asn.blk g3 26 (Bs y.getLsbD) * (Asn.blk g2 26 (Bs x.getLsbD) * Asn.emp)))) (fun i _ => (intOf i + 1).toNat)
    case atStart => exact ⟨127, by omega, rfl, E0, S0⟩
    case round =>
      clear S0 hx hy E0
      obtain ⟨k, hk, rfl, hE, hS⟩ := hrel
      rcases k with _ | k
      · have hr := C3.out hE.out
        subst hr
        rw [show ((0 : Nat) : Int) - 1 = -1 from rfl]
        go_wp2_with fail
        go_returns
        exact ⟨rfl, hS.out.bel⟩
      · have hx := bit_of (hS.out.has (Has.r (Has.l (has_blk g2 _ _)))) k (by omega)
        have hy := bit_of (hS.out.has (Has.l (has_blk g3 _ _))) k (by omega)
        rw [show ((k + 1 : Nat) : Int) - 1 = (k : Int) by omega]
        have HK : Hid (k + 1 ≤ 127) := Lib.hid hk
        have hk2 : k < 128 := by omega
        cases a : x.getLsbD k <;> cases b : y.getLsbD k <;> rw [a] at hx <;> rw [b] at hy
        case' false.true => (have hr := C2.out k HS.out hE.out (by rw [a, b]; simp); rw [b] at hr; simp only [Bool.false_eq_true, if_false, if_true] at hr; subst hr; go_wp2_with fail; go_quiet (fail); have hS2 := Lib.hid (hS.out.drewN nq); clear hS hx hy; generalize wr.drewN nq = w5 at *; have hx := bit_of (hS2.out.has (Has.r (Has.l (has_blk g2 _ _)))) k (by omega); have hy := bit_of (hS2.out.has (Has.l (has_blk g3 _ _))) k (by omega); rw [a] at hx; rw [b] at hy; go_wp2_with fail; go_returns; exact ⟨rfl, hS2.out.bel⟩)
        case' true.false => (have hr := C2.out k HS.out hE.out (by rw [a, b]; simp); rw [b] at hr; simp only [Bool.false_eq_true, if_false, if_true] at hr; subst hr; go_wp2_with fail; go_quiet (fail); have hS2 := Lib.hid (hS.out.drewN nq); clear hS hx hy; generalize wr.drewN nq = w5 at *; have hx := bit_of (hS2.out.has (Has.r (Has.l (has_blk g2 _ _)))) k (by omega); have hy := bit_of (hS2.out.has (Has.l (has_blk g3 _ _))) k (by omega); rw [a] at hx; rw [b] at hy; go_wp2_with fail; go_returns; exact ⟨rfl, hS2.out.bel⟩)
        all_goals (have hE2 := Lib.hid (C4.out k hE.out (by rw [a, b])); clear hE; go_wp2_with fail; go_quiet (fail); have hS2 := Lib.hid (hS.out.drewN nq); clear hS hx hy; generalize wr.drewN nq = w5 at *; have hx := bit_of (hS2.out.has (Has.r (Has.l (has_blk g2 _ _)))) k (by omega); have hy := bit_of (hS2.out.has (Has.l (has_blk g3 _ _))) k (by omega); rw [a] at hx; rw [b] at hy; go_wp2_with fail; go_round; (case rel => exact ⟨k, by omega, rfl, hE2, hS2⟩); (case measure => simp only [intOf]; omega)))
/-! Products, bit by bit. -/
def mulA (a : BitVec 128) (k : Nat) : BitVec 128 := a * BitVec.ofNat 128 (2 ^ k)
def mulO (a : BitVec 128) (M k : Nat) : BitVec 128 := a * BitVec.ofNat 128 (M % 2 ^ k)
theorem mulA_zero (a : BitVec 128) : mulA a 0 = a := by
  unfold mulA
  rw [Nat.pow_zero, show BitVec.ofNat 128 1 = 1#128 from rfl, BitVec.mul_one]
theorem mulA_succ (a : BitVec 128) (k : Nat) : mulA a k + mulA a k = mulA a (k + 1) := by
  unfold mulA
  rw [← BitVec.mul_add, ← BitVec.ofNat_add, Nat.pow_succ, Nat.mul_two]
theorem mulO_zero (a : BitVec 128) (M : Nat) : mulO a M 0 = 0#128 := by
  unfold mulO
  rw [Nat.pow_zero, Nat.mod_one, show BitVec.ofNat 128 0 = 0#128 from rfl, BitVec.mul_zero]
theorem mulO_succ (a : BitVec 128) (M k : Nat) : mulO a M (k + 1) = if M.testBit k then mulO a M k + mulA a k else mulO a M k := by
  unfold mulO mulA
  have h : M % 2 ^ (k + 1) = M % 2 ^ k + 2 ^ k * (M.testBit k).toNat := by rw [Nat.toNat_testBit, Nat.mod_pow_succ]
  rw [h]
  cases M.testBit k
  · simp
  · simp only [Bool.toNat_true, Nat.mul_one, if_true]
    rw [BitVec.ofNat_add, BitVec.mul_add]
theorem mulO_end (a : BitVec 128) (M : Nat) (h : M < 18446744073709551616) : mulO a M 64 = a * BitVec.ofNat 128 M := by
  unfold mulO
  rw [Nat.mod_eq_of_lt (by omega)]
theorem times_abs (x : BitVec 128) (n : Int) : x * BitVec.ofInt 128 n = (if n < 0 then -x else x) * BitVec.ofNat 128 n.natAbs := by
  by_cases h : n < 0
  · obtain ⟨m, rfl⟩ : ∃ m : Nat, n = -(m : Int) := ⟨n.natAbs, by omega⟩
    rw [if_pos h, Int.natAbs_neg, Int.natAbs_natCast, BitVec.ofInt_neg, BitVec.ofInt_natCast, BitVec.mul_neg, BitVec.neg_mul]
  · obtain ⟨m, rfl⟩ : ∃ m : Nat, n = (m : Int) := ⟨n.toNat, by omega⟩
    rw [if_neg h, Int.natAbs_natCast, BitVec.ofInt_natCast]
theorem neg_add (x : BitVec 128) : ~~~x + 0#128 + BitVec.setWidth 128 (BitVec.ofBool true) = -x := by
  rw [BitVec.add_zero, BitVec.neg_eq_not_add]; rfl
end Go.Proofs.Ytggpcebcmoopnaa.Wd
