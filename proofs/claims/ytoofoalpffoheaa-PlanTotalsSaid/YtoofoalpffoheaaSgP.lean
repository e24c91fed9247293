import Derived.WalkKit
import Derived.PlainAid
import Derived.BigQuiet
namespace Go.Proofs.Ytoofoalpffoheaa.Sg
open Go.RowKit Go.PlainAid

theorem xor63_low (a : Nat) (h : a < 2 ^ 63) : a ^^^ 2 ^ 63 = a + 2 ^ 63 := by
  rw [Nat.add_comm]
  apply Nat.eq_of_testBit_eq
  intro i
  rw [Nat.testBit_xor, Nat.testBit_two_pow]
  by_cases h1 : i < 63
  · rw [Nat.testBit_two_pow_add_gt h1, decide_eq_false (by omega), Bool.xor_false]
  · by_cases h2 : i = 63
    · subst h2; rw [Nat.testBit_two_pow_add_eq]; simp
    · have ha : a.testBit i = false := Nat.testBit_lt_two_pow (Nat.lt_of_lt_of_le h (Nat.pow_le_pow_right (by decide) (by omega)))
      have hb : (2 ^ 63 + a).testBit i = false := Nat.testBit_lt_two_pow (Nat.lt_of_lt_of_le (by omega : 2 ^ 63 + a < 2 ^ 64) (Nat.pow_le_pow_right (by decide) (by omega)))
      rw [ha, hb, decide_eq_false (by omega)]; rfl
theorem xor63 (a : Nat) (h : a < 2 ^ 64) : a ^^^ 2 ^ 63 = (a + 2 ^ 63) % 2 ^ 64 := by
  by_cases h1 : a < 2 ^ 63
  · rw [xor63_low a h1]; omega
  · obtain ⟨b, rfl⟩ : ∃ b, a = b + 2 ^ 63 := ⟨a - 2 ^ 63, by omega⟩
    rw [← xor63_low b (by omega), Nat.xor_assoc, Nat.xor_self, Nat.xor_zero, xor63_low b (by omega)]; omega

theorem bits_xor63u (u : Int) (h1 : 0 ≤ u) (h2 : u < 18446744073709551616) : bits BinOp.xor IntKind.u64 u 9223372036854775808 = (u + 9223372036854775808) % 18446744073709551616 := by
  obtain ⟨a, rfl⟩ := Int.eq_ofNat_of_zero_le h1
  have e : ((BitVec.ofInt 64 (a : Int)) ^^^ (BitVec.ofInt 64 9223372036854775808)).toNat = (a + 2 ^ 63) % 2 ^ 64 := by
    rw [BitVec.toNat_xor, BitVec.toNat_ofInt, BitVec.toNat_ofInt]
    have h3 : ((a : Int) % ((2 ^ 64 : Nat) : Int)).toNat = a := by omega
    rw [h3]
    exact xor63 a (by omega)
  show IntKind.u64.wrap (((BitVec.ofInt 64 (a : Int)) ^^^ (BitVec.ofInt 64 9223372036854775808)).toNat : Int) = _
  rw [e, IntKind.wrap_u64]
  omega
theorem bits_xor63 (n : Int) (h1 : -9223372036854775808 ≤ n) (h2 : n ≤ 9223372036854775807) : bits BinOp.xor IntKind.u64 (IntKind.u64.wrap n) 9223372036854775808 = n + 9223372036854775808 := by
  rw [IntKind.wrap_u64, bits_xor63u _ (by omega) (by omega)]
  omega

theorem pow_bd (k : Nat) (h : k ≤ 7) : (256 : Int) ^ k ≤ 72057594037927936 := by
  match k, h with
  | 0, _ | 1, _ | 2, _ | 3, _ | 4, _ | 5, _ | 6, _ | 7, _ => decide
  | k + 8, h => omega
theorem or256 (x b : Nat) (hb : b < 256) : x * 256 ||| b = x * 256 + b := by
  have h := Nat.shiftLeft_add_eq_or_of_lt (i := 8) (b := b) (by omega) x
  rw [Nat.shiftLeft_eq] at h
  exact h.symm
theorem bits_or256 (x b : Int) (h1 : 0 ≤ x) (h2 : x < 72057594037927936) (h3 : 0 ≤ b) (h4 : b ≤ 255) : bits BinOp.or IntKind.u64 (IntKind.u64.wrap (x * 256)) (IntKind.u64.wrap b) = x * 256 + b := by
  obtain ⟨a, rfl⟩ := Int.eq_ofNat_of_zero_le h1
  obtain ⟨c, rfl⟩ := Int.eq_ofNat_of_zero_le h3
  have e : ((BitVec.ofInt 64 ((a : Int) * 256)) ||| (BitVec.ofInt 64 (c : Int))).toNat = a * 256 + c := by
    rw [BitVec.toNat_or, BitVec.toNat_ofInt, BitVec.toNat_ofInt]
    have h5 : ((a : Int) * 256 % ((2 ^ 64 : Nat) : Int)).toNat = a * 256 := by omega
    have h6 : ((c : Int) % ((2 ^ 64 : Nat) : Int)).toNat = c := by omega
    rw [h5, h6]
    exact or256 a c (by omega)
  rw [IntKind.wrap_u64, IntKind.wrap_u64, show (a : Int) * 256 % 18446744073709551616 = (a : Int) * 256 from by omega, show (c : Int) % 18446744073709551616 = (c : Int) from by omega]
  show IntKind.u64.wrap (((BitVec.ofInt 64 ((a : Int) * 256)) ||| (BitVec.ofInt 64 (c : Int))).toNat : Int) = _
  rw [e, IntKind.wrap_u64]
  omega

/-- The number of the first k bytes of s. -/
def numS (s : ByteArray) : Nat → Int
  | 0 => 0
  | k + 1 => numS s k * 256 + bt s k
theorem numS_bd (s : ByteArray) (k : Nat) : 0 ≤ numS s k ∧ numS s k < 256 ^ k := by
  induction k with
  | zero => simp [numS]
  | succ k ih =>
    have h1 := bt_nonneg s k; have h2 := bt_le s k
    unfold numS
    have : (256 : Int) ^ (k + 1) = 256 ^ k * 256 := Int.pow_succ _ _
    omega


/-! Below, step by step, with no side conditions. -/
theorem bl {a W w1 : World} (h1 : Below a.heap.size a W) (h2 : Below W.heap.size W w1) : Below a.heap.size a w1 := h1.trans (h2.mono h1.size)
theorem blA {a W : World} (h : Below a.heap.size a W) (o : Obj) : Below a.heap.size a (W.alloc o) := h.alloc h.size o
theorem blN {B : Nat} {a W : World} (h : Below B a W) (n : Nat) : Below B a (W.drewN n) := ⟨h.os, h.tape, h.output, h.size, h.block⟩
theorem blC {a W : World} (h : Below a.heap.size a W) {p : Addr} (hp : a.heap.size ≤ p.block) (u : Value) : Below a.heap.size a (W.setCell p u) := h.setCell hp u
end Go.Proofs.Ytoofoalpffoheaa.Sg
