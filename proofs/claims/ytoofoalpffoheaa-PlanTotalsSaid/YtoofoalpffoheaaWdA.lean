/- Whole numbers of 128 bits: plain; and what the code's calls Of, Add, Sub answer. -/
import Derived.Test.YtoofoalpffoheaaAid
import Derived.Test.YtoofoalpffoheaaRows
import Derived.Test.YtoofoalpffoheaaShelf
import Derived.Shelf.Spec.BitsCarry
namespace Go.Proofs.Ytoofoalpffoheaa.Wd
open Go.ChangeShapes Go.WideShapes Go.ChangeAt Go.RowKit Go.PlainAid Aid Go.Shelf
set_option linter.unusedVariables false
set_option linter.unusedSimpArgs false
/-- A number's higher half, with a sign, and its lower one. -/
def hi (x : BitVec 128) : Int := wrap64 ((x.toNat : Int) / 18446744073709551616)
def lo (x : BitVec 128) : Int := (x.toNat : Int) % 18446744073709551616
def Wv (x : BitVec 128) : Value := .agg #[.int .i64 (hi x), .int .u64 (lo x)]
theorem hi_bd (x : BitVec 128) : -9223372036854775808 ≤ hi x ∧ hi x ≤ 9223372036854775807 := by
  have := x.isLt
  unfold hi wrap64; omega
theorem lo_bd (x : BitVec 128) : 0 ≤ lo x ∧ lo x < 18446744073709551616 := by unfold lo; omega
/-- What a number is. -/
theorem num_of (x : BitVec 128) : (x.toNat : Int) = (hi x % 18446744073709551616) * 18446744073709551616 + lo x := by
  have := x.isLt
  unfold hi lo wrap64; omega
theorem of_parts (x : BitVec 128) (h l : Int) (hh : -9223372036854775808 ≤ h ∧ h ≤ 9223372036854775807) (hl : 0 ≤ l ∧ l < 18446744073709551616) (e : (x.toNat : Int) = (h % 18446744073709551616) * 18446744073709551616 + l) : hi x = h ∧ lo x = l := by
  have := x.isLt
  unfold hi lo wrap64; constructor <;> omega
theorem parts (h l : Int) (hh : -9223372036854775808 ≤ h ∧ h ≤ 9223372036854775807) (hl : 0 ≤ l ∧ l < 18446744073709551616) : ∃ x : BitVec 128, hi x = h ∧ lo x = l := by
  refine ⟨BitVec.ofNat 128 ((h % 18446744073709551616) * 18446744073709551616 + l).toNat, of_parts _ _ _ hh hl ?_⟩
  rw [BitVec.toNat_ofNat]
  omega
theorem same {x y : BitVec 128} (h : hi x = hi y) (l : lo x = lo y) : x = y := by
  apply BitVec.eq_of_toNat_eq
  have a := num_of x; have b := num_of y
  rw [h, l] at a
  omega
theorem of_int (n : Int) (h : -9223372036854775808 ≤ n ∧ n ≤ 9223372036854775807) : hi (BitVec.ofInt 128 n) = (if n < 0 then -1 else 0) ∧ lo (BitVec.ofInt 128 n) = n % 18446744073709551616 := by
  refine of_parts _ _ _ (by split <;> omega) (by omega) ?_
  rw [BitVec.toNat_ofInt]
  split <;> omega
theorem w64 (n : Int) : (-9223372036854775808 ≤ wrap64 n ∧ wrap64 n ≤ 9223372036854775807) ∧ wrap64 n % 18446744073709551616 = n % 18446744073709551616 := by
  unfold wrap64; omega
theorem w64_mod (n : Int) : wrap64 (n % 18446744073709551616) = wrap64 n := by unfold wrap64; omega
theorem of_wrap (x : BitVec 128) (h l : Int) (e : (x.toNat : Int) = (h % 18446744073709551616) * 18446744073709551616 + l % 18446744073709551616) : hi x = wrap64 h ∧ lo x = l % 18446744073709551616 := by
  obtain ⟨b, m⟩ := w64 h
  refine of_parts _ _ _ b (by omega) ?_
  rw [m]; exact e
theorem sum_mod (a b c d : Int) (h1 : 0 ≤ c ∧ c < 18446744073709551616) (h2 : 0 ≤ d ∧ d < 18446744073709551616) :
    ((a % 18446744073709551616 * 18446744073709551616 + c) + (b % 18446744073709551616 * 18446744073709551616 + d)) % 340282366920938463463374607431768211456 = (a % 18446744073709551616 + b % 18446744073709551616 + (c + d) / 18446744073709551616) % 18446744073709551616 * 18446744073709551616 + (c + d) % 18446744073709551616 := by omega
theorem add_parts (x y : BitVec 128) : hi (x + y) = wrap64 (hi x % 18446744073709551616 + hi y % 18446744073709551616 + (lo x + lo y) / 18446744073709551616) ∧ lo (x + y) = (lo x + lo y) % 18446744073709551616 := by
  have l1 := lo_bd x; have l2 := lo_bd y
  refine of_wrap _ _ _ ?_
  rw [← sum_mod (hi x) (hi y) (lo x) (lo y) l1 l2, ← num_of x, ← num_of y, BitVec.toNat_add]
  rfl
def bor (x y : Int) : Int := if x < y then 1 else 0
theorem bor_bd (x y : Int) : 0 ≤ bor x y ∧ bor x y ≤ 1 := by unfold bor; split <;> omega
theorem dif_mod (a b c d : Int) (h1 : 0 ≤ c ∧ c < 18446744073709551616) (h2 : 0 ≤ d ∧ d < 18446744073709551616) :
    ((a % 18446744073709551616 * 18446744073709551616 + c) - (b % 18446744073709551616 * 18446744073709551616 + d)) % 340282366920938463463374607431768211456 = (a % 18446744073709551616 - b % 18446744073709551616 - bor c d) % 18446744073709551616 * 18446744073709551616 + (c - d) % 18446744073709551616 := by unfold bor; split <;> omega
theorem sub_nat (a b : Int) (K : Nat) (hb : b ≤ K) (ha : 0 ≤ b) (x y : Nat) (hx : (x : Int) = a) (hy : (y : Int) = b) : (((K - y + x) % K : Nat) : Int) = (a - b) % K := by
  subst hx hy
  have : ((K - y + x : Nat) : Int) = (x : Int) - y + K := by omega
  rw [Int.natCast_emod, this, Int.add_emod_right]
theorem sub_parts (x y : BitVec 128) : hi (x - y) = wrap64 (hi x % 18446744073709551616 - hi y % 18446744073709551616 - bor (lo x) (lo y)) ∧ lo (x - y) = (lo x - lo y) % 18446744073709551616 := by
  have l1 := lo_bd x; have l2 := lo_bd y
  refine of_wrap _ _ _ ?_
  rw [← dif_mod (hi x) (hi y) (lo x) (lo y) l1 l2, ← num_of x, ← num_of y, BitVec.toNat_sub]
  exact sub_nat (x.toNat : Int) (y.toNat : Int) (2 ^ 128) (by have := y.isLt; omega) (by omega) _ _ rfl rfl

theorem add64 (x y c : Int) (hx : 0 ≤ x) (hy : 0 ≤ y) (hc0 : 0 ≤ c) (hc : c ≤ 1) (w : World) : (callFunc 35 #[.int .u64 x, .int .u64 y, .int .u64 c]).run Try.prog w =
    .ok (.value (.tuple #[.int .u64 ((x + y + c) % 18446744073709551616), .int .u64 ((x + y + c) / 18446744073709551616)])) w := by
  obtain ⟨x, rfl⟩ := Int.eq_ofNat_of_zero_le hx
  obtain ⟨y, rfl⟩ := Int.eq_ofNat_of_zero_le hy
  obtain ⟨c, rfl⟩ := Int.eq_ofNat_of_zero_le hc0
  have hc' : c = 0 ∨ c = 1 := by omega
  rw [run_callFunc_extern Try.func35 (by kernel_rfl) (by kernel_rfl) (by kernel_rfl) (e := add64Entry) (by kernel_rfl), run_add64 x y c (by omega) (by omega) (by omega) (by omega)]
  rfl
theorem add64_0 (x y : Int) (hx : 0 ≤ x) (hy : 0 ≤ y) (w : World) : (callFunc 35 #[.int .u64 x, .int .u64 y, .int .u64 0]).run Try.prog w =
    .ok (.value (.tuple #[.int .u64 ((x + y) % 18446744073709551616), .int .u64 ((x + y) / 18446744073709551616)])) w := by
  simpa using add64 x y 0 hx hy (Int.le_refl 0) (by decide) w
theorem Of_any (n : Int) (hn : -9223372036854775808 ≤ n ∧ n ≤ 9223372036854775807) (w : World) :
    Calls Try.prog 27 #[.int .i64 n] w fun e w' => e = .returned (Wv (BitVec.ofInt 128 n)) ∧ Below w.heap.size w w' := by
  obtain ⟨e1, e2⟩ := of_int n hn
  have h1 : n / 9223372036854775808 = if n < 0 then -1 else 0 := by split <;> omega
  unfold Wv
  rw [e1, e2, ← h1]
  clear e1 e2 h1
  go_enter Try.func27, Try.ntmps27
  go_wp2_with fail
  go_returns
  exact ⟨by rw [IntKind.wrap_u64], blA (Below.refl _ _) _⟩
theorem u64_pos (n : Int) : 0 ≤ IntKind.u64.wrap n := by rw [IntKind.wrap_u64]; omega
theorem u64_lt (n : Int) : IntKind.u64.wrap n < 18446744073709551616 := by rw [IntKind.wrap_u64]; omega
theorem Add_any (x y : BitVec 128) (w : World) :
    Calls Try.prog 25 #[Wv x, Wv y] w fun e w' => e = .returned (Wv (x + y)) ∧ Below w.heap.size w w' := by
  obtain ⟨e1, e2⟩ := add_parts x y
  obtain ⟨a1, a2⟩ := lo_bd x
  obtain ⟨b1, b2⟩ := lo_bd y
  unfold Wv
  rw [e1, e2]
  clear e1 e2
  generalize hi x = H1, lo x = L1, hi y = H2, lo y = L2 at *
  have k0 : 0 ≤ (L1 + L2) / 18446744073709551616 := by omega
  have k1 : (L1 + L2) / 18446744073709551616 ≤ 1 := by omega
  go_enter Try.func25, Try.ntmps25
  go_wp2_with (first | simp only [add64_0 L1 L2 a1 b1] | simp only [add64 (IntKind.u64.wrap H1) (IntKind.u64.wrap H2) _ (u64_pos H1) (u64_pos H2) k0 k1])
  refine bodyPost_ret (v := .agg #[.int .i64 (wrap64 ((IntKind.u64.wrap H1 + IntKind.u64.wrap H2 + (L1 + L2) / 18446744073709551616) % 18446744073709551616)), .int .u64 ((L1 + L2) % 18446744073709551616)]) (by simp [results, Try.results25, go_sem]) rfl ⟨?_, blA (blA (blA (Below.refl _ _) _) _) _⟩
  rw [IntKind.wrap_u64, IntKind.wrap_u64, w64_mod]
end Go.Proofs.Ytoofoalpffoheaa.Wd
