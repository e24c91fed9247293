/- Whole numbers of 128 bits: WideLaws, of every three numbers. -/
import Derived.Test.YtggpcebcmoopnaaWdE
namespace Go.Proofs.Ytggpcebcmoopnaa.Wd
open Go.ChangeShapes Go.WideShapes Go.ChangeAt Go.RowKit Go.PlainAid Aid
set_option linter.unusedVariables false
/-- What is of 127 bits is what it was made of. -/
theorem val_of (k : Int) (h : -170141183460469231731687303715884105728 ≤ k ∧ k < 170141183460469231731687303715884105728) : val (BitVec.ofInt 128 k) = k := by
  have n := num_of (BitVec.ofInt 128 k)
  have b1 := hi_bd (BitVec.ofInt 128 k); have b2 := lo_bd (BitVec.ofInt 128 k)
  unfold val
  generalize hi (BitVec.ofInt 128 k) = H, lo (BitVec.ofInt 128 k) = L at *
  rw [BitVec.toNat_ofInt] at n
  have e : (((2 ^ 128 : Nat) : Int)) = 340282366920938463463374607431768211456 := rfl
  rw [e] at n
  omega
theorem laws_any (a b c : BitVec 128) (m n : Int) (hm : -9223372036854775808 ≤ m ∧ m ≤ 9223372036854775807) (hn : -9223372036854775808 ≤ n ∧ n ≤ 9223372036854775807) (w : World) :
    Calls Try.prog 4 #[Wv a, Wv b, Wv c, .int .i64 m, .int .i64 n] w fun e w' => e = .returned (.bool true) ∧ Below w.heap.size w w' := by
  have z0 : BitVec.ofInt 128 0 = 0#128 := rfl
  have z1 : BitVec.ofInt 128 1 = 1#128 := rfl
  have zm : BitVec.ofInt 128 (-1) = -1#128 := by decide +kernel
  have d0 : val (BitVec.ofInt 128 0) = 0 := val_of 0 (by decide)
  have sub : BitVec.ofInt 128 m - BitVec.ofInt 128 n = BitVec.ofInt 128 (m - n) := by
    apply BitVec.eq_of_toNat_eq
    rw [BitVec.toNat_sub, BitVec.toNat_ofInt, BitVec.toNat_ofInt, BitVec.toNat_ofInt]
    have e : (((2 ^ 128 : Nat) : Int)) = 340282366920938463463374607431768211456 := rfl
    rw [e]
    omega
  have dd : val (BitVec.ofInt 128 m - BitVec.ofInt 128 n) = m - n := by rw [sub]; exact val_of _ (by omega)
  have mul : BitVec.ofInt 128 n * BitVec.ofInt 128 m = BitVec.ofInt 128 m * BitVec.ofInt 128 n := BitVec.mul_comm _ _
  have cm : cmpZ (m - n) 0 = cmpZ m n := by
    unfold cmpZ
    by_cases h1 : m < n
    · rw [if_pos h1, if_pos (by omega)]
    · rw [if_neg h1, if_neg (by omega)]
      by_cases h2 : n < m
      · rw [if_pos h2, if_pos (by omega)]
      · rw [if_neg h2, if_neg (by omega)]
  refine laws_walk (hi a) (lo a) (hi b) (lo b) (hi c) (lo c) (hi (a + b)) (lo (a + b)) (hi (a + b + c)) (lo (a + b + c)) (hi (b + c)) (lo (b + c)) (hi (BitVec.ofInt 128 0)) (lo (BitVec.ofInt 128 0))
    (hi ((a + b) * BitVec.ofInt 128 n)) (lo ((a + b) * BitVec.ofInt 128 n)) (hi (a * BitVec.ofInt 128 n)) (lo (a * BitVec.ofInt 128 n)) (hi (b * BitVec.ofInt 128 n)) (lo (b * BitVec.ofInt 128 n)) (hi (-a)) (lo (-a))
    (hi (BitVec.ofInt 128 m)) (lo (BitVec.ofInt 128 m)) (hi (BitVec.ofInt 128 n)) (lo (BitVec.ofInt 128 n)) (hi (BitVec.ofInt 128 m - BitVec.ofInt 128 n)) (lo (BitVec.ofInt 128 m - BitVec.ofInt 128 n))
    (hi (BitVec.ofInt 128 m * BitVec.ofInt 128 n)) (lo (BitVec.ofInt 128 m * BitVec.ofInt 128 n)) m n (cmpZ m n) (strOfNums (codeL (hi a) (lo a))) w
    (fun w => Add_any a b w) ?_ (fun w => Add_any (a + b) c w) (fun w => Add_any b c w) ?_ ?_ (fun w => Of_any 0 (by decide) w) ?_
    (fun w => Times_any (a + b) n hn w) (fun w => Times_any a n hn w) (fun w => Times_any b n hn w) ?_ ?_ ?_ ?_
    (fun w => Of_any m hm w) (fun w => Of_any n hn w) (fun w => Sub_any _ _ w) ?_ ?_ (fun w => Times_any _ n hn w) ?_
    (fun w => Code_parts _ _ w) ?_ ?_
  · intro w; have h := Add_any b a w; rw [BitVec.add_comm] at h; exact h
  · intro w; have h := Add_any a (b + c) w; rw [← BitVec.add_assoc] at h; exact h
  · intro w; have h := Sub_any (a + b) b w; rw [BitVec.add_sub_cancel] at h; exact h
  · intro w; have h := Add_any a (BitVec.ofInt 128 0) w; rw [show a + BitVec.ofInt 128 0 = a by rw [z0, BitVec.add_zero]] at h; exact h
  · intro w; have h := Add_any (a * BitVec.ofInt 128 n) (b * BitVec.ofInt 128 n) w; rw [← BitVec.add_mul] at h; exact h
  · intro w; have h := Times_any a 1 (by decide) w; rw [show a * BitVec.ofInt 128 1 = a by rw [z1, BitVec.mul_one]] at h; exact h
  · intro w; have h := Times_any a (-1) (by decide) w; rw [show a * BitVec.ofInt 128 (-1) = -a by rw [zm, BitVec.mul_neg, BitVec.mul_one]] at h; exact h
  · intro w; have h := Sub_any (BitVec.ofInt 128 0) a w; rw [show BitVec.ofInt 128 0 - a = -a by rw [z0, BitVec.zero_sub]] at h; exact h
  · intro w; have h := Compare_any (BitVec.ofInt 128 m - BitVec.ofInt 128 n) (BitVec.ofInt 128 0) w; rw [dd, d0, cm] at h; exact h
  · intro w; have h := Compare_any (BitVec.ofInt 128 m) (BitVec.ofInt 128 n) w; rw [val_of m (by omega), val_of n (by omega)] at h; exact h
  · intro w; have h := Times_any (BitVec.ofInt 128 n) m hm w; rw [mul] at h; exact h
  · intro w; have h := Read_yes (strOfNums (codeL (hi a) (lo a))) w (code_size _ _); rw [read_code] at h; exact h
  · unfold cmpZ
    by_cases h1 : m < n
    · exact Or.inl ⟨h1, if_pos h1⟩
    · by_cases h2 : n < m
      · exact Or.inr (Or.inr ⟨h2, by rw [if_neg h1, if_pos h2]⟩)
      · exact Or.inr (Or.inl ⟨by omega, by rw [if_neg h1, if_neg h2]⟩)
end Go.Proofs.Ytggpcebcmoopnaa.Wd
