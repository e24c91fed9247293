/- Whole numbers of 128 bits: what the code's calls Compare, Int, Times answer. -/
import Derived.Test.YtoofoalpffoheaaWdA
import Derived.Test.YtoofoalpffoheaaAc
import Derived.Deep.CutBlock
import Derived.Deep.DeepCutAuto
namespace Go.Proofs.Ytoofoalpffoheaa.Wd
open Go.ChangeShapes Go.WideShapes Go.ChangeAt Go.RowKit Go.PlainAid Aid
set_option linter.unusedVariables false
set_option linter.unusedSimpArgs false
def cmpZ (a b : Int) : Int := if a < b then -1 else if b < a then 1 else 0
def orZ (a b : Int) : Int := if a = 0 then b else a
def val (x : BitVec 128) : Int := hi x * 18446744073709551616 + lo x
theorem cmp_val (x y : BitVec 128) : orZ (cmpZ (hi x) (hi y)) (cmpZ (lo x) (lo y)) = cmpZ (val x) (val y) := by
  have l1 := lo_bd x; have l2 := lo_bd y
  unfold val
  generalize hi x = a, hi y = b, lo x = c, lo y = d at *
  unfold orZ cmpZ
  by_cases h1 : a < b
  · have : a * 18446744073709551616 + c < b * 18446744073709551616 + d := by omega
    simp [h1, this]
  · by_cases h2 : b < a
    · have e1 : ¬ a * 18446744073709551616 + c < b * 18446744073709551616 + d := by omega
      have e2 : b * 18446744073709551616 + d < a * 18446744073709551616 + c := by omega
      simp [h1, h2, e1, e2]
    · obtain rfl : a = b := by omega
      simp
def sg (n : Int) : Int := if n < 0 then -1 else 0
theorem Of_sg (n : Int) (hn : -9223372036854775808 ≤ n ∧ n ≤ 9223372036854775807) : Wv (BitVec.ofInt 128 n) = .agg #[.int .i64 (sg n), .int .u64 (n % 18446744073709551616)] := by
  obtain ⟨e1, e2⟩ := of_int n hn
  unfold Wv sg
  rw [e1, e2]
def intZ (x : BitVec 128) : Int × Bool := if sg (wrap64 (lo x)) = hi x then (wrap64 (lo x), true) else (0, false)
theorem two_of {w : World} {g : Nat} {T : TypeId} {a0 a1 : Value} (h : Blk w g T #[a0, a1]) :
    (w.cell? ⟨g, 0, none⟩ = some a0 ∧ w.cell? ⟨g, 1, none⟩ = some a1) ∧ w.frozen? ⟨g, 0, none⟩ = false ∧ w.frozen? ⟨g, 1, none⟩ = false :=
  ⟨⟨h.cell 0, h.cell 1⟩, h.free 0, h.free 1⟩
theorem own_2 {w0 w : World} {O0 : Nat → Prop} {A : Asn} {g : Nat} {T : TypeId} {a0 a1 : Value} (h : Own w0 O0 w (Asn.blk g T #[a0, a1] * A)) (b0 b1 : Value) :
    Own w0 O0 ((w.setCell ⟨g, 0, none⟩ b0).setCell ⟨g, 1, none⟩ b1) (Asn.blk g T #[b0, b1] * A) := by
  have := (h.set (Sets.l (sets_blk g T _ 0 b0))).set (Sets.l (sets_blk g T _ 1 b1))
  simpa only [List.setIfInBounds_toArray, List.set_cons_zero, List.set_cons_succ] using this
theorem resW {fn : Func} {x : Nat} {tm : Array Value} {w : World} {g : Nat} {a0 a1 : Value} (hf : fn.results = #[.cell x 24]) (hx : tm[x]?.getD undef = .pointer (some ⟨g, 0, none⟩))
    (hB : Blk w g 24 #[a0, a1]) : (results fn tm).run Try.prog w = .ok (.agg #[a0, a1]) w := by
  have c0 := hB.cell 0
  have c1 := hB.cell 1
  clear hB
  unfold results
  rw [hf]
  simp only [List.getElem?_toArray, List.getElem?_cons_zero, List.getElem?_cons_succ] at c0 c1
  simp [go_sem, hx, c0, c1]
theorem wrap_mul (P H1 L1 H2 L2 : Int) : wrap64 (IntKind.u64.wrap (P + IntKind.u64.wrap (IntKind.u64.wrap (IntKind.u64.wrap H1 * L2) + IntKind.u64.wrap (L1 * IntKind.u64.wrap H2)))) = wrap64 (P + (H1 * L2 + L1 * H2)) := by
  simp only [IntKind.wrap_u64]
  have e1 : (H1 * L2) % 18446744073709551616 = (H1 % 18446744073709551616 * L2) % 18446744073709551616 := by rw [Int.mul_emod, Int.mul_emod (H1 % 18446744073709551616) L2, Int.emod_emod_of_dvd _ (Int.dvd_refl _)]
  have e2 : (L1 * H2) % 18446744073709551616 = (L1 * (H2 % 18446744073709551616)) % 18446744073709551616 := by rw [Int.mul_emod, Int.mul_emod L1 (H2 % 18446744073709551616), Int.emod_emod_of_dvd _ (Int.dvd_refl _)]
  rw [← e1, ← e2]
  generalize H1 * L2 = u, L1 * H2 = v
  unfold wrap64; omega
theorem mul_mod_eq (a b x y P : Int) : (x * y) % P = ((x % P) * y) % P ∧ (x * y) % P = (x * (y % P)) % P := by
  constructor
  · rw [Int.mul_emod, Int.mul_emod (x % P) y, Int.emod_emod_of_dvd _ (Int.dvd_refl P)]
  · rw [Int.mul_emod, Int.mul_emod x (y % P), Int.emod_emod_of_dvd _ (Int.dvd_refl P)]
theorem times_parts (x y : BitVec 128) : hi (x * y) = wrap64 (lo x * lo y / 18446744073709551616 + (hi x * lo y + lo x * hi y)) ∧ lo (x * y) = lo x * lo y % 18446744073709551616 := by
  refine of_wrap _ _ _ ?_
  rw [BitVec.toNat_mul, Int.natCast_emod, Int.natCast_mul, num_of x, num_of y]
  have e1 := (mul_mod_eq 0 0 (hi x) (lo y) 18446744073709551616).1
  have e2 := (mul_mod_eq 0 0 (lo x) (hi y) 18446744073709551616).2
  generalize hi x = H1, hi y = H2, lo x = L1, lo y = L2 at *
  generalize H1 % 18446744073709551616 = a, H2 % 18446744073709551616 = b at *
  have e3 : (a * 18446744073709551616 + L1) * (b * 18446744073709551616 + L2) = a * b * 340282366920938463463374607431768211456 + (a * L2 + L1 * b) * 18446744073709551616 + L1 * L2 := by
    rw [Int.add_mul, Int.mul_add, Int.mul_add, Int.add_mul]
    have f1 : a * 18446744073709551616 * (b * 18446744073709551616) = a * b * 340282366920938463463374607431768211456 := by
      rw [Int.mul_assoc, Int.mul_left_comm 18446744073709551616 b, ← Int.mul_assoc]; rfl
    have f2 : a * 18446744073709551616 * L2 = a * L2 * 18446744073709551616 := Int.mul_right_comm _ _ _
    have f3 : L1 * (b * 18446744073709551616) = L1 * b * 18446744073709551616 := (Int.mul_assoc _ _ _).symm
    omega
  rw [e3]
  generalize a * b = p, a * L2 = q, L1 * b = r, L1 * L2 = s, H1 * L2 = u, L1 * H2 = v at *
  show _ % 340282366920938463463374607431768211456 = _
  omega
end Go.Proofs.Ytoofoalpffoheaa.Wd
