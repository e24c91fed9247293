/- Whole numbers of 128 bits: what the code's calls Compare, Int, Times answer. -/
import Derived.Test.YtggpcebcmoopnaaWdA
import Derived.Test.YtggpcebcmoopnaaAc
import Derived.Deep.CutBlock
import Derived.Deep.DeepCutAuto
namespace Go.Proofs.Ytggpcebcmoopnaa.Wd
open Go.ChangeShapes Go.WideShapes Go.ChangeAt Go.RowKit Go.PlainAid Aid
set_option linter.unusedVariables false
set_option linter.unusedSimpArgs false
def cmpZ (a b : Int) : Int := if a < b then -1 else if b < a then 1 else 0
theorem isNaN_u (x : Int) (w : World) : Calls Try.prog 29 #[.int .u64 x] w fun e w' => e = .returned (.bool false) ∧ w' = w := by
  go_enter Try.func29, Try.ntmps29
  go_wp2_with fail
  go_returns
  simp
theorem isNaN_i (x : Int) (w : World) : Calls Try.prog 28 #[.int .i64 x] w fun e w' => e = .returned (.bool false) ∧ w' = w := by
  go_enter Try.func28, Try.ntmps28
  go_wp2_with fail
  go_returns
  simp
theorem cmp_u (x y : Int) (w : World) : Calls Try.prog 25 #[.int .u64 x, .int .u64 y] w fun e w' => e = .returned (.int .i64 (cmpZ x y)) ∧ w' = w := by
  unfold cmpZ
  go_enter Try.func25, Try.ntmps25
  go_wp2_with fail
  refine (isNaN_u x _).mono ?_
  rintro e w' ⟨rfl, rfl⟩
  go_wp2_with fail
  refine (isNaN_u y _).mono ?_
  rintro e w' ⟨rfl, rfl⟩
  go_wp2_with fail
  all_goals (go_returns; simp [*])
theorem cmp_i (x y : Int) (w : World) : Calls Try.prog 24 #[.int .i64 x, .int .i64 y] w fun e w' => e = .returned (.int .i64 (cmpZ x y)) ∧ w' = w := by
  unfold cmpZ
  go_enter Try.func24, Try.ntmps24
  go_wp2_with fail
  refine (isNaN_i x _).mono ?_
  rintro e w' ⟨rfl, rfl⟩
  go_wp2_with fail
  refine (isNaN_i y _).mono ?_
  rintro e w' ⟨rfl, rfl⟩
  go_wp2_with fail
  all_goals (go_returns; simp [*])
def orZ (a b : Int) : Int := if a = 0 then b else a
theorem Or_any (g : Nat) (a b : Int) (cap : Nat) (w : World) (h0 : w.cell? ⟨g, 0, none⟩ = some (.int .i64 a)) (h1 : w.cell? ⟨g, 1, none⟩ = some (.int .i64 b)) :
    Calls Try.prog 23 #[.slice (some ⟨g, 0, none⟩) 2 cap] w fun e w' => e = .returned (.int .i64 (orZ a b)) ∧ w' = w := by
  unfold orZ
  by_cases ha : a = 0
  · subst ha
    by_cases hb : b = 0
    · subst hb
      go_enter Try.func23, Try.ntmps23
      go_wp2_with fail
      go_rounds 3
      go_returns
      simp
    · go_enter Try.func23, Try.ntmps23
      go_wp2_with fail
      go_rounds 3
      go_returns
      simp
  · go_enter Try.func23, Try.ntmps23
    go_wp2_with fail
    go_rounds 3
    go_returns
    simp [ha]
theorem Compare_parts (H1 L1 H2 L2 : Int) (w : World) :
    Calls Try.prog 12 #[.agg #[.int .i64 H1, .int .u64 L1], .agg #[.int .i64 H2, .int .u64 L2]] w fun e w' => e = .returned (.int .i64 (orZ (cmpZ H1 H2) (cmpZ L1 L2))) ∧ Below w.heap.size w w' := by
  go_enter Try.func12, Try.ntmps12
  go_wp2_with fail
  go_region_held3 (fun W => W.cell? ⟨w.heap.size, 0, none⟩ = some (.int .i64 H1) ∧ W.cell? ⟨w.heap.size, 1, none⟩ = some (.int .u64 L1) ∧ W.cell? ⟨w.heap.size + 1, 0, none⟩ = some (.int .i64 H2) ∧ W.cell? ⟨w.heap.size + 1, 1, none⟩ = some (.int .u64 L2)) (simp [go_sem, World.cell?_alloc_past])
    (first
      | (go_at_call 24; refine (cmp_i H1 H2 _).mono ?_; rintro e w' ⟨rfl, rfl⟩)
      | (go_at_call 25; refine (cmp_u L1 L2 _).mono ?_; rintro e w' ⟨rfl, rfl⟩)
      | (go_at_call 23; refine (Or_any _ (cmpZ H1 H2) (cmpZ L1 L2) 2 _ (by go_simp) (by go_simp)).mono ?_; rintro e w' ⟨rfl, rfl⟩))
  go_wp2_with fail
  go_returns
  exact ⟨rfl, blN (blA (blA (blA (Below.refl _ _) _) _) _) 1⟩
def val (x : BitVec 128) : Int := hi x * 18446744073709551616 + lo x
theorem cmp_val (x y : BitVec 128) : orZ (cmpZ (hi x) (hi y)) (cmpZ (lo x) (lo y)) = cmpZ (val x) (val y) := by
  have l1 := lo_bd x; have l2 := lo_bd y
  unfold val
  generalize hi x = a, hi y = b, lo x = c, lo y = d at *
  unfold orZ cmpZ
  by_cases h1 : a < b
  · have : a * 18446744073709551616 + c < b * 18446744073709551616 + d := by omega
    simp [h1, this]
  · by_cases h2 : b < a
    · have e1 : ¬ a * 18446744073709551616 + c < b * 18446744073709551616 + d := by omega
      have e2 : b * 18446744073709551616 + d < a * 18446744073709551616 + c := by omega
      simp [h1, h2, e1, e2]
    · obtain rfl : a = b := by omega
      simp
theorem Compare_any (x y : BitVec 128) (w : World) :
    Calls Try.prog 12 #[Wv x, Wv y] w fun e w' => e = .returned (.int .i64 (cmpZ (val x) (val y))) ∧ Below w.heap.size w w' := by
  rw [← cmp_val]
  exact Compare_parts _ _ _ _ w

def sg (n : Int) : Int := if n < 0 then -1 else 0
theorem Of_sg (n : Int) (hn : -9223372036854775808 ≤ n ∧ n ≤ 9223372036854775807) : Wv (BitVec.ofInt 128 n) = .agg #[.int .i64 (sg n), .int .u64 (n % 18446744073709551616)] := by
  obtain ⟨e1, e2⟩ := of_int n hn
  unfold Wv sg
  rw [e1, e2]
def intZ (x : BitVec 128) : Int × Bool := if sg (wrap64 (lo x)) = hi x then (wrap64 (lo x), true) else (0, false)
theorem Int_parts (H L n S : Int) (w : World) (hx : wrap64 L = n) (c : ∀ w, Calls Try.prog 19 #[.int .i64 n] w fun e w' => e = .returned (.agg #[.int .i64 S, .int .u64 L]) ∧ Below w.heap.size w w') :
    Calls Try.prog 18 #[.agg #[.int .i64 H, .int .u64 L]] w fun e w' => e = .returned (.tuple #[.int .i64 (if S = H then n else 0), .bool (decide (S = H))]) ∧ Below w.heap.size w w' := by
  by_cases h : S = H
  · subst h
    rw [if_pos rfl, decide_eq_true rfl]
    go_enter Try.func18, Try.ntmps18
    go_wp2_with fail
    go_region_held3 (fun W => W.cell? ⟨w.heap.size, 0, none⟩ = some (.int .i64 S) ∧ W.cell? ⟨w.heap.size, 1, none⟩ = some (.int .u64 L)) (first | exact ⟨tA, tB⟩ | simp [go_sem, World.cell?_alloc_past])
      (first | (go_at_call 19; refine (c _).mono ?_; rintro e w' ⟨rfl, hX⟩; have tA : w'.cell? ⟨w.heap.size, 0, none⟩ = some (.int .i64 S) := ((bcell hX).1 _ _ (by simp [go_sem])).trans (by simp [go_sem]); have tB : w'.cell? ⟨w.heap.size, 1, none⟩ = some (.int .u64 L) := ((bcell hX).1 _ _ (by simp [go_sem])).trans (by simp [go_sem])))
    go_wp2_with fail
    go_returns
    exact ⟨rfl, bl (blN (blA (Below.refl _ _) _) 1) hX⟩
  · rw [if_neg h, decide_eq_false h]
    have hne : (S == H) = false := by simpa using h
    go_enter Try.func18, Try.ntmps18
    go_wp2_with fail
    go_region_held3 (fun W => W.cell? ⟨w.heap.size, 0, none⟩ = some (.int .i64 H) ∧ W.cell? ⟨w.heap.size, 1, none⟩ = some (.int .u64 L)) (first | exact ⟨tA, tB⟩ | simp [go_sem, World.cell?_alloc_past])
      (first | (go_at_call 19; refine (c _).mono ?_; rintro e w' ⟨rfl, hX⟩; have tA : w'.cell? ⟨w.heap.size, 0, none⟩ = some (.int .i64 H) := ((bcell hX).1 _ _ (by simp [go_sem])).trans (by simp [go_sem]); have tB : w'.cell? ⟨w.heap.size, 1, none⟩ = some (.int .u64 L) := ((bcell hX).1 _ _ (by simp [go_sem])).trans (by simp [go_sem])))
    go_wp2_with fail
    go_returns
    exact ⟨rfl, bl (blN (blA (Below.refl _ _) _) 1) hX⟩
theorem Int_any (x : BitVec 128) (w : World) :
    Calls Try.prog 18 #[Wv x] w fun e w' => e = .returned (.tuple #[.int .i64 (intZ x).1, .bool (intZ x).2]) ∧ Below w.heap.size w w' := by
  obtain ⟨b, m⟩ := w64 (lo x)
  have h := Int_parts (hi x) (lo x) (wrap64 (lo x)) (sg (wrap64 (lo x))) w rfl fun w => by
    have c := Of_any (wrap64 (lo x)) b w
    rw [Of_sg _ b, m, Int.emod_eq_of_lt (lo_bd x).1 (lo_bd x).2] at c
    exact c
  have e : ∀ (S H n : Int), ((if S = H then (n, true) else (0, false)) : Int × Bool) = (if S = H then n else 0, decide (S = H)) := fun S H n => by split <;> simp [*]
  unfold intZ
  rw [e]
  exact h

theorem mul64 (x y : Int) (hx : 0 ≤ x ∧ x < 18446744073709551616) (hy : 0 ≤ y ∧ y < 18446744073709551616) (w : World) :
    Calls Try.prog 26 #[.int .u64 x, .int .u64 y] w fun e w' => e = .returned (.tuple #[.int .u64 (x * y / 18446744073709551616), .int .u64 (x * y % 18446744073709551616)]) ∧ w' = w := by
  obtain ⟨x, rfl⟩ := Int.eq_ofNat_of_zero_le hx.1
  obtain ⟨y, rfl⟩ := Int.eq_ofNat_of_zero_le hy.1
  exact Try.bits_Mul64 x y (by omega) (by omega) w
theorem two_of {w : World} {g : Nat} {T : TypeId} {a0 a1 : Value} (h : Blk w g T #[a0, a1]) :
    (w.cell? ⟨g, 0, none⟩ = some a0 ∧ w.cell? ⟨g, 1, none⟩ = some a1) ∧ w.frozen? ⟨g, 0, none⟩ = false ∧ w.frozen? ⟨g, 1, none⟩ = false :=
  ⟨⟨h.cell 0, h.cell 1⟩, h.free 0, h.free 1⟩
theorem own_2 {w0 w : World} {O0 : Nat → Prop} {A : Asn} {g : Nat} {T : TypeId} {a0 a1 : Value} (h : Own w0 O0 w (Asn.blk g T #[a0, a1] * A)) (b0 b1 : Value) :
    Own w0 O0 ((w.setCell ⟨g, 0, none⟩ b0).setCell ⟨g, 1, none⟩ b1) (Asn.blk g T #[b0, b1] * A) := by
  have := (h.set (Sets.l (sets_blk g T _ 0 b0))).set (Sets.l (sets_blk g T _ 1 b1))
  simpa only [List.setIfInBounds_toArray, List.set_cons_zero, List.set_cons_succ] using this
theorem resW {fn : Func} {x : Nat} {tm : Array Value} {w : World} {g : Nat} {a0 a1 : Value} (hf : fn.results = #[.cell x 24]) (hx : tm[x]?.getD undef = .pointer (some ⟨g, 0, none⟩))
    (hB : Blk w g 24 #[a0, a1]) : (results fn tm).run Try.prog w = .ok (.agg #[a0, a1]) w := by
  have c0 := hB.cell 0
  have c1 := hB.cell 1
  clear hB
  unfold results
  rw [hf]
  simp only [List.getElem?_toArray, List.getElem?_cons_zero, List.getElem?_cons_succ] at c0 c1
  simp [go_sem, hx, c0, c1]
theorem wrap_mul (P H1 L1 H2 L2 : Int) : wrap64 (IntKind.u64.wrap (P + IntKind.u64.wrap (IntKind.u64.wrap (IntKind.u64.wrap H1 * L2) + IntKind.u64.wrap (L1 * IntKind.u64.wrap H2)))) = wrap64 (P + (H1 * L2 + L1 * H2)) := by
  simp only [IntKind.wrap_u64]
  have e1 : (H1 * L2) % 18446744073709551616 = (H1 % 18446744073709551616 * L2) % 18446744073709551616 := by rw [Int.mul_emod, Int.mul_emod (H1 % 18446744073709551616) L2, Int.emod_emod_of_dvd _ (Int.dvd_refl _)]
  have e2 : (L1 * H2) % 18446744073709551616 = (L1 * (H2 % 18446744073709551616)) % 18446744073709551616 := by rw [Int.mul_emod, Int.mul_emod L1 (H2 % 18446744073709551616), Int.emod_emod_of_dvd _ (Int.dvd_refl _)]
  rw [← e1, ← e2]
  generalize H1 * L2 = u, L1 * H2 = v
  unfold wrap64; omega
set_option maxHeartbeats 1000000 in
theorem Times_parts (H1 L1 n H2 L2 : Int) (h1 : 0 ≤ L1 ∧ L1 < 18446744073709551616) (h2 : 0 ≤ L2 ∧ L2 < 18446744073709551616) (w : World) (c : ∀ w, Calls Try.prog 19 #[.int .i64 n] w fun e w' => e = .returned (.agg #[.int .i64 H2, .int .u64 L2]) ∧ Below w.heap.size w w') :
    Calls Try.prog 14 #[.agg #[.int .i64 H1, .int .u64 L1], .int .i64 n] w fun e w' => e = .returned (.agg #[.int .i64 (wrap64 (L1 * L2 / 18446744073709551616 + (H1 * L2 + L1 * H2))), .int .u64 (L1 * L2 % 18446744073709551616)]) ∧ Below w.heap.size w w' := by
  have S0 := Lib.hid (((Own.none w).alloc #[.int .i64 H1, .int .u64 L1] 24).alloc #[.int .i64 0, .int .u64 0] 24)
  go_enter Try.func14, Try.ntmps14
  simp only [World.size_alloc] at S0
  go_upto_region 1 with fail
  obtain ⟨g2, hgz⟩ : ∃ g, g = w.heap.size := ⟨_, rfl⟩
  rw [← hgz] at S0 ⊢
  clear hgz
  generalize World.alloc (World.alloc w _) _ = w1 at *
  generalize g2 + 1 = g4 at *
  go_wp2_with fail
  refine (c _).mono ?_
  rintro e w2 ⟨rfl, hX⟩
  have S1 := Lib.hid (S0.out.below hX)
  clear hX S0 
  have S2 := Lib.hid (S1.out.alloc #[.int .i64 H2, .int .u64 L2] 24)
  clear S1
  go_upto_region 2 with fail
  obtain ⟨g5, hgz⟩ : ∃ g, g = w2.heap.size := ⟨_, rfl⟩
  rw [← hgz] at S2 ⊢
  clear hgz
  generalize World.alloc w2 _ = w3 at *
  obtain ⟨⟨a0, a1⟩, -⟩ := two_of (S2.out.has (Has.r (Has.r (Has.l (has_blk g2 _ _)))))
  obtain ⟨⟨b0, b1⟩, -⟩ := two_of (S2.out.has (Has.l (has_blk g5 _ _)))
  obtain ⟨⟨c0, c1⟩, f0, f1⟩ := two_of (S2.out.has (Has.r (Has.l (has_blk g4 _ _))))
  go_wp2_with fail
  refine (mul64 L1 L2 h1 h2 _).mono ?_
  rintro e w' ⟨rfl, rfl⟩
  go_wp2_with fail
  rw [wrap_mul]
  have S3 := Lib.hid (own_2 (S2.out.re (show _ = Asn.blk g4 24 #[.int .i64 0, .int .u64 0] * (Asn.blk g5 24 #[.int .i64 H2, .int .u64 L2] * (Asn.blk g2 24 #[.int .i64 H1, .int .u64 L1] * Asn.emp)) by ac_rfl)) (.int .i64 (wrap64 (L1 * L2 / 18446744073709551616 + (H1 * L2 + L1 * H2)))) (.int .u64 (L1 * L2 % 18446744073709551616)))
  exact bodyPost_ret (resW (x := 4) rfl rfl (S3.out.has (Has.l (has_blk g4 _ _)))) rfl ⟨rfl, S3.out.bel⟩
theorem mul_mod_eq (a b x y P : Int) : (x * y) % P = ((x % P) * y) % P ∧ (x * y) % P = (x * (y % P)) % P := by
  constructor
  · rw [Int.mul_emod, Int.mul_emod (x % P) y, Int.emod_emod_of_dvd _ (Int.dvd_refl P)]
  · rw [Int.mul_emod, Int.mul_emod x (y % P), Int.emod_emod_of_dvd _ (Int.dvd_refl P)]
theorem times_parts (x y : BitVec 128) : hi (x * y) = wrap64 (lo x * lo y / 18446744073709551616 + (hi x * lo y + lo x * hi y)) ∧ lo (x * y) = lo x * lo y % 18446744073709551616 := by
  refine of_wrap _ _ _ ?_
  rw [BitVec.toNat_mul, Int.natCast_emod, Int.natCast_mul, num_of x, num_of y]
  have e1 := (mul_mod_eq 0 0 (hi x) (lo y) 18446744073709551616).1
  have e2 := (mul_mod_eq 0 0 (lo x) (hi y) 18446744073709551616).2
  generalize hi x = H1, hi y = H2, lo x = L1, lo y = L2 at *
  generalize H1 % 18446744073709551616 = a, H2 % 18446744073709551616 = b at *
  have e3 : (a * 18446744073709551616 + L1) * (b * 18446744073709551616 + L2) = a * b * 340282366920938463463374607431768211456 + (a * L2 + L1 * b) * 18446744073709551616 + L1 * L2 := by
    rw [Int.add_mul, Int.mul_add, Int.mul_add, Int.add_mul]
    have f1 : a * 18446744073709551616 * (b * 18446744073709551616) = a * b * 340282366920938463463374607431768211456 := by
      rw [Int.mul_assoc, Int.mul_left_comm 18446744073709551616 b, ← Int.mul_assoc]; rfl
    have f2 : a * 18446744073709551616 * L2 = a * L2 * 18446744073709551616 := Int.mul_right_comm _ _ _
    have f3 : L1 * (b * 18446744073709551616) = L1 * b * 18446744073709551616 := (Int.mul_assoc _ _ _).symm
    omega
  rw [e3]
  generalize a * b = p, a * L2 = q, L1 * b = r, L1 * L2 = s, H1 * L2 = u, L1 * H2 = v at *
  show _ % 340282366920938463463374607431768211456 = _
  omega
theorem Times_any (x : BitVec 128) (n : Int) (hn : -9223372036854775808 ≤ n ∧ n ≤ 9223372036854775807) (w : World) :
    Calls Try.prog 14 #[Wv x, .int .i64 n] w fun e w' => e = .returned (Wv (x * BitVec.ofInt 128 n)) ∧ Below w.heap.size w w' := by
  obtain ⟨e1, e2⟩ := times_parts x (BitVec.ofInt 128 n)
  have h := Times_parts (hi x) (lo x) n (hi (BitVec.ofInt 128 n)) (lo (BitVec.ofInt 128 n)) (lo_bd x) (lo_bd _) w (fun w => Of_any n hn w)
  rw [← e1, ← e2] at h
  exact h
end Go.Proofs.Ytggpcebcmoopnaa.Wd
