/- The document's Bits, Of, Compare of rows of truths. -/
import Derived.Test.YtoofoalpffoheaaWdG
namespace Go.Proofs.Ytoofoalpffoheaa.Wd
open Go.ChangeShapes Go.WideShapes Go.ChangeAt Go.RowKit Go.PlainAid Aid
set_option linter.unusedVariables false
set_option linter.unusedSimpArgs false
/-- A bit of a half. -/
theorem bit_nat (a k : Nat) (ha : a < 18446744073709551616) : (bits .and .u64 ((a : Int) / 2 ^ k) 1 == 1) = a.testBit k := by
  have e : ((a : Int) / 2 ^ k) = ((a / 2 ^ k : Nat) : Int) := by simp
  have h := bits_and_u64_nat (a / 2 ^ k) 1 (Nat.lt_of_le_of_lt (Nat.div_le_self _ _) ha) (by omega)
  rw [e]
  have h' : bits .and .u64 ((a / 2 ^ k : Nat) : Int) 1 = ((a / 2 ^ k &&& 1 : Nat) : Int) := h
  rw [h', Nat.and_one_is_mod, Nat.testBit_eq_decide_div_mod_eq]
  by_cases hx : a / 2 ^ k % 2 = 1
  · simp [hx]
  · have : a / 2 ^ k % 2 = 0 := by omega
    simp [this]
theorem bit_lo (x : BitVec 128) (k : Nat) (h : k < 64) : (bits .and .u64 (lo x / 2 ^ k) 1 == 1) = x.getLsbD k := by
  have e : lo x = ((x.toNat % 18446744073709551616 : Nat) : Int) := by unfold lo; omega
  rw [e, bit_nat _ k (Nat.mod_lt _ (by decide)), BitVec.getLsbD, show (18446744073709551616 : Nat) = 2 ^ 64 from rfl, Nat.testBit_mod_two_pow]
  simp [h]
theorem bit_hi (x : BitVec 128) (k : Nat) (h : k < 64) : (bits .and .u64 (IntKind.u64.wrap (hi x) / 2 ^ k) 1 == 1) = x.getLsbD (64 + k) := by
  have hx := x.isLt
  have e : IntKind.u64.wrap (hi x) = ((x.toNat / 18446744073709551616 : Nat) : Int) := by
    have n := num_of x; have l := lo_bd x
    rw [IntKind.wrap_u64]; omega
  rw [e, bit_nat _ k (by omega), BitVec.getLsbD, show (18446744073709551616 : Nat) = 2 ^ 64 from rfl, Nat.testBit_div_two_pow]
  rw [Nat.add_comm]
set_option maxRecDepth 100000 in
set_option maxHeartbeats 1000000 in
theorem refBits_any (x : BitVec 128) (w : World) :
    Calls Try.prog 38 #[Wv x] w fun e w' => e = .returned (.agg (Bs x.getLsbD)) ∧ Below w.heap.size w w' := by
  have hz := run_zero
  have HL := Lib.hid (bit_lo x)
  have HH := Lib.hid (bit_hi x)
  unfold Wv
  generalize hi x = H, lo x = L, x.getLsbD = fr at *
  have S0 := Lib.hid (((Own.none w).alloc #[.int .i64 H, .int .u64 L] 24).alloc (Bs fun _ => false) 83)
  obtain ⟨Z, hZ⟩ : ∃ Z, Z = Bs (fun _ => false) := ⟨_, rfl⟩
  rw [← hZ] at S0
  rw [← hZ] at hz
  have HZ : Hid (Z.size = 128) := Lib.hid (by rw [hZ]; exact Bs_size _)
  clear hZ
  go_enter Try.func38, Try.ntmps38
  simp only [World.size_alloc] at S0
  go_upto_region 1 with fail
  obtain ⟨g1, hgz⟩ : ∃ g, g = w.heap.size := ⟨_, rfl⟩
  rw [← hgz] at S0 ⊢
  clear hgz
  generalize World.alloc (World.alloc w _) _ = w1 at *
  generalize g1 + 1 = g2 at *
  clear hz
  have S1 := Lib.hid (S0.out.alloc (Bs fun _ => false) 83)
  clear S0
  refine wp_var _ _ _ 5 3 rfl rfl rfl rfl rfl rfl rfl rfl rfl (by simp) (by simp) (by decide) ?_
  obtain ⟨g3, hgz⟩ : ∃ g, g = w1.heap.size := ⟨_, rfl⟩
  rw [← hgz] at S1 ⊢
  clear hgz
  generalize World.alloc w1 _ = w2 at *
  have S2 : Hid (Own w No w2 (Asn.blk g3 83 (Bs fun j => if j % 64 < 0 then fr j else false) * (Asn.blk g1 24 #[.int .i64 H, .int .u64 L] * (Asn.blk g2 83 Z * Asn.emp)))) := Lib.hid (by
    have h := S1.out
    have e : (Bs fun j => if j % 64 < 0 then fr j else false) = Bs fun _ => false := Bs_ext fun j _ => by simp
    rw [e]
    exact h.re (by ac_rfl))
  clear S1
  generalize Bs (fun _ => false) = Z' at *
  simp only [Act.put, List.setIfInBounds_toArray, List.set_cons_zero, List.set_cons_succ]
  go_wp2_with fail
  go_loopw [4] (fun i wr => ∃ k : Nat, k ≤ 64 ∧ i = .int .i64 k ∧ Hid (Own w No wr (Asn.blk g3 83 (Bs fun j => if j % 64 < k then fr j else false) * (Asn.blk g1 24 #[.int .i64 H, .int .u64 L] * (Asn.blk g2 83 Z * Asn.emp))))) (fun i _ => 64 - (intOf i).toNat)
  case atStart => exact ⟨0, by omega, rfl, S2⟩
  case round =>
    clear S2
    obtain ⟨k, hk, rfl, hS⟩ := hrel
    by_cases hlt : k < 64
    · obtain ⟨⟨a0, a1⟩, -⟩ := two_of (hS.out.has (Has.r (Has.l (has_blk g1 _ _))))
      have o1 := bit_of (hS.out.has (Has.l (has_blk g3 _ _))) k (by omega)
      have o2 := bit_of (hS.out.has (Has.l (has_blk g3 _ _))) (64 + k) (by omega)
      have hf1 := (hS.out.has (Has.l (has_blk g3 _ _))).free k
      have hf2 := (hS.out.has (Has.l (has_blk g3 _ _))).free (64 + k)
      have hl := HL.out k hlt
      have hh := HH.out k hlt
      have hN := Lib.hid (hS.out.set (Sets.l (sets_blk g3 _ _ k (.bool (fr k)))))
      rw [Bs_set] at hN
      clear hS o2 hf2 a0
      go_upto_region 6 with fail
      generalize World.setCell wr _ _ = w5 at *
      obtain ⟨⟨b0, b1⟩, -⟩ := two_of (hN.out.has (Has.r (Has.l (has_blk g1 _ _))))
      have o2 := bit_of (hN.out.has (Has.l (has_blk g3 _ _))) (64 + k) (by omega)
      have hf2 := (hN.out.has (Has.l (has_blk g3 _ _))).free (64 + k)
      have hM := Lib.hid (hN.out.set (Sets.l (sets_blk g3 _ _ (64 + k) (.bool (fr (64 + k))))))
      rw [Bs_set] at hM
      have E1 : Hid ((Bs fun j => if j = 64 + k then fr (64 + k) else if j = k then fr k else if j % 64 < k then fr j else false) = Bs fun j => if j % 64 < k + 1 then fr j else false) := Lib.hid (Bs_ext fun j hj => by
        by_cases h1 : j = 64 + k
        · subst h1; rw [if_pos rfl, if_pos (by omega)]
        · rw [if_neg h1]
          by_cases h2 : j = k
          · subst h2; rw [if_pos rfl, if_pos (by omega)]
          · rw [if_neg h2]
            have : (j % 64 < k + 1) = (j % 64 < k) := propext (by omega)
            simp [this])
      rw [E1.out] at hM
      clear E1 hN
      go_wp2_with fail
      go_round
      case rel => exact ⟨k + 1, by omega, by go_num, hM⟩
      case measure => simp [intOf]; omega
    · obtain rfl : k = 64 := by omega
      have hB1 := hS.out.has (Has.l (has_blk g3 _ _))
      have hB2 := hS.out.has (Has.r (Has.r (Has.l (has_blk g2 _ _))))
      rw [show (Bs fun j => if j % 64 < 64 then fr j else false) = Bs fr from Bs_ext fun j hj => by rw [if_pos (by omega)]] at hB1 hS
      have e2 := Lib.hid (own_setRow (hS.out.re (show _ = Asn.blk g2 83 Z * (Asn.blk g3 83 (Bs fr) * (Asn.blk g1 24 #[.int .i64 H, .int .u64 L] * Asn.emp)) by ac_rfl)) (Bs fr))
      have hC1 : (Try.prog.info? 83).map (·.size) = some (Bs fr).size := sizeB _
      have hC2 : Z.size = (Bs fr).size := by rw [Bs_size]; exact HZ.out
      have hC3 := Bs_one fr
      clear hS
      go_upto_region 7 with fail
      refine wp_region_lit ?_
      refine wpList_load_row rfl 83 (.tmp 3) rfl g3 rfl 83 (Bs fr) (0, 0) _ hB1 Try.underlying83 rfl hC1 ?_
      refine wpList_store_row rfl 83 (.tmp 2) (.tmp 28) rfl g2 (Bs fr) rfl rfl 83 Z hB2 hC1 hC2 hC3 ?_
      generalize World.setRow wr _ _ = w5 at *
      go_wp2_with fail
      exact bodyPost_ret (resB (x := 2) rfl rfl (e2.out.has (Has.l (has_blk g2 _ _)))) rfl ⟨rfl, e2.out.bel⟩
end Go.Proofs.Ytoofoalpffoheaa.Wd
