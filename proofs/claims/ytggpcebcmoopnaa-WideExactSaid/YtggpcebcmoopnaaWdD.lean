/- Whole numbers of 128 bits: awake, and WideLaws' walk. -/
import Derived.Test.YtggpcebcmoopnaaWdC
namespace Go.Proofs.Ytggpcebcmoopnaa.Wd
open Go.ChangeShapes Go.WideShapes Go.ChangeAt Go.RowKit Go.PlainAid Aid
set_option linter.unusedVariables false
set_option linter.unusedSimpArgs false
theorem keepc {W W' : World} {g i : Nat} {v : Value} (hX : Below W.heap.size W W') (h : W.cell? ⟨g, i, none⟩ = some v) : W'.cell? ⟨g, i, none⟩ = some v := by
  have : g < W.heap.size := Law.cell_lt h
  rw [(bcell hX).1 g i this]; exact h
theorem keep2 {w0 W W' : World} {g1 : Nat} {a b : Value} (hX : Below W.heap.size W W') (hB : Hid (Below w0.heap.size w0 W)) (h0 : W.cell? ⟨g1, 0, none⟩ = some a) (h1 : W.cell? ⟨g1, 1, none⟩ = some b) :
    Hid (Below w0.heap.size w0 W') ∧ W'.cell? ⟨g1, 0, none⟩ = some a ∧ W'.cell? ⟨g1, 1, none⟩ = some b := ⟨Lib.hid (bl hB.out hX), keepc hX h0, keepc hX h1⟩
set_option maxHeartbeats 4000000 in
theorem awake_any (w : World) :
    Calls Try.prog 5 #[] w fun e w' => e = .returned (.bool true) ∧ Below w.heap.size w w' := by
  have v1 : Wv (BitVec.ofInt 128 9223372036854775807) = .agg #[.int .i64 0, .int .u64 9223372036854775807] := by kernel_rfl
  have v2 : Wv (BitVec.ofInt 128 1) = .agg #[.int .i64 0, .int .u64 1] := by kernel_rfl
  have v3 : Wv (BitVec.ofInt 128 9223372036854775807 + BitVec.ofInt 128 1) = .agg #[.int .i64 0, .int .u64 9223372036854775808] := by kernel_rfl
  have v5 : Wv (BitVec.ofInt 128 (-5)) = .agg #[.int .i64 (-1), .int .u64 18446744073709551611] := by kernel_rfl
  have v7 : Wv (BitVec.ofInt 128 (-1)) = .agg #[.int .i64 (-1), .int .u64 18446744073709551615] := by kernel_rfl
  have i4 : intZ (BitVec.ofInt 128 9223372036854775807 + BitVec.ofInt 128 1) = (0, false) := by decide +kernel
  have i6 : intZ (BitVec.ofInt 128 (-5)) = (-5, true) := by decide +kernel
  have i8 : cmpZ (val (BitVec.ofInt 128 (-1))) (val (BitVec.ofInt 128 1)) = -1 := by decide +kernel
  have K1 := fun w => Of_any 9223372036854775807 (by decide) w
  have K2 := fun w => Of_any 1 (by decide) w
  have K3 := fun w => Add_any (BitVec.ofInt 128 9223372036854775807) (BitVec.ofInt 128 1) w
  have K4 := fun w => Int_any (BitVec.ofInt 128 9223372036854775807 + BitVec.ofInt 128 1) w
  have K5 := fun w => Of_any (-5) (by decide) w
  have K6 := fun w => Int_any (BitVec.ofInt 128 (-5)) w
  have K7 := fun w => Of_any (-1) (by decide) w
  have K8 := fun w => Compare_any (BitVec.ofInt 128 (-1)) (BitVec.ofInt 128 1) w
  have K9 := fun w => Code_parts 0 9223372036854775808 w
  simp only [v3, i4] at K3 K4
  simp only [v1, v2, v5, v7, i6, i8] at K1 K2 K3 K5 K6 K7 K8
  clear v1 v2 v3 v5 v7 i4 i6 i8
  have z := code_size 0 9223372036854775808
  generalize strOfNums (codeL 0 9223372036854775808) = cs at *
  have z2 : (cs.size : Int) = 16 := by omega
  clear z
  have B0 := Lib.hid (Below.refl w.heap.size w)
  go_enter Try.func5, Try.ntmps5
  go_wp2_with fail
  refine (K1 _).mono ?_
  rintro e w1 ⟨rfl, hb⟩
  have B1 := Lib.hid (bl B0.out hb)
  clear hb B0
  go_wp2_with fail
  refine (K2 _).mono ?_
  rintro e w2 ⟨rfl, hb⟩
  have B2 := Lib.hid (bl B1.out hb)
  clear hb B1
  go_wp2_with fail
  refine (K3 _).mono ?_
  rintro e w3 ⟨rfl, hb⟩
  have B3 := Lib.hid (bl B2.out hb)
  clear hb B2
  have S4 := Lib.hid ((Own.of_below B3.out).alloc #[.int .i64 0, .int .u64 9223372036854775808] 24)
  clear B3
  go_upto_region 2 with fail
  obtain ⟨g1, hgz⟩ : ∃ g, g = w3.heap.size := ⟨_, rfl⟩
  rw [← hgz] at S4 ⊢
  clear hgz
  generalize World.alloc w3 _ = w4 at *
  obtain ⟨⟨a0, a1⟩, -⟩ := two_of (S4.out.has (Has.l (has_blk g1 _ _)))
  go_wp2_with fail
  refine (K4 _).mono ?_
  rintro e w5 ⟨rfl, hX⟩
  have S5 := Lib.hid (S4.out.below hX)
  clear hX S4 
  clear a0 a1
  go_wp2_with fail
  refine (K5 _).mono ?_
  rintro e w6 ⟨rfl, hX⟩
  have S6 := Lib.hid (S5.out.below hX)
  clear hX S5 
  go_wp2_with fail
  refine (K6 _).mono ?_
  rintro e w7 ⟨rfl, hX⟩
  have S7 := Lib.hid (S6.out.below hX)
  clear hX S6 
  go_upto_region 4 with fail
  obtain ⟨⟨a0, a1⟩, -⟩ := two_of (S7.out.has (Has.l (has_blk g1 _ _)))
  go_wp2_with fail
  refine (K7 _).mono ?_
  rintro e w8 ⟨rfl, hX⟩
  have S8 := Lib.hid (S7.out.below hX)
  clear hX S7 
  clear a0 a1
  go_wp2_with fail
  refine (K2 _).mono ?_
  rintro e w9 ⟨rfl, hX⟩
  have S9 := Lib.hid (S8.out.below hX)
  clear hX S8 
  go_wp2_with fail
  refine (K8 _).mono ?_
  rintro e w10 ⟨rfl, hX⟩
  have S10 := Lib.hid (S9.out.below hX)
  clear hX S9 
  obtain ⟨⟨a0, a1⟩, -⟩ := two_of (S10.out.has (Has.l (has_blk g1 _ _)))
  go_wp2_with fail
  refine (K9 _).mono ?_
  rintro e w11 ⟨rfl, hX⟩
  have S11 := Lib.hid (S10.out.below hX)
  clear hX S10 
  clear a0 a1
  go_wp2_with fail
  go_returns
  exact ⟨rfl, S11.out.bel⟩
end Go.Proofs.Ytggpcebcmoopnaa.Wd
