/- A log's methods. -/
import Derived.Test.YtaacinhmgmmcaaaDoorDyB
namespace Go.Proofs.YtaacinhmgmmcaaaDoor.Nt
open Go.ChangeShapes Go.WideShapes Go.ChangeAt Go.RowKit Go.PlainAid Aid Cr
set_option linter.unusedVariables false
set_option linter.unusedSimpArgs false
theorem rb_ownO {w W W' : World} {O : Nat → Prop} {A : Asn} (hb : Below W.heap.size W W') (h : Hid (Own w O W A)) : Hid (Own w O W' A) := Lib.hid (h.out.below hb)
section
variable (g gr m size : Nat) (v : Value) (L : List Rec) (safe held : Nat)
set_option maxRecDepth 100000 in
set_option maxHeartbeats 1000000 in
theorem tSafe (a : Nat) (y : ByteArray) (ha : a ≤ 1099511627776) (hy : y.size ≤ 1099511627776) :
    Tr Tryd.prog 36 #[lPtr g, .agg #[.int .i64 a, .string y]] (aLg g gr m size v L safe held) (.bool (decide ((a : Int) - 1 + y.size ≤ safe))) (aLg g gr m size v L safe held) := by
  intro w O hA
  have HE := Lib.hid (fun w => end_any a y w ha hy)
  have S := Lib.hid ((Own.start hA).alloc #[.int .i64 a, .string y] 80)
  have F : Hid (∀ W, Hid (Own w O W (Asn.blk w.heap.size 80 #[.int .i64 a, .string y] * aLg g gr m size v L safe held)) → W.cell? ⟨w.heap.size, 0, none⟩ = some (.int .i64 a) ∧ W.cell? ⟨w.heap.size, 1, none⟩ = some (.string y) ∧ W.cell? ⟨g, 0, none⟩ = some (.pointer (some ⟨gr, 0, none⟩))) :=
    Lib.hid fun W h => ⟨(two_wr (h.out.has (Has.l (has_blk _ _ _)))).1, (two_wr (h.out.has (Has.l (has_blk _ _ _)))).2.1, (lg_cells (h.out.has (Has.r (Has.l (Has.l (has_blk _ _ _)))))).1⟩
  have HL := Lib.hid (Rl.qSafe gr m size (ofL (flat L)) safe)
  clear hA ha hy
  generalize ((a : Int) - 1 + y.size) = E at *
  unfold lPtr at *
  go_enter Tryd.func36, Tryd.ntmps36
  go_upto_region 1 with fail
  obtain ⟨gx, hgz⟩ : ∃ g, g = w.heap.size := ⟨_, rfl⟩
  rw [← hgz] at S F ⊢
  clear hgz
  generalize w.alloc _ = w1 at *
  have SD := Lib.hid S.out.drew
  have t0 := F.out _ SD
  go_region_held3 (fun W => (W.cell? ⟨gx, 0, none⟩ = some (.int .i64 a) ∧ W.cell? ⟨gx, 1, none⟩ = some (.string y) ∧ W.cell? ⟨g, 0, none⟩ = some (.pointer (some ⟨gr, 0, none⟩))) ∧ Hid (Own w O W (Asn.blk gx 80 #[.int .i64 a, .string y] * aLg g gr m size v L safe held))) (first | exact ⟨t0, SD⟩ | exact ⟨t20, s20⟩ | exact ⟨t21, s21⟩ | exact ⟨F.out _ (by assumption), by assumption⟩) (first | (go_at_call 50; refine (HE.out _).mono ?_; rintro e w20 ⟨rfl, hb20⟩; have s20 := rb_ownO hb20 (by assumption); have t20 := F.out _ s20) | (go_at_call 54; have sx : Hid (Own w O _ (Asn.blk gx 80 #[.int .i64 a, .string y] * aLg g gr m size v L safe held)) := (by assumption); refine (sx.out.ask HL.out.r.r).mono ?_; rintro e w21 ⟨rfl, k21, rfl⟩; have s21 := Lib.hid (sx.out.drewN k21); have t21 := F.out _ s21))
  have S2 := Lib.hid s21.out.right
  clear sx s20 t20 s21 t21 SD t0 S F hb20
  generalize w20.drewN k21 = w3 at *
  go_wp2_with fail
  go_returns
  exact ⟨rfl, S2.out⟩
set_option maxRecDepth 100000 in
set_option maxHeartbeats 1000000 in
theorem qRoom (hh : held ≤ 262144) :
    Qt Tryd.prog 19 #[lPtr g] (aLg g gr m size v L safe held) (.int .i64 ((size : Int) - (flat L).length - held)) := by
  intro w O hA
  have S := Lib.hid (Own.start hA)
  obtain ⟨k1, k2, k3⟩ := lg_fits S.out
  have HL := Lib.hid (Rl.qLeft gr m size (ofL (flat L)) safe)
  rw [ofL_sz] at HL
  have hw : IntKind.i64.wrap ((size : Int) - (flat L).length - held) = (size : Int) - (flat L).length - held := by rw [IntKind.wrap_i64]; omega
  obtain ⟨c0, c1, c2, -, -⟩ := lg_cells (S.out.has (Has.l (Has.l (has_blk _ _ _))))
  clear hA
  unfold lPtr at *
  go_enter Tryd.func19, Tryd.ntmps19
  go_wp2_with fail
  go_quiet ((go_at_call 38; exact Calls.quiet_of ((S.out.drewN _).ask HL.out.r)))
  go_wp2_with fail
  go_returns
  exact ⟨by first | rfl | rw [hw], _, rfl⟩
set_option maxRecDepth 100000 in
set_option maxHeartbeats 1000000 in
theorem qHold_arg (n : Int) (hn : n < 0) : Qt Tryd.prog 17 #[lPtr g, .int .i64 n] (aLg g gr m size v L safe held) (.int .i64 1) := by
  intro w O hA
  unfold lPtr at *
  clear hA
  go_enter Tryd.func17, Tryd.ntmps17
  go_wp2_with fail
  go_returns
  exact ⟨rfl, 0, rfl⟩
set_option maxRecDepth 100000 in
set_option maxHeartbeats 1000000 in
theorem qHold_full (hh : held ≤ 262144) (n : Int) (h0 : 0 ≤ n) (hn : (size : Int) - (flat L).length - held < n) : Qt Tryd.prog 17 #[lPtr g, .int .i64 n] (aLg g gr m size v L safe held) (.int .i64 5) := by
  intro w O hA
  have HR := Lib.hid (qRoom g gr m size v L safe held hh)
  have S := Lib.hid (Own.start hA)
  generalize (size : Int) - (flat L).length - held = R at *
  unfold lPtr at *
  clear hA
  go_enter Tryd.func17, Tryd.ntmps17
  go_wp2_with fail
  refine (S.out.ask HR.out).mono ?_
  rintro e w1 ⟨rfl, k, rfl⟩
  go_wp2_with fail
  go_returns
  exact ⟨rfl, k, rfl⟩
set_option maxRecDepth 100000 in
set_option maxHeartbeats 1000000 in
theorem tHold_ok (hh : held ≤ 262144) (n : Nat) (hn : (n : Int) ≤ (size : Int) - (flat L).length - held) :
    Tr Tryd.prog 17 #[lPtr g, .int .i64 n] (aLg g gr m size v L safe held) (.int .i64 0) (aLg g gr m size v L safe (held + n)) := by
  intro w O hA
  have HR := Lib.hid (qRoom g gr m size v L safe held hh)
  have S := Lib.hid (Own.start hA)
  obtain ⟨k1, k2, k3⟩ := lg_fits S.out
  have hw : IntKind.i64.wrap ((held : Int) + n) = (held : Int) + n := by rw [IntKind.wrap_i64]; omega
  have hR : ¬ ((size : Int) - (flat L).length - held < n) := by omega
  generalize (size : Int) - (flat L).length - held = R at *
  unfold lPtr at *
  clear hA hn k1 k2 k3
  go_enter Tryd.func17, Tryd.ntmps17
  go_wp2_with fail
  refine (S.out.ask HR.out).mono ?_
  rintro e w1 ⟨rfl, k, rfl⟩
  have S1 := Lib.hid (S.out.drewN k)
  clear S
  generalize w.drewN k = w1 at *
  obtain ⟨c0, c1, c2, f1, f2⟩ := lg_cells (S1.out.has (Has.l (Has.l (has_blk _ _ _))))
  go_wp2_with fail
  go_returns
  have h3 := S1.out.set (Sets.l (Sets.l (sets_blk g 68 (lgRow gr v held) 2 (.int .i64 ((held : Int) + n)))))
  exact ⟨rfl, h3⟩
set_option maxRecDepth 100000 in
set_option maxHeartbeats 1000000 in
theorem tFree_neg (n : Int) (hn : n < 0) : Qt Tryd.prog 18 #[lPtr g, .int .i64 n] (aLg g gr m size v L safe held) (.tuple #[]) := by
  intro w O hA
  unfold lPtr at *
  clear hA
  go_enter Tryd.func18, Tryd.ntmps18
  go_wp2_with fail
  go_returns
  exact ⟨rfl, 0, rfl⟩
set_option maxRecDepth 100000 in
set_option maxHeartbeats 1000000 in
theorem tFree_ok (hh : held ≤ 262144) (n : Nat) : Tr Tryd.prog 18 #[lPtr g, .int .i64 n] (aLg g gr m size v L safe held) (.tuple #[]) (aLg g gr m size v L safe (held - n)) := by
  intro w O hA
  have S := Lib.hid (Own.start hA)
  have key : ∀ (h : Int) W, h = ((held - n : Nat) : Int) → Own w O W (aLg g gr m size v L safe held) → Own w O (W.setCell ⟨g, 2, none⟩ (.int .i64 h)) (aLg g gr m size v L safe (held - n)) := by
    rintro h W rfl hW
    exact hW.set (Sets.l (Sets.l (sets_blk g 68 (lgRow gr v held) 2 (.int .i64 ((held - n : Nat) : Int)))))
  have KEY := Lib.hid key
  have hw : IntKind.i64.wrap ((held : Int) - n) = (held : Int) - n ∨ ¬ n ≤ held := by
    by_cases h : n ≤ held
    · left; rw [IntKind.wrap_i64]; omega
    · right; exact h
  have hw0 : IntKind.i64.wrap ((held : Int) - held) = (held : Int) - held := by rw [IntKind.wrap_i64]; omega
  clear hA key
  unfold lPtr at *
  go_enter Tryd.func18, Tryd.ntmps18
  obtain ⟨c0, c1, c2, f1, f2⟩ := lg_cells (S.out.has (Has.l (Has.l (has_blk _ _ _))))
  by_cases hle : n ≤ held
  · have hw1 := hw.resolve_right (fun h => h hle)
    have hd : min (n : Int) (held : Int) = n := by omega
    clear hw
    go_wp2_with fail
    go_wp2_with fail
    refine wp_region_still_tail 13 (by kernel_rfl) (by kernel_rfl) ?_
    simp only [List.take_succ_cons, List.take_zero, List.drop_succ_cons, List.drop_zero]
    change wpStill _ _ w.drew _ _ _
    repeat still_step
    refine wpStill_nil ?_
    change wpList _ _ _ _ _ w.drew
    have S1 := Lib.hid S.out.drew
    clear c0 c1 c2 f1 f2 S
    generalize w.drew = w1 at *
    obtain ⟨c0, c1, c2, f1, f2⟩ := lg_cells (S1.out.has (Has.l (Has.l (has_blk _ _ _))))
    go_wp2_with fail
    go_returns
    exact ⟨rfl, KEY.out _ _ (by omega) S1.out⟩
  · have hd : min (n : Int) (held : Int) = held := by omega
    clear hw
    go_wp2_with fail
    go_wp2_with fail
    refine wp_region_still_tail 13 (by kernel_rfl) (by kernel_rfl) ?_
    simp only [List.take_succ_cons, List.take_zero, List.drop_succ_cons, List.drop_zero]
    change wpStill _ _ w.drew _ _ _
    repeat still_step
    refine wpStill_nil ?_
    change wpList _ _ _ _ _ w.drew
    have S1 := Lib.hid S.out.drew
    clear c0 c1 c2 f1 f2 S
    generalize w.drew = w1 at *
    obtain ⟨c0, c1, c2, f1, f2⟩ := lg_cells (S1.out.has (Has.l (Has.l (has_blk _ _ _))))
    go_wp2_with fail
    go_returns
    exact ⟨rfl, KEY.out _ _ (by omega) S1.out⟩
end
end Go.Proofs.YtaacinhmgmmcaaaDoor.Nt
