/- The writer of nodes: bytes one behind the other. -/
import Derived.Test.YtmnfoafpjmlbfaaGreatDoorNdA
import Derived.Test.YtmnfoafpjmlbfaaGreatDoorBld
import Derived.Deep.LoopGhost
import Derived.Deep.CutBlock
namespace Go.Proofs.YtmnfoafpjmlbfaaGreatDoor.Nd
open Go.ChangeShapes Go.WideShapes Go.ChangeAt Go.RowKit Go.PlainAid Aid Cr Nt
set_option linter.unusedVariables false
set_option linter.unusedSimpArgs false
/-- A number's lowest bytes, any number's. -/
def numZ : Nat → Int → By
  | 0, _ => []
  | k + 1, n => UInt8.ofNat (n % 256).toNat :: numZ k (n / 256)
theorem numZ_length (k : Nat) (n : Int) : (numZ k n).length = k := by
  induction k generalizing n with
  | zero => rfl
  | succ k ih => simp [numZ, ih]
theorem numZ_nat (k n : Nat) : numZ k (n : Int) = numL k n := by
  induction k generalizing n with
  | zero => rfl
  | succ k ih =>
    have e1 : ((n : Int) % 256).toNat = n % 256 := by omega
    have e2 : (n : Int) / 256 = ((n / 256 : Nat) : Int) := by omega
    rw [numZ, e1, e2, ih]; rfl
theorem numZ_I (k : Nat) (n : Int) (h : 0 ≤ n) : numZ k n = numI k n := by
  unfold numI; rw [← numZ_nat, Int.toNat_of_nonneg h]
theorem numZ_snoc (k : Nat) (n : Int) : numZ (k + 1) n = numZ k n ++ [UInt8.ofNat (n / 256 ^ k % 256).toNat] := by
  induction k generalizing n with
  | zero => simp [numZ]
  | succ k ih =>
    rw [numZ, ih (n / 256), numZ, List.cons_append, Int.ediv_ediv_of_nonneg (by decide), Int.pow_succ, Int.mul_comm 256]
theorem bldW : BldT 206 := by unfold BldT; kernel_rfl
def aN (g : Nat) (l : By) : Asn := aBld 206 g l
theorem tByte (g : Nat) (l : By) (c : Int) (h0 : 0 ≤ c) (h1 : c < 256) (hl : l.length < 140737488355328) :
    Tr Tryz.prog 116 #[bPtr g, .int .u8 c] (aN g l) .nilIface (aN g (l ++ [UInt8.ofNat c.toNat])) := by
  have e : (UInt8.ofNat c.toNat).toNat = c.toNat := by simp; omega
  have := bWriteByte 206 bldW g l (UInt8.ofNat c.toNat) hl
  rw [e, Int.toNat_of_nonneg h0] at this
  exact this
theorem tStr (g : Nat) (l s : By) (hl : l.length + s.length ≤ 140737488355328) :
    Tr Tryz.prog 118 #[bPtr g, .string (ofL s)] (aN g l) (.tuple #[.int .i64 s.length, .nilIface]) (aN g (l ++ s)) := bWriteString 206 bldW g l s hl
set_option maxHeartbeats 1000000 in
theorem tNumZ (g : Nat) (l : By) (n : Int) (k : Nat) (hl : l.length + k < 140737488355328) :
    Tr Tryz.prog 175 #[bPtr g, .int .i64 n, .int .i64 k] (aN g l) (.tuple #[]) (aN g (l ++ numZ k n)) := by
  intro w O hA
  have S := Lib.hid (Own.start hA)
  have HB := Lib.hid (tByte g)
  clear hA
  unfold bPtr at *
  go_enter Tryz.func175, Tryz.ntmps175
  go_wp2_with fail
  go_loopw [1, 7] (fun x i wr => ∃ j : Nat, j ≤ k ∧ i = .int .i64 j ∧ x = .int .i64 (n / 256 ^ j) ∧ Hid (Own w O wr (aN g (l ++ numZ j n)))) (fun _ i _ => k - (intOf i).toNat)
  case atStart => exact ⟨0, Nat.zero_le _, rfl, by simp, by simpa [numZ] using S⟩
  case round =>
    clear S
    obtain ⟨j, hj, rfl, rfl, S⟩ := hrel
    by_cases hlt : j < k
    · have hsn := numZ_snoc j n
      have hnx : n / 256 ^ (j + 1) = n / 256 ^ j / 256 := by rw [Int.pow_succ, Int.ediv_ediv_of_nonneg (Int.le_of_lt (Int.pow_pos (by decide)))]
      have hll : (l ++ numZ j n).length < 140737488355328 := by rw [List.length_append, numZ_length]; omega
      generalize n / 256 ^ j = x at *
      have HC := Lib.hid (HB.out (l ++ numZ j n) (x % 256) (by omega) (by omega) hll)
      have e2 : l ++ numZ j n ++ [UInt8.ofNat (x % 256).toNat] = l ++ numZ (j + 1) n := by
        rw [hsn, List.append_assoc]
      have HNX := Lib.hid hnx
      rw [e2] at HC
      clear hsn hnx e2 hll
      go_wp2_with fail
      refine (S.out.call HC.out).mono ?_
      rintro e w2 ⟨rfl, h2⟩
      have S2 := Lib.hid h2
      clear h2 S HC
      go_wp2_with fail
      go_round
      case rel => exact ⟨j + 1, by omega, by go_num, by rw [HNX.out], S2⟩
      case measure => simp [intOf]; omega
    · obtain rfl : j = k := by omega
      go_wp2_with fail
      go_end0
      exact ⟨rfl, S.out⟩
theorem tNum (g : Nat) (l : By) (n k : Nat) (hl : l.length + k < 140737488355328) :
    Tr Tryz.prog 175 #[bPtr g, .int .i64 n, .int .i64 k] (aN g l) (.tuple #[]) (aN g (l ++ numL k n)) := by
  have := tNumZ g l n k hl
  rw [numZ_nat] at this
  exact this
theorem tNumI (g : Nat) (l : By) (n : Int) (k : Nat) (hl : l.length + k < 140737488355328) (h0 : 0 ≤ n) :
    Tr Tryz.prog 175 #[bPtr g, .int .i64 n, .int .i64 k] (aN g l) (.tuple #[]) (aN g (l ++ numI k n)) := by
  have := tNumZ g l n k hl
  rw [numZ_I k n h0] at this
  exact this
set_option maxHeartbeats 1000000 in
theorem tFlag (g : Nat) (l : By) (b : Bool) (hl : l.length < 140737488355328) :
    Tr Tryz.prog 176 #[bPtr g, .bool b] (aN g l) (.tuple #[]) (aN g (l ++ flagL b)) := by
  intro w O hA
  have S := Lib.hid (Own.start hA)
  have H1 := Lib.hid (tByte g l (if b then 1 else 0) (by split <;> decide) (by split <;> decide) hl)
  have e : [UInt8.ofNat (if b then (1 : Int) else 0).toNat] = flagL b := by cases b <;> rfl
  rw [e] at H1
  generalize flagL b = q at *
  clear hA e
  unfold bPtr at *
  cases b
  all_goals
    go_enter Tryz.func176, Tryz.ntmps176
    go_wp2_with fail
    refine (S.out.call (H1.out)).mono ?_
    rintro e w1 ⟨rfl, hX⟩
    have S1 := Lib.hid hX
    clear hX S 
    go_wp2_with fail
    go_end0
    exact ⟨rfl, S1.out⟩
set_option maxHeartbeats 1000000 in
theorem tLen (g : Nat) (l : By) :
    Tr Tryz.prog 178 #[bPtr g] (aN g l) (.int .i64 l.length) (aN g l) := by
  intro w O hA
  obtain ⟨⟨q, v⟩, hA⟩ := hA
  have S := Lib.hid (Own.start hA)
  have hv := S.out.vecR
  obtain ⟨A, c, rfl⟩ := hv.slice
  obtain ⟨c0, c1, f0, f1⟩ := blk_cells (S.out.has (Has.l (has_blk _ _ _)))
  clear hA hv
  unfold bPtr at *
  go_enter Tryz.func178, Tryz.ntmps178
  go_wp2_with fail
  go_returns
  exact ⟨rfl, Own.exMk (q, .slice A l.length c) S.out⟩
set_option maxHeartbeats 1000000 in
theorem tZeros (g : Nat) (l : By) (k : Nat) (hl : l.length + k < 140737488355328) :
    Tr Tryz.prog 153 #[bPtr g, .int .i64 k] (aN g l) (.tuple #[]) (aN g (l ++ List.replicate (k - l.length) 0)) := by
  intro w O hA
  have S := Lib.hid (Own.start hA)
  have HB := Lib.hid (fun l => tByte g l 0 (by decide) (by decide))
  have HL := Lib.hid (tLen g)
  clear hA
  unfold bPtr at *
  go_enter Tryz.func153, Tryz.ntmps153
  go_wp2_with fail
  have HE : ∀ j, l ++ List.replicate j (0 : UInt8) ++ [0] = l ++ List.replicate (j + 1) 0 := fun j => by rw [List.append_assoc, List.replicate_succ']
  have hZ : ∀ j, (l ++ List.replicate j (0 : UInt8)).length = l.length + j := fun j => by rw [List.length_append, List.length_replicate]
  have HE' := Lib.hid HE
  have HZ := Lib.hid hZ
  clear HE hZ
  go_loopg [7] (k - l.length) (fun gk _ wr => ∃ j : Nat, gk = k - l.length - j ∧ j ≤ k - l.length ∧ Hid (Own w O wr (aN g (l ++ List.replicate j 0))))
  case atStart => exact ⟨0, by omega, Nat.zero_le _, by simpa using S⟩
  case round =>
    clear S
    obtain ⟨j, hgk, hj, S⟩ := hrel
    have T := HL.out (l ++ List.replicate j 0)
    have T2 := HB.out (l ++ List.replicate j 0)
    rw [show [UInt8.ofNat (Int.toNat 0)] = [(0 : UInt8)] from rfl, HE'.out j] at T2
    rw [HZ.out j] at T T2
    have T' := Lib.hid T
    have T2' := Lib.hid T2
    clear T T2
    by_cases hlt : l.length + j < k
    · go_wp2_with fail
      refine (S.out.call (T'.out)).mono ?_
      rintro e w1 ⟨rfl, hX⟩
      have S1 := Lib.hid hX
      clear hX S 
      go_wp2_with fail
      refine (S1.out.call (T2'.out (by omega))).mono ?_
      rintro e w2 ⟨rfl, hX⟩
      have S2 := Lib.hid hX
      clear hX S1 
      go_wp2_with fail
      go_roundg (k - l.length - (j + 1))
      case measure => omega
      case rel => exact ⟨j + 1, rfl, by omega, S2⟩
    · go_wp2_with fail
      refine (S.out.call (T'.out)).mono ?_
      rintro e w1 ⟨rfl, hX⟩
      have S1 := Lib.hid hX
      clear hX S 
      obtain rfl : j = k - l.length := by omega
      go_wp2_with fail
      go_end0
      exact ⟨rfl, S1.out⟩
theorem entCell {w : World} {g : Nat} {e : Ent} (h : Blk w g 84 (entCells e)) : w.cell? ⟨g, 0, none⟩ = some (.string (ofL e.key)) ∧ w.cell? ⟨g, 1, none⟩ = some (.string (ofL e.val)) ∧ w.cell? ⟨g, 2, none⟩ = some (.bool e.ghost) := ent_cells h
set_option maxRecDepth 100000 in
set_option maxHeartbeats 1000000 in
theorem tEntry (g : Nat) (l : By) (e : Ent) (hl : l.length < 100000) (hk : e.key.length = 9) (hv : e.val.length ≤ 100) :
    Tr Tryz.prog 177 #[bPtr g, .agg (entCells e)] (aN g l) (.tuple #[]) (aN g (l ++ bEnt e)) := by
  intro w O hA
  have S := Lib.hid ((Own.start hA).alloc (entCells e) 84)
  have H1 := Lib.hid (tStr g l e.key (by omega))
  have H2 := Lib.hid (tFlag g (l ++ e.key) e.ghost (by rw [List.length_append]; omega))
  have H3 := Lib.hid (tNum g (l ++ e.key ++ flagL e.ghost) e.val.length 1 (by simp only [List.length_append, flag_len]; omega))
  have H4 := Lib.hid (tStr g (l ++ e.key ++ flagL e.ghost ++ numL 1 e.val.length) e.val (by simp only [List.length_append, flag_len, numL_length]; omega))
  rw [show l ++ e.key ++ flagL e.ghost ++ numL 1 e.val.length ++ e.val = l ++ bEnt e by simp only [bEnt, List.append_assoc]] at H4
  have hz : e.val.length = (ofL e.val).size := rfl
  have hz2 : e.key.length = (ofL e.key).size := rfl
  generalize bEnt e = be at *
  generalize l ++ e.key ++ flagL e.ghost ++ numL 1 e.val.length = l3 at *
  generalize l ++ e.key ++ flagL e.ghost = l2 at *
  generalize l ++ e.key = l1 at *
  rw [hz] at H3 H4
  rw [hz2] at H1
  clear hA hk hv hl hz hz2
  unfold entCells at *
  generalize ofL e.key = x at *
  generalize ofL e.val = y at *
  unfold bPtr at *
  go_enter Tryz.func177, Tryz.ntmps177
  go_wp2_with fail
  obtain ⟨ge, hgz⟩ : ∃ g, g = w.heap.size := ⟨_, rfl⟩
  rw [← hgz] at S ⊢
  clear hgz
  generalize w.alloc _ = w1 at *
  obtain ⟨c0, -, -⟩ := ent_cells (S.out.has (Has.l (has_blk _ _ _)))
  go_wp2_with fail
  refine wp_region_still_tail 5 (by kernel_rfl) (by kernel_rfl) ?_
  simp only [List.take_succ_cons, List.take_zero, List.drop_succ_cons, List.drop_zero]
  change wpStill _ _ w1.drew _ _ _
  repeat still_step
  refine wpStill_nil ?_
  change wpList _ _ _ _ _ w1.drew
  have Sd := Lib.hid S.out.drew
  clear S c0
  generalize w1.drew = w1d at *
  go_wp2_with fail
  refine (Sd.out.call (H1.out.r)).mono ?_
  rintro e w2 ⟨rfl, hX⟩
  have S2 := Lib.hid hX
  clear hX Sd 
  obtain ⟨-, -, c2⟩ := ent_cells (S2.out.has (Has.l (has_blk _ _ _)))
  go_wp2_with fail
  refine (S2.out.call (H2.out.r)).mono ?_
  rintro e w3 ⟨rfl, hX⟩
  have S3 := Lib.hid hX
  clear hX S2 c2
  obtain ⟨-, c1, -⟩ := ent_cells (S3.out.has (Has.l (has_blk _ _ _)))
  go_wp2_with fail
  refine (S3.out.call (H3.out.r)).mono ?_
  rintro e w4 ⟨rfl, hX⟩
  have S4 := Lib.hid hX
  clear hX S3 c1
  obtain ⟨-, c1, -⟩ := ent_cells (S4.out.has (Has.l (has_blk _ _ _)))
  go_wp2_with fail
  refine wp_region_still_tail 5 (by kernel_rfl) (by kernel_rfl) ?_
  simp only [List.take_succ_cons, List.take_zero, List.drop_succ_cons, List.drop_zero]
  change wpStill _ _ w4.drew _ _ _
  repeat still_step
  refine wpStill_nil ?_
  change wpList _ _ _ _ _ w4.drew
  have S5 := Lib.hid S4.out.drew
  clear S4 c1
  generalize w4.drew = w5 at *
  go_wp2_with fail
  refine (S5.out.call (H4.out.r)).mono ?_
  rintro e w6 ⟨rfl, hX⟩
  have S6 := Lib.hid hX
  clear hX S5 
  go_wp2_with fail
  go_end0
  exact ⟨rfl, S6.out.right⟩
end Go.Proofs.YtmnfoafpjmlbfaaGreatDoor.Nd
