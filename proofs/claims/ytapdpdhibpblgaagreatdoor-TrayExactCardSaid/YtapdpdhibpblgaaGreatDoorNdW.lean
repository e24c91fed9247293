/- Texts of ours, joined. -/
import Derived.Test.YtapdpdhibpblgaaGreatDoorCrC
import Derived.Test.YtapdpdhibpblgaaGreatDoorBld
import Derived.Deep.LoopGhost
import Derived.Deep.CutBlock

-- joined
section
namespace Go.Proofs.YtapdpdhibpblgaaGreatDoor.Nd
open Go.ChangeShapes Go.WideShapes Go.ChangeAt Go.RowKit Go.PlainAid Aid Cr Nt
set_option linter.unusedVariables false
set_option linter.unusedSimpArgs false
/-- A number's lowest bytes, any number's. -/
def numZ : Nat → Int → By
  | 0, _ => []
  | k + 1, n => UInt8.ofNat (n % 256).toNat :: numZ k (n / 256)
theorem numZ_length (k : Nat) (n : Int) : (numZ k n).length = k := by
  induction k generalizing n with
  | zero => rfl
  | succ k ih => simp [numZ, ih]
theorem numZ_nat (k n : Nat) : numZ k (n : Int) = numL k n := by
  induction k generalizing n with
  | zero => rfl
  | succ k ih =>
    have e1 : ((n : Int) % 256).toNat = n % 256 := by omega
    have e2 : (n : Int) / 256 = ((n / 256 : Nat) : Int) := by omega
    rw [numZ, e1, e2, ih]; rfl
theorem numZ_I (k : Nat) (n : Int) (h : 0 ≤ n) : numZ k n = numI k n := by
  unfold numI; rw [← numZ_nat, Int.toNat_of_nonneg h]
theorem numZ_snoc (k : Nat) (n : Int) : numZ (k + 1) n = numZ k n ++ [UInt8.ofNat (n / 256 ^ k % 256).toNat] := by
  induction k generalizing n with
  | zero => simp [numZ]
  | succ k ih =>
    rw [numZ, ih (n / 256), numZ, List.cons_append, Int.ediv_ediv_of_nonneg (by decide), Int.pow_succ, Int.mul_comm 256]
theorem bldW : BldT 203 := by unfold BldT; kernel_rfl
def aN (g : Nat) (l : By) : Asn := aBld 203 g l
theorem tByte (g : Nat) (l : By) (c : Int) (h0 : 0 ≤ c) (h1 : c < 256) (hl : l.length < 140737488355328) :
    Tr Tryz.prog 109 #[bPtr g, .int .u8 c] (aN g l) .nilIface (aN g (l ++ [UInt8.ofNat c.toNat])) := by
  have e : (UInt8.ofNat c.toNat).toNat = c.toNat := by simp; omega
  have := bWriteByte 203 bldW g l (UInt8.ofNat c.toNat) hl
  rw [e, Int.toNat_of_nonneg h0] at this
  exact this
theorem tStr (g : Nat) (l s : By) (hl : l.length + s.length ≤ 140737488355328) :
    Tr Tryz.prog 111 #[bPtr g, .string (ofL s)] (aN g l) (.tuple #[.int .i64 s.length, .nilIface]) (aN g (l ++ s)) := bWriteString 203 bldW g l s hl
set_option maxHeartbeats 1000000 in
theorem tNumZ (g : Nat) (l : By) (n : Int) (k : Nat) (hl : l.length + k < 140737488355328) :
    Tr Tryz.prog 168 #[bPtr g, .int .i64 n, .int .i64 k] (aN g l) (.tuple #[]) (aN g (l ++ numZ k n)) := by
  intro w O hA
  have S := Lib.hid (Own.start hA)
  have HB := Lib.hid (tByte g)
  clear hA
  unfold bPtr at *
  go_enter Tryz.func168, Tryz.ntmps168
  go_wp2_with fail
  go_loopw [1, 7] (fun x i wr => ∃ j : Nat, j ≤ k ∧ i = .int .i64 j ∧ x = .int .i64 (n / 256 ^ j) ∧ Hid (Own w O wr (aN g (l ++ numZ j n)))) (fun _ i _ => k - (intOf i).toNat)
  case atStart => exact ⟨0, Nat.zero_le _, rfl, by simp, by simpa [numZ] using S⟩
  case round =>
    clear S
    obtain ⟨j, hj, rfl, rfl, S⟩ := hrel
    by_cases hlt : j < k
    · have hsn := numZ_snoc j n
      have hnx : n / 256 ^ (j + 1) = n / 256 ^ j / 256 := by rw [Int.pow_succ, Int.ediv_ediv_of_nonneg (Int.le_of_lt (Int.pow_pos (by decide)))]
      have hll : (l ++ numZ j n).length < 140737488355328 := by rw [List.length_append, numZ_length]; omega
      generalize n / 256 ^ j = x at *
      have HC := Lib.hid (HB.out (l ++ numZ j n) (x % 256) (by omega) (by omega) hll)
      have e2 : l ++ numZ j n ++ [UInt8.ofNat (x % 256).toNat] = l ++ numZ (j + 1) n := by
        rw [hsn, List.append_assoc]
      have HNX := Lib.hid hnx
      rw [e2] at HC
      clear hsn hnx e2 hll
      go_wp2_with fail
      refine (S.out.call HC.out).mono ?_
      rintro e w2 ⟨rfl, h2⟩
      have S2 := Lib.hid h2
      clear h2 S HC
      go_wp2_with fail
      go_round
      case rel => exact ⟨j + 1, by omega, by go_num, by rw [HNX.out], S2⟩
      case measure => simp [intOf]; omega
    · obtain rfl : j = k := by omega
      go_wp2_with fail
      go_end0
      exact ⟨rfl, S.out⟩
theorem tNum (g : Nat) (l : By) (n k : Nat) (hl : l.length + k < 140737488355328) :
    Tr Tryz.prog 168 #[bPtr g, .int .i64 n, .int .i64 k] (aN g l) (.tuple #[]) (aN g (l ++ numL k n)) := by
  have := tNumZ g l n k hl
  rw [numZ_nat] at this
  exact this
theorem tNumI (g : Nat) (l : By) (n : Int) (k : Nat) (hl : l.length + k < 140737488355328) (h0 : 0 ≤ n) :
    Tr Tryz.prog 168 #[bPtr g, .int .i64 n, .int .i64 k] (aN g l) (.tuple #[]) (aN g (l ++ numI k n)) := by
  have := tNumZ g l n k hl
  rw [numZ_I k n h0] at this
  exact this
set_option maxHeartbeats 1000000 in
theorem tFlag (g : Nat) (l : By) (b : Bool) (hl : l.length < 140737488355328) :
    Tr Tryz.prog 169 #[bPtr g, .bool b] (aN g l) (.tuple #[]) (aN g (l ++ flagL b)) := by
  intro w O hA
  have S := Lib.hid (Own.start hA)
  have H1 := Lib.hid (tByte g l (if b then 1 else 0) (by split <;> decide) (by split <;> decide) hl)
  have e : [UInt8.ofNat (if b then (1 : Int) else 0).toNat] = flagL b := by cases b <;> rfl
  rw [e] at H1
  generalize flagL b = q at *
  clear hA e
  unfold bPtr at *
  cases b
  all_goals
    go_enter Tryz.func169, Tryz.ntmps169
    go_wp2_with fail
    refine (S.out.call (H1.out)).mono ?_
    rintro e w1 ⟨rfl, hX⟩
    have S1 := Lib.hid hX
    clear hX S 
    go_wp2_with fail
    go_end0
    exact ⟨rfl, S1.out⟩
set_option maxHeartbeats 1000000 in
theorem tLen (g : Nat) (l : By) :
    Tr Tryz.prog 171 #[bPtr g] (aN g l) (.int .i64 l.length) (aN g l) := by
  intro w O hA
  obtain ⟨⟨q, v⟩, hA⟩ := hA
  have S := Lib.hid (Own.start hA)
  have hv := S.out.vecR
  obtain ⟨A, c, rfl⟩ := hv.slice
  obtain ⟨c0, c1, f0, f1⟩ := blk_cells (S.out.has (Has.l (has_blk _ _ _)))
  clear hA hv
  unfold bPtr at *
  go_enter Tryz.func171, Tryz.ntmps171
  go_wp2_with fail
  go_returns
  exact ⟨rfl, Own.exMk (q, .slice A l.length c) S.out⟩
set_option maxHeartbeats 1000000 in
theorem tZeros (g : Nat) (l : By) (k : Nat) (hl : l.length + k < 140737488355328) :
    Tr Tryz.prog 146 #[bPtr g, .int .i64 k] (aN g l) (.tuple #[]) (aN g (l ++ List.replicate (k - l.length) 0)) := by
  intro w O hA
  have S := Lib.hid (Own.start hA)
  have HB := Lib.hid (fun l => tByte g l 0 (by decide) (by decide))
  have HL := Lib.hid (tLen g)
  clear hA
  unfold bPtr at *
  go_enter Tryz.func146, Tryz.ntmps146
  go_wp2_with fail
  have HE : ∀ j, l ++ List.replicate j (0 : UInt8) ++ [0] = l ++ List.replicate (j + 1) 0 := fun j => by rw [List.append_assoc, List.replicate_succ']
  have hZ : ∀ j, (l ++ List.replicate j (0 : UInt8)).length = l.length + j := fun j => by rw [List.length_append, List.length_replicate]
  have HE' := Lib.hid HE
  have HZ := Lib.hid hZ
  clear HE hZ
  go_loopg [7] (k - l.length) (fun gk _ wr => ∃ j : Nat, gk = k - l.length - j ∧ j ≤ k - l.length ∧ Hid (Own w O wr (aN g (l ++ List.replicate j 0))))
  case atStart => exact ⟨0, by omega, Nat.zero_le _, by simpa using S⟩
  case round =>
    clear S
    obtain ⟨j, hgk, hj, S⟩ := hrel
    have T := HL.out (l ++ List.replicate j 0)
    have T2 := HB.out (l ++ List.replicate j 0)
    rw [show [UInt8.ofNat (Int.toNat 0)] = [(0 : UInt8)] from rfl, HE'.out j] at T2
    rw [HZ.out j] at T T2
    have T' := Lib.hid T
    have T2' := Lib.hid T2
    clear T T2
    by_cases hlt : l.length + j < k
    · go_wp2_with fail
      refine (S.out.call (T'.out)).mono ?_
      rintro e w1 ⟨rfl, hX⟩
      have S1 := Lib.hid hX
      clear hX S 
      go_wp2_with fail
      refine (S1.out.call (T2'.out (by omega))).mono ?_
      rintro e w2 ⟨rfl, hX⟩
      have S2 := Lib.hid hX
      clear hX S1 
      go_wp2_with fail
      go_roundg (k - l.length - (j + 1))
      case measure => omega
      case rel => exact ⟨j + 1, rfl, by omega, S2⟩
    · go_wp2_with fail
      refine (S.out.call (T'.out)).mono ?_
      rintro e w1 ⟨rfl, hX⟩
      have S1 := Lib.hid hX
      clear hX S 
      obtain rfl : j = k - l.length := by omega
      go_wp2_with fail
      go_end0
      exact ⟨rfl, S1.out⟩
theorem entCell {w : World} {g : Nat} {e : Ent} (h : Blk w g 83 (entCells e)) : w.cell? ⟨g, 0, none⟩ = some (.string (ofL e.key)) ∧ w.cell? ⟨g, 1, none⟩ = some (.string (ofL e.val)) ∧ w.cell? ⟨g, 2, none⟩ = some (.bool e.ghost) := ent_cells h
set_option maxRecDepth 100000 in
set_option maxHeartbeats 1000000 in
theorem tEntry (g : Nat) (l : By) (e : Ent) (hl : l.length < 100000) (hk : e.key.length = 9) (hv : e.val.length ≤ 100) :
    Tr Tryz.prog 170 #[bPtr g, .agg (entCells e)] (aN g l) (.tuple #[]) (aN g (l ++ bEnt e)) := by
  intro w O hA
  have S := Lib.hid ((Own.start hA).alloc (entCells e) 83)
  have H1 := Lib.hid (tStr g l e.key (by omega))
  have H2 := Lib.hid (tFlag g (l ++ e.key) e.ghost (by rw [List.length_append]; omega))
  have H3 := Lib.hid (tNum g (l ++ e.key ++ flagL e.ghost) e.val.length 1 (by simp only [List.length_append, flag_len]; omega))
  have H4 := Lib.hid (tStr g (l ++ e.key ++ flagL e.ghost ++ numL 1 e.val.length) e.val (by simp only [List.length_append, flag_len, numL_length]; omega))
  rw [show l ++ e.key ++ flagL e.ghost ++ numL 1 e.val.length ++ e.val = l ++ bEnt e by simp only [bEnt, List.append_assoc]] at H4
  have hz : e.val.length = (ofL e.val).size := rfl
  have hz2 : e.key.length = (ofL e.key).size := rfl
  generalize bEnt e = be at *
  generalize l ++ e.key ++ flagL e.ghost ++ numL 1 e.val.length = l3 at *
  generalize l ++ e.key ++ flagL e.ghost = l2 at *
  generalize l ++ e.key = l1 at *
  rw [hz] at H3 H4
  rw [hz2] at H1
  clear hA hk hv hl hz hz2
  unfold entCells at *
  generalize ofL e.key = x at *
  generalize ofL e.val = y at *
  unfold bPtr at *
  go_enter Tryz.func170, Tryz.ntmps170
  go_wp2_with fail
  obtain ⟨ge, hgz⟩ : ∃ g, g = w.heap.size := ⟨_, rfl⟩
  rw [← hgz] at S ⊢
  clear hgz
  generalize w.alloc _ = w1 at *
  obtain ⟨c0, -, -⟩ := ent_cells (S.out.has (Has.l (has_blk _ _ _)))
  go_wp2_with fail
  refine wp_region_still_tail 5 (by kernel_rfl) (by kernel_rfl) ?_
  simp only [List.take_succ_cons, List.take_zero, List.drop_succ_cons, List.drop_zero]
  change wpStill _ _ w1.drew _ _ _
  repeat still_step
  refine wpStill_nil ?_
  change wpList _ _ _ _ _ w1.drew
  have Sd := Lib.hid S.out.drew
  clear S c0
  generalize w1.drew = w1d at *
  go_wp2_with fail
  refine (Sd.out.call (H1.out.r)).mono ?_
  rintro e w2 ⟨rfl, hX⟩
  have S2 := Lib.hid hX
  clear hX Sd 
  obtain ⟨-, -, c2⟩ := ent_cells (S2.out.has (Has.l (has_blk _ _ _)))
  go_wp2_with fail
  refine (S2.out.call (H2.out.r)).mono ?_
  rintro e w3 ⟨rfl, hX⟩
  have S3 := Lib.hid hX
  clear hX S2 c2
  obtain ⟨-, c1, -⟩ := ent_cells (S3.out.has (Has.l (has_blk _ _ _)))
  go_wp2_with fail
  refine (S3.out.call (H3.out.r)).mono ?_
  rintro e w4 ⟨rfl, hX⟩
  have S4 := Lib.hid hX
  clear hX S3 c1
  obtain ⟨-, c1, -⟩ := ent_cells (S4.out.has (Has.l (has_blk _ _ _)))
  go_wp2_with fail
  refine wp_region_still_tail 5 (by kernel_rfl) (by kernel_rfl) ?_
  simp only [List.take_succ_cons, List.take_zero, List.drop_succ_cons, List.drop_zero]
  change wpStill _ _ w4.drew _ _ _
  repeat still_step
  refine wpStill_nil ?_
  change wpList _ _ _ _ _ w4.drew
  have S5 := Lib.hid S4.out.drew
  clear S4 c1
  generalize w4.drew = w5 at *
  go_wp2_with fail
  refine (S5.out.call (H4.out.r)).mono ?_
  rintro e w6 ⟨rfl, hX⟩
  have S6 := Lib.hid hX
  clear hX S5 
  go_wp2_with fail
  go_end0
  exact ⟨rfl, S6.out.right⟩
end Go.Proofs.YtapdpdhibpblgaaGreatDoor.Nd
end

-- joined
section
namespace Go.Proofs.YtapdpdhibpblgaaGreatDoor.Nd
open Go.ChangeShapes Go.WideShapes Go.ChangeAt Go.RowKit Go.PlainAid Aid Cr Nt
set_option linter.unusedVariables false
set_option linter.unusedSimpArgs false
set_option maxRecDepth 100000 in
set_option maxHeartbeats 4000000 in
theorem goodList_any (n : Nod) (v : Value) (w : World) (hv : NodAt w v n) :
    Calls Tryz.prog 142 #[v] w fun e w' => e = .returned (.bool (gList n)) ∧ Below w.heap.size w w' := by
  obtain ⟨p, rfl, hp⟩ := hv
  obtain ⟨A1, m1, rfl⟩ := hp.slice
  have hm1 := hp.len.2
  unfold maxLen at hm1
  have S := Lib.hid ((Own.none w).alloc (nodCells n (.slice A1 n.list.length m1)) 31).left
  have HP := Lib.hid hp
  have HC := Lib.hid (fun k w => Covers_any n (.slice A1 n.list.length m1) k w)
  have HE := Lib.hid (fun e w => goodEntry_any e n.level w)
  clear hp
  unfold nodCells at *
  unfold entCells at HE
  go_enter Tryz.func142, Tryz.ntmps142
  go_upto_region 1 with fail
  obtain ⟨g, hgz⟩ : ∃ g, g = w.heap.size := ⟨_, rfl⟩
  rw [← hgz] at S ⊢
  clear hgz
  generalize w.alloc _ = w1 at *
  obtain ⟨-, -, -, -, -, -, c6⟩ := nod_cells (S.out.has (has_blk _ _ _))
  by_cases h1 : 100 < n.list.length
  · have hr : Hid (gList n = false) := Lib.hid (by unfold gList; rw [decide_eq_false (by omega)]; rfl)
    go_wp2_with fail
    go_returns
    exact ⟨ret_bool hr.out.symm, S.out.bel⟩
  have hr : gTo n n.list.length = gList n := by unfold gList; rw [decide_eq_true (by omega), Bool.true_and]
  have HR := Lib.hid hr
  clear hr
  go_wp2_with fail
  clear c6
  go_loopw [13] (fun i wr => ∃ k : Nat, k ≤ n.list.length ∧ i = .int .i64 k ∧ Hid (gTo n k = true) ∧ Hid (Own w No wr (Asn.blk g 31 (nodCells n (.slice A1 n.list.length m1))))) (fun i _ => n.list.length - (intOf i).toNat)
  case atStart => exact ⟨0, Nat.zero_le _, rfl, Lib.hid rfl, S⟩
  case round =>
    clear S
    obtain ⟨k, hk, rfl, hG, X⟩ := hrel
    by_cases hlt : k < n.list.length
    · obtain ⟨x, hx⟩ : ∃ x, n.list[k]? = some x := ⟨n.list[k]'(by omega), List.getElem?_eq_getElem _⟩
      obtain ⟨b, o, rfl, hbl, a0, a1, a2⟩ := (HP.out.keep X.out.bel).at hx
      have X1 := Lib.hid (X.out.alloc (entCells x) 83)
      have hst := gTo_step n k x hx
      have hf : gAt n k x = false → gList n = false := fun h => by
        rw [← HR.out]; exact gTo_false n (k + 1) _ (by rw [hst, h, Bool.and_false]) (by omega)
      rw [hG.out, Bool.true_and] at hst
      have HST := Lib.hid hst
      have HF := Lib.hid hf
      have HX := Lib.hid hx
      clear hst hf hx X
      unfold entCells at *
      unfold nodCells at *
      have hq : ∃ q, q = rise n.list k x := ⟨_, rfl⟩
      obtain ⟨q, hq⟩ := hq
      have hga : gAt n k x = (q && (cov n x.key && gEnt n.level x)) := by rw [hq]; rfl
      rw [hga] at HST HF
      clear hga
      have E1 := Lib.hid (HC.out x.key)
      have E2 := Lib.hid (HE.out x)
      have rest : Hid (Own w No (wr.alloc (.cells #[.string (ofL x.key), .string (ofL x.val), .bool x.ghost] 83)) (Asn.blk wr.heap.size 83 #[.string (ofL x.key), .string (ofL x.val), .bool x.ghost] * Asn.blk g 31 #[.int .i64 n.tree, .int .i64 n.level, .int .i64 n.stamp, .bool n.has, .string (ofL n.high), .int .i64 n.right, .slice (some ⟨b, o, none⟩) n.list.length m1])) := X1
      clear X1
      go_upto_region 6 with fail
      obtain ⟨ge, hgz⟩ : ∃ g, g = wr.heap.size := ⟨_, rfl⟩
      rw [← hgz] at rest ⊢
      clear hgz
      generalize wr.alloc _ = w2 at *
      obtain ⟨e0, e1, e2⟩ := ent_cells (rest.out.has (Has.l (has_blk _ _ _)))
      obtain ⟨c0, c1, c2, c3, c4, c5, c6⟩ := nod_cells (rest.out.has (Has.r (has_blk _ _ _)))
      cases k with
      | zero =>
        obtain rfl : q = true := hq
        go_wp2_with fail
        go_quiet (fail)
        have Y := Lib.hid (rest.out.drewN nq)
        clear rest e0 e1 e2 c0 c1 c2 c3 c4 c5 c6
        generalize w2.drewN nq = w3 at *
        obtain ⟨e0, e1, e2⟩ := ent_cells (Y.out.has (Has.l (has_blk _ _ _)))
        obtain ⟨c0, c1, c2, c3, c4, c5, c6⟩ := nod_cells (Y.out.has (Has.r (has_blk _ _ _)))
        go_wp2_with fail
        refine (E1.out _).mono ?_
        rintro e w4 ⟨rfl, hX⟩
        have Z := Lib.hid (Y.out.below hX)
        clear hX Y e0 e1 e2 c0 c1 c2 c3 c4 c5 c6
        generalize cov n x.key = q2 at *
        cases q2
        · go_wp2_with fail
          go_returns
          exact ⟨ret_bool (HF.out rfl).symm, Z.out.bel⟩
        obtain ⟨e0, e1, e2⟩ := ent_cells (Z.out.has (Has.l (has_blk _ _ _)))
        obtain ⟨c0, c1, c2, c3, c4, c5, c6⟩ := nod_cells (Z.out.has (Has.r (has_blk _ _ _)))
        go_wp2_with fail
        refine (E2.out _).mono ?_
        rintro e w5 ⟨rfl, hX⟩
        have V := Lib.hid (Z.out.below hX)
        clear hX Z e0 e1 e2 c0 c1 c2 c3 c4 c5 c6
        generalize gEnt n.level x = q3 at *
        cases q3
        · go_wp2_with fail
          go_returns
          exact ⟨ret_bool (HF.out rfl).symm, V.out.bel⟩
        go_wp2_with fail
        go_roundw
        case rel => exact ⟨0 + 1, by omega, by go_num, Lib.hid (by rw [HST.out]; rfl), Lib.hid V.out.right⟩
        case measure => simp [intOf]; omega
      | succ j =>
        obtain ⟨y, hy⟩ : ∃ y, n.list[j]? = some y := ⟨n.list[j]'(by omega), List.getElem?_eq_getElem _⟩
        obtain ⟨d0, d1, d2⟩ := (HP.out.keep rest.out.bel).at' hy
        have hq2 : q = lt y.key x.key := by rw [hq, rise, hy]
        have hl := less y.key x.key
        rw [← hq2] at hl
        have hjj : IntKind.i64.wrap (j : Int) = (j : Int) := by rw [IntKind.wrap_i64]; omega
        have hj0 : (0 : Int) ≤ (j : Int) := by omega
        have hj1 : (j : Int) < (n.list.length : Int) := by omega
        have hj2 : ((j : Int)).toNat = j := rfl
        clear hq hq2 hy
        go_wp2_with fail
        go_quiet (fail)
        have Y := Lib.hid (rest.out.drewN nq)
        clear rest e0 e1 e2 c0 c1 c2 c3 c4 c5 c6 d0 d1 d2
        generalize w2.drewN nq = w3 at *
        clear hl
        cases q
        · go_wp2_with fail
          go_returns
          exact ⟨ret_bool (HF.out rfl).symm, Y.out.bel⟩
        obtain ⟨e0, e1, e2⟩ := ent_cells (Y.out.has (Has.l (has_blk _ _ _)))
        obtain ⟨c0, c1, c2, c3, c4, c5, c6⟩ := nod_cells (Y.out.has (Has.r (has_blk _ _ _)))
        go_wp2_with fail
        refine (E1.out _).mono ?_
        rintro e w4 ⟨rfl, hX⟩
        have Z := Lib.hid (Y.out.below hX)
        clear hX Y e0 e1 e2 c0 c1 c2 c3 c4 c5 c6
        generalize cov n x.key = q2 at *
        cases q2
        · go_wp2_with fail
          go_returns
          exact ⟨ret_bool (HF.out rfl).symm, Z.out.bel⟩
        obtain ⟨e0, e1, e2⟩ := ent_cells (Z.out.has (Has.l (has_blk _ _ _)))
        obtain ⟨c0, c1, c2, c3, c4, c5, c6⟩ := nod_cells (Z.out.has (Has.r (has_blk _ _ _)))
        go_wp2_with fail
        refine (E2.out _).mono ?_
        rintro e w5 ⟨rfl, hX⟩
        have V := Lib.hid (Z.out.below hX)
        clear hX Z e0 e1 e2 c0 c1 c2 c3 c4 c5 c6
        generalize gEnt n.level x = q3 at *
        cases q3
        · go_wp2_with fail
          go_returns
          exact ⟨ret_bool (HF.out rfl).symm, V.out.bel⟩
        go_wp2_with fail
        go_roundw
        case rel => exact ⟨j + 1 + 1, by omega, by go_num, Lib.hid (by rw [HST.out]; rfl), Lib.hid V.out.right⟩
        case measure => simp [intOf]; omega
    · obtain rfl : k = n.list.length := by omega
      have h1 := hG.out
      rw [HR.out] at h1
      have H1 := Lib.hid h1
      clear h1
      go_wp2_with fail
      go_returns
      exact ⟨ret_bool H1.out.symm, X.out.bel⟩
set_option maxRecDepth 100000 in
set_option maxHeartbeats 4000000 in
theorem Good_any (n : Nod) (v : Value) (w : World) (hv : NodAt w v n) :
    Calls Tryz.prog 114 #[v] w fun e w' => e = .returned (.bool (goodB n)) ∧ Below w.heap.size w w' := by
  have HL : Hid (∀ w', Below w.heap.size w w' → _) := Lib.hid (fun w' (hb : Below w.heap.size w w') => goodList_any n v w' (hv.keep hb))
  obtain ⟨p, rfl, hp⟩ := hv
  have HH := Lib.hid (fun w => goodHigh_any n p w)
  obtain ⟨R, hR⟩ : ∃ R, R = goodB n := ⟨_, rfl⟩
  rw [← hR]
  unfold goodB at hR
  have e1 := fun w => within_any n.tree 255 w
  have e2 := fun w => within_any n.level 12 w
  have e3 := fun w => within_any n.stamp 2147483647 w
  have e4 := fun w => within_any n.right 255 w
  have S := Lib.hid ((Own.none w).alloc (nodCells n p) 31).left
  generalize inN n.tree 255 = b1 at *
  generalize inN n.level 12 = b2 at *
  generalize inN n.stamp 2147483647 = b3 at *
  generalize inN n.right 255 = b4 at *
  generalize gHigh n = b5 at *
  generalize gList n = b6 at *
  obtain ⟨A1, m1, rfl⟩ := hp.slice
  have HR := Lib.hid hR
  clear hR hp
  unfold nodCells at *
  go_enter Tryz.func114, Tryz.ntmps114
  go_upto_region 1 with fail
  obtain ⟨g, hgz⟩ : ∃ g, g = w.heap.size := ⟨_, rfl⟩
  rw [← hgz] at S ⊢
  clear hgz
  generalize w.alloc _ = w1 at *
  obtain ⟨c0, c1, c2, c3, c4, c5, c6⟩ := nod_cells (S.out.has (has_blk _ _ _))
  go_wp2_with fail
  refine (e1 _).mono ?_
  rintro e w' ⟨rfl, rfl⟩
  cases b1
  case false =>
    go_wp2_with fail
    go_returns
    exact ⟨ret_bool (by rw [HR.out]; simp), S.out.bel⟩
  go_wp2_with fail
  refine (e2 _).mono ?_
  rintro e w' ⟨rfl, rfl⟩
  cases b2
  case false =>
    go_wp2_with fail
    go_returns
    exact ⟨ret_bool (by rw [HR.out]; simp), S.out.bel⟩
  go_wp2_with fail
  refine (e3 _).mono ?_
  rintro e w' ⟨rfl, rfl⟩
  cases b3
  case false =>
    go_wp2_with fail
    go_returns
    exact ⟨ret_bool (by rw [HR.out]; simp), S.out.bel⟩
  go_wp2_with fail
  refine (e4 _).mono ?_
  rintro e w' ⟨rfl, rfl⟩
  cases b4
  case false =>
    go_wp2_with fail
    go_returns
    exact ⟨ret_bool (by rw [HR.out]; simp), S.out.bel⟩
  go_wp2_with fail
  refine (HH.out _).mono ?_
  rintro e w2 ⟨rfl, hX⟩
  have T := Lib.hid (S.out.below hX)
  clear hX S c0 c1 c2 c3 c4 c5 c6
  cases b5
  case false =>
    go_wp2_with fail
    go_returns
    exact ⟨ret_bool (by rw [HR.out]; simp), T.out.bel⟩
  obtain ⟨c0, c1, c2, c3, c4, c5, c6⟩ := nod_cells (T.out.has (has_blk _ _ _))
  go_wp2_with fail
  refine (HL.out _ T.out.bel).mono ?_
  rintro e w3 ⟨rfl, hX⟩
  have U := Lib.hid (T.out.below hX)
  clear hX T c0 c1 c2 c3 c4 c5 c6
  go_wp2_with fail
  go_returns
  exact ⟨ret_bool (by rw [HR.out]; simp), U.out.bel⟩
set_option maxRecDepth 100000 in
set_option maxHeartbeats 4000000 in
theorem Fits_any (n : Nod) (v : Value) (w : World) (hv : NodAt w v n) :
    Calls Tryz.prog 72 #[v] w fun e w' => e = .returned (.bool (fitsB n)) ∧ Below w.heap.size w w' := by
  have HG : Hid (∀ w', Below w.heap.size w w' → _) := Lib.hid (fun w' (hb : Below w.heap.size w w') => Good_any n v w' (hv.keep hb))
  have HZ : Hid (goodB n = true → ∀ w', Below w.heap.size w w' → _) := Lib.hid (fun hg w' (hb : Below w.heap.size w w') => Size_any n v w' (hv.keep hb) (by have := size_small (goods hg); omega))
  obtain ⟨p, rfl, hp⟩ := hv
  obtain ⟨A1, m1, rfl⟩ := hp.slice
  have S := Lib.hid ((Own.none w).alloc (nodCells n (.slice A1 n.list.length m1)) 31).left
  clear hp
  unfold fitsB
  generalize goodB n = b1 at *
  unfold nodCells at *
  go_enter Tryz.func72, Tryz.ntmps72
  go_upto_region 1 with fail
  obtain ⟨g, hgz⟩ : ∃ g, g = w.heap.size := ⟨_, rfl⟩
  rw [← hgz] at S ⊢
  clear hgz
  generalize w.alloc _ = w1 at *
  obtain ⟨c0, c1, c2, c3, c4, c5, c6⟩ := nod_cells (S.out.has (has_blk _ _ _))
  go_wp2_with fail
  refine (HG.out _ S.out.bel).mono ?_
  rintro e w2 ⟨rfl, hX⟩
  have T := Lib.hid (S.out.below hX)
  clear hX S c0 c1 c2 c3 c4 c5 c6
  cases b1
  · go_wp2_with fail
    go_returns
    exact ⟨rfl, T.out.bel⟩
  obtain ⟨c0, c1, c2, c3, c4, c5, c6⟩ := nod_cells (T.out.has (has_blk _ _ _))
  go_wp2_with fail
  refine (HZ.out (by first | rfl | trivial) _ T.out.bel).mono ?_
  rintro e w3 ⟨rfl, hX⟩
  have U := Lib.hid (T.out.below hX)
  clear hX T c0 c1 c2 c3 c4 c5 c6
  go_wp2_with fail
  go_returns
  exact ⟨ret_bool (by simp <;> omega), U.out.bel⟩
end Go.Proofs.YtapdpdhibpblgaaGreatDoor.Nd
end

-- joined
section
namespace Go.Proofs.YtapdpdhibpblgaaGreatDoor.Nd
open Go.ChangeShapes Go.WideShapes Go.ChangeAt Go.RowKit Go.PlainAid Aid Cr Nt
set_option linter.unusedVariables false
set_option linter.unusedSimpArgs false
theorem flat_take {α : Type} (b : α → By) (l : List α) (k : Nat) (x : α) (hx : l[k]? = some x) : (l.take (k + 1)).flatMap b = (l.take k).flatMap b ++ b x := by
  rw [List.take_add_one, hx, List.flatMap_append]; simp
theorem flat_len_take {n : Nod} (g : Goods n) (k : Nat) : ((n.list.take k).flatMap bEnt).length ≤ 11100 := by
  rw [flat_size _ (fun e he => g.ky e (List.mem_of_mem_take he))]
  have h := sizeL_le n.list k
  have h2 := sizeL_bound n.list 100 g.vl
  have := g.ll
  have h3 : (11 + 100) * n.list.length ≤ 111 * 100 := Nat.mul_le_mul (by decide) this
  omega
set_option maxRecDepth 100000 in
set_option maxHeartbeats 4000000 in
theorem nod_write (w0 w : World) (g : Nat) (l : By) (n : Nod) (v : Value) (hg : Goods n) (hv : NodAt w0 v n) (S : Own w0 No w (aN g l)) (hl : l.length < 1000) :
    Calls Tryz.prog 145 #[bPtr g, v] w fun e w' => e = .returned (.tuple #[]) ∧ Own w0 No w' (aN g (l ++ body n)) := by
  obtain ⟨p, rfl, hp⟩ := hv
  obtain ⟨A1, m1, rfl⟩ := hp.slice
  have S0 := Lib.hid (S.alloc (nodCells n (.slice A1 n.list.length m1)) 31)
  have HP := Lib.hid hp
  have HG := Lib.hid hg
  have q1 := hg.ll
  have hhl := high_len hg
  obtain ⟨l1, e1, n1⟩ : ∃ x, x = l ++ numI 1 n.tree ∧ x.length = l.length + 1 := ⟨_, rfl, by simp only [List.length_append, numI, numL_length]⟩
  have T1 := Lib.hid (tNumI g l n.tree 1 (by omega) hg.t1)
  rw [← e1] at T1
  obtain ⟨l2, e2, n2⟩ : ∃ x, x = l1 ++ numI 1 n.level ∧ x.length = l1.length + 1 := ⟨_, rfl, by simp only [List.length_append, numI, numL_length]⟩
  have T2 := Lib.hid (tNumI g l1 n.level 1 (by omega) hg.l1)
  rw [← e2] at T2
  obtain ⟨l3, e3, n3⟩ : ∃ x, x = l2 ++ numI 4 n.stamp ∧ x.length = l2.length + 4 := ⟨_, rfl, by simp only [List.length_append, numI, numL_length]⟩
  have T3 := Lib.hid (tNumI g l2 n.stamp 4 (by omega) hg.s1)
  rw [← e3] at T3
  obtain ⟨l4, e4, n4⟩ : ∃ x, x = l3 ++ flagL n.has ∧ x.length = l3.length + 1 := ⟨_, rfl, by simp only [List.length_append, flag_len]⟩
  have T4 := Lib.hid (tFlag g l3 n.has (by omega))
  rw [← e4] at T4
  obtain ⟨l5, e5, n5⟩ : ∃ x, x = l4 ++ highL n ∧ x.length = l4.length + 9 := ⟨_, rfl, by rw [List.length_append, hhl]⟩
  have T5a := Lib.hid (fun h : n.has = true => (by
    have := tStr g l4 n.high (by rw [hg.hh h]; omega)
    rw [hg.hh h] at this
    rw [e5, highL, h]
    exact this : Tr Tryz.prog 111 #[bPtr g, .string (ofL n.high)] (aN g l4) (.tuple #[.int .i64 ((9 : Nat) : Int), .nilIface]) (aN g l5)))
  have T5b := Lib.hid (fun h : n.has = false => (by
    have := tNum g l4 0 9 (by omega)
    rw [e5, highL, h]
    exact this : Tr Tryz.prog 168 #[bPtr g, .int .i64 ((0 : Nat) : Int), .int .i64 ((9 : Nat) : Int)] (aN g l4) (.tuple #[]) (aN g l5)))
  obtain ⟨l6, e6, n6⟩ : ∃ x, x = l5 ++ numI 2 n.right ∧ x.length = l5.length + 2 := ⟨_, rfl, by simp only [List.length_append, numI, numL_length]⟩
  have T6 := Lib.hid (tNumI g l5 n.right 2 (by omega) hg.r1)
  rw [← e6] at T6
  obtain ⟨l7, e7, n7⟩ : ∃ x, x = l6 ++ numL 2 n.list.length ∧ x.length = l6.length + 2 := ⟨_, rfl, by rw [List.length_append, numL_length]⟩
  have T7 := Lib.hid (tNum g l6 n.list.length 2 (by omega))
  rw [← e7] at T7
  have efin : l7 ++ n.list.flatMap bEnt = l ++ body n := by
    rw [e7, e6, e5, e4, e3, e2, e1]; simp only [body, headL, List.append_assoc]
  have EF := Lib.hid efin
  clear e1 e2 e3 e4 e5 e6 e7 efin S hp hg hhl
  generalize body n = bd at *
  unfold nodCells at *
  unfold bPtr at *
  go_enter Tryz.func145, Tryz.ntmps145
  go_wp2_with fail
  obtain ⟨gr, hgz⟩ : ∃ g, g = w.heap.size := ⟨_, rfl⟩
  rw [← hgz] at S0 ⊢
  clear hgz
  generalize w.alloc _ = w1 at *
  refine (S0.out.call T1.out.r).mono ?_
  rintro e w2 ⟨rfl, hX⟩
  have S1 := Lib.hid hX
  clear hX S0
  obtain ⟨-, c1, -, -, -, -, -⟩ := nod_cells (S1.out.has (Has.l (has_blk _ _ _)))
  go_wp2_with fail
  refine (S1.out.call (T2.out.r)).mono ?_
  rintro e w3 ⟨rfl, hX⟩
  have S2 := Lib.hid hX
  clear hX S1 c1 T1
  obtain ⟨-, -, c1, -, -, -, -⟩ := nod_cells (S2.out.has (Has.l (has_blk _ _ _)))
  go_wp2_with fail
  refine (S2.out.call (T3.out.r)).mono ?_
  rintro e w4 ⟨rfl, hX⟩
  have S3 := Lib.hid hX
  clear hX S2 c1 T2
  obtain ⟨-, -, -, c1, c2, -, -⟩ := nod_cells (S3.out.has (Has.l (has_blk _ _ _)))
  go_wp2_with fail
  refine (S3.out.call (T4.out.r)).mono ?_
  rintro e w5 ⟨rfl, hX⟩
  have S4 := Lib.hid hX
  clear hX S3 c1 c2 T3
  obtain ⟨-, -, -, c1, c2, -, -⟩ := nod_cells (S4.out.has (Has.l (has_blk _ _ _)))
  cases hb : n.has with
  | true =>
    have T5 := Lib.hid (T5a.out hb)
    rw [hb] at c1
    go_wp2_with fail
    go_wp2_with fail
    refine wp_region_still_tail 5 (by kernel_rfl) (by kernel_rfl) ?_
    simp only [List.take_succ_cons, List.take_zero, List.drop_succ_cons, List.drop_zero]
    change wpStill _ _ w5.drew _ _ _
    repeat still_step
    refine wpStill_nil ?_
    change wpList _ _ _ _ _ w5.drew
    have S4d := Lib.hid S4.out.drew
    clear S4 c1 c2 T4
    generalize w5.drew = w5d at *
    go_wp2_with fail
    refine (S4d.out.call (T5.out.r)).mono ?_
    rintro e w6 ⟨rfl, hX⟩
    have S5 := Lib.hid hX
    clear hX S4d 
    obtain ⟨-, -, -, -, -, c1, -⟩ := nod_cells (S5.out.has (Has.l (has_blk _ _ _)))
    go_wp2_with fail
    refine (S5.out.call (T6.out.r)).mono ?_
    rintro e w7 ⟨rfl, hX⟩
    have S6 := Lib.hid hX
    clear hX S5 c1 T5a T5b
    obtain ⟨-, -, -, -, -, -, c1⟩ := nod_cells (S6.out.has (Has.l (has_blk _ _ _)))
    go_wp2_with fail
    refine (S6.out.call (T7.out.r)).mono ?_
    rintro e w8 ⟨rfl, hX⟩
    have S7 := Lib.hid hX
    clear hX S6 c1 T6
    obtain ⟨-, -, -, -, -, -, c1⟩ := nod_cells (S7.out.has (Has.l (has_blk _ _ _)))
    go_wp2_with fail
    go_loopw [44] (fun i wr => ∃ k : Nat, k ≤ n.list.length ∧ i = .int .i64 k ∧ Hid (Own w0 No wr (Asn.blk gr 31 (nodCells n (.slice A1 n.list.length m1)) * aN g (l7 ++ (n.list.take k).flatMap bEnt)))) (fun i _ => n.list.length - (intOf i).toNat)
    case atStart => exact ⟨0, Nat.zero_le _, rfl, by rw [List.take_zero, List.flatMap_nil, List.append_nil]; exact S7⟩
    case round =>
      clear S7 c1 T7
      obtain ⟨k, hk, rfl, X⟩ := hrel
      by_cases hlt : k < n.list.length
      · obtain ⟨x, hx⟩ : ∃ x, n.list[k]? = some x := ⟨n.list[k]'(by omega), List.getElem?_eq_getElem _⟩
        obtain ⟨b, ob, rfl, hbl, a0, a1, a2⟩ := (HP.out.keep X.out.bel).at hx
        have hln := flat_len_take HG.out k
        have hft := flat_take bEnt n.list k x hx
        have Y1 := Lib.hid (tEntry g (l7 ++ (n.list.take k).flatMap bEnt) x (by rw [List.length_append]; omega) (HG.out.ky x (List.mem_of_getElem? hx)) (HG.out.vl x (List.mem_of_getElem? hx)))
        rw [List.append_assoc, ← hft] at Y1
        have X1 := Lib.hid (X.out.alloc (entCells x) 83)
        clear hft hln hx X
        unfold entCells at *
        unfold bPtr at Y1
        go_wp2_with fail
        obtain ⟨gx, hgz⟩ : ∃ g, g = wr.heap.size := ⟨_, rfl⟩
        rw [← hgz] at X1 ⊢
        clear hgz
        generalize wr.alloc _ = wa at *
        clear a0 a1 a2
        obtain ⟨a0, a1, a2⟩ := ent_cells (X1.out.has (Has.l (has_blk _ _ _)))
        go_wp2_with fail
        refine (X1.out.call Y1.out.r.r).mono ?_
        rintro e wb ⟨rfl, hX⟩
        have X2 := Lib.hid hX.right
        clear hX X1 a0 a1 a2 Y1
        go_wp2_with fail
        go_round
        case rel => exact ⟨k + 1, by omega, by go_num, X2⟩
        case measure => simp [intOf]; omega
      · obtain rfl : k = n.list.length := by omega
        rw [List.take_length] at X
        go_wp2_with fail
        go_end0
        rw [EF.out] at X
        exact ⟨rfl, X.out.right⟩
  | false =>
    have T5 := Lib.hid (T5b.out hb)
    rw [hb] at c1
    go_wp2_with fail
    refine (S4.out.call (T5.out.r)).mono ?_
    rintro e w6 ⟨rfl, hX⟩
    have S5 := Lib.hid hX
    clear hX S4 c1 c2 T4
    obtain ⟨-, -, -, -, -, c1, -⟩ := nod_cells (S5.out.has (Has.l (has_blk _ _ _)))
    go_wp2_with fail
    refine (S5.out.call (T6.out.r)).mono ?_
    rintro e w7 ⟨rfl, hX⟩
    have S6 := Lib.hid hX
    clear hX S5 c1 T5a T5b
    obtain ⟨-, -, -, -, -, -, c1⟩ := nod_cells (S6.out.has (Has.l (has_blk _ _ _)))
    go_wp2_with fail
    refine (S6.out.call (T7.out.r)).mono ?_
    rintro e w8 ⟨rfl, hX⟩
    have S7 := Lib.hid hX
    clear hX S6 c1 T6
    obtain ⟨-, -, -, -, -, -, c1⟩ := nod_cells (S7.out.has (Has.l (has_blk _ _ _)))
    go_wp2_with fail
    go_loopw [44] (fun i wr => ∃ k : Nat, k ≤ n.list.length ∧ i = .int .i64 k ∧ Hid (Own w0 No wr (Asn.blk gr 31 (nodCells n (.slice A1 n.list.length m1)) * aN g (l7 ++ (n.list.take k).flatMap bEnt)))) (fun i _ => n.list.length - (intOf i).toNat)
    case atStart => exact ⟨0, Nat.zero_le _, rfl, by rw [List.take_zero, List.flatMap_nil, List.append_nil]; exact S7⟩
    case round =>
      clear S7 c1 T7
      obtain ⟨k, hk, rfl, X⟩ := hrel
      by_cases hlt : k < n.list.length
      · obtain ⟨x, hx⟩ : ∃ x, n.list[k]? = some x := ⟨n.list[k]'(by omega), List.getElem?_eq_getElem _⟩
        obtain ⟨b, ob, rfl, hbl, a0, a1, a2⟩ := (HP.out.keep X.out.bel).at hx
        have hln := flat_len_take HG.out k
        have hft := flat_take bEnt n.list k x hx
        have Y1 := Lib.hid (tEntry g (l7 ++ (n.list.take k).flatMap bEnt) x (by rw [List.length_append]; omega) (HG.out.ky x (List.mem_of_getElem? hx)) (HG.out.vl x (List.mem_of_getElem? hx)))
        rw [List.append_assoc, ← hft] at Y1
        have X1 := Lib.hid (X.out.alloc (entCells x) 83)
        clear hft hln hx X
        unfold entCells at *
        unfold bPtr at Y1
        go_wp2_with fail
        obtain ⟨gx, hgz⟩ : ∃ g, g = wr.heap.size := ⟨_, rfl⟩
        rw [← hgz] at X1 ⊢
        clear hgz
        generalize wr.alloc _ = wa at *
        clear a0 a1 a2
        obtain ⟨a0, a1, a2⟩ := ent_cells (X1.out.has (Has.l (has_blk _ _ _)))
        go_wp2_with fail
        refine (X1.out.call Y1.out.r.r).mono ?_
        rintro e wb ⟨rfl, hX⟩
        have X2 := Lib.hid hX.right
        clear hX X1 a0 a1 a2 Y1
        go_wp2_with fail
        go_round
        case rel => exact ⟨k + 1, by omega, by go_num, X2⟩
        case measure => simp [intOf]; omega
      · obtain rfl : k = n.list.length := by omega
        rw [List.take_length] at X
        go_wp2_with fail
        go_end0
        rw [EF.out] at X
        exact ⟨rfl, X.out.right⟩
end Go.Proofs.YtapdpdhibpblgaaGreatDoor.Nd
end
