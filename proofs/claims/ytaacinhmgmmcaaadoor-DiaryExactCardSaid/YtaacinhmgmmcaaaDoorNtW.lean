/- The writer: bytes one behind the other. -/
import Derived.Test.YtaacinhmgmmcaaaDoorNtB
import Derived.Test.YtaacinhmgmmcaaaDoorBld
namespace Go.Proofs.YtaacinhmgmmcaaaDoor.Nt
open Go.ChangeShapes Go.WideShapes Go.ChangeAt Go.RowKit Go.PlainAid Aid Cr
set_option linter.unusedVariables false
set_option linter.unusedSimpArgs false
theorem numL_snoc (k n : Nat) : numL (k + 1) n = numL k n ++ [UInt8.ofNat (n / 256 ^ k % 256)] := by
  induction k generalizing n with
  | zero => simp [numL]
  | succ k ih =>
    rw [numL, ih (n / 256), numL, List.cons_append, Nat.div_div_eq_div_mul, Nat.pow_succ, Nat.mul_comm 256]
theorem bldW : BldT 102 := by unfold BldT; kernel_rfl
def aW (g : Nat) (l : By) : Asn := aBld 102 g l
theorem tByte (g : Nat) (l : By) (c : Int) (h0 : 0 ≤ c) (h1 : c < 256) (hl : l.length < 140737488355328) :
    Tr Tryd.prog 68 #[bPtr g, .int .u8 c] (aW g l) .nilIface (aW g (l ++ [UInt8.ofNat c.toNat])) := by
  have e : (UInt8.ofNat c.toNat).toNat = c.toNat := by simp; omega
  have := bWriteByte 102 bldW g l (UInt8.ofNat c.toNat) hl
  rw [e, Int.toNat_of_nonneg h0] at this
  exact this
theorem tStr (g : Nat) (l s : By) (hl : l.length + s.length ≤ 140737488355328) :
    Tr Tryd.prog 70 #[bPtr g, .string (ofL s)] (aW g l) (.tuple #[.int .i64 s.length, .nilIface]) (aW g (l ++ s)) := bWriteString 102 bldW g l s hl
set_option maxHeartbeats 1000000 in
theorem tNum (g : Nat) (l : By) (n k : Nat) (hl : l.length + k < 140737488355328) (hn : n < 9223372036854775808) :
    Tr Tryd.prog 46 #[bPtr g, .int .i64 n, .int .i64 k] (aW g l) (.tuple #[]) (aW g (l ++ numL k n)) := by
  intro w O hA
  have S := Lib.hid (Own.start hA)
  have HB := Lib.hid (tByte g)
  clear hA
  unfold bPtr at *
  go_enter Tryd.func46, Tryd.ntmps46
  go_wp2_with fail
  go_loopw [1, 7] (fun x i wr => ∃ j : Nat, j ≤ k ∧ i = .int .i64 j ∧ x = .int .i64 ((n / 256 ^ j : Nat) : Int) ∧ Hid (Own w O wr (aW g (l ++ numL j n)))) (fun _ i _ => k - (intOf i).toNat)
  case atStart => exact ⟨0, Nat.zero_le _, rfl, by simp, by simpa [numL] using S⟩
  case round =>
    clear S
    obtain ⟨j, hj, rfl, rfl, S⟩ := hrel
    by_cases hlt : j < k
    · have hsn := numL_snoc j n
      have hle : n / 256 ^ j ≤ n := Nat.div_le_self _ _
      have hnx : n / 256 ^ (j + 1) = n / 256 ^ j / 256 := by rw [Nat.pow_succ, Nat.div_div_eq_div_mul]
      have hll : (l ++ numL j n).length < 140737488355328 := by rw [List.length_append, numL_length]; omega
      generalize n / 256 ^ j = x at *
      have HC := Lib.hid (HB.out (l ++ numL j n) ((x : Int) % 256) (by omega) (by omega) hll)
      have e2 : l ++ numL j n ++ [UInt8.ofNat ((x : Int) % 256).toNat] = l ++ numL (j + 1) n := by
        rw [hsn, List.append_assoc]; congr 4
      have HNX := Lib.hid hnx
      rw [e2] at HC
      clear hsn hnx e2 hll
      go_wp2_with fail
      refine (S.out.call HC.out).mono ?_
      rintro e w2 ⟨rfl, h2⟩
      have S2 := Lib.hid h2
      clear h2 S HC
      go_wp2_with fail
      go_round
      case rel => exact ⟨j + 1, by omega, by go_num, by rw [HNX.out]; rfl, S2⟩
      case measure => simp [intOf]; omega
    · obtain rfl : j = k := by omega
      go_wp2_with fail
      go_end0
      exact ⟨rfl, S.out⟩
theorem tNumI (g : Nat) (l : By) (n : Int) (k : Nat) (hl : l.length + k < 140737488355328) (h0 : 0 ≤ n) (hn : n < 9223372036854775808) :
    Tr Tryd.prog 46 #[bPtr g, .int .i64 n, .int .i64 k] (aW g l) (.tuple #[]) (aW g (l ++ numI k n)) := by
  have := tNum g l n.toNat k hl (by omega)
  rw [Int.toNat_of_nonneg h0] at this
  exact this
set_option maxHeartbeats 1000000 in
theorem tText (g : Nat) (l t : By) (hl : l.length + t.length + 1 < 140737488355328) :
    Tr Tryd.prog 92 #[bPtr g, .string (ofL t)] (aW g l) (.tuple #[]) (aW g (l ++ bText t)) := by
  intro w O hA
  have S := Lib.hid (Own.start hA)
  have hz : t.length = (ofL t).size := rfl
  have H1 := Lib.hid (tNum g l t.length 1 (by omega) (by omega))
  have H2 := Lib.hid (tStr g (l ++ numL 1 t.length) t (by rw [List.length_append, numL_length]; omega))
  rw [hz] at H1 hl
  rw [List.append_assoc, show numL 1 t.length ++ t = bText t from rfl] at H2
  generalize bText t = b at *
  have HZ := Lib.hid hz
  rw [hz] at H2
  clear hz
  generalize ofL t = x at *
  clear HZ
  clear hA
  unfold bPtr at *
  go_enter Tryd.func92, Tryd.ntmps92
  go_wp2_with fail
  refine (S.out.call (H1.out)).mono ?_
  rintro e w1 ⟨rfl, hX⟩
  have S1 := Lib.hid hX
  clear hX S 
  go_wp2_with fail
  refine (S1.out.call (H2.out)).mono ?_
  rintro e w2 ⟨rfl, hX⟩
  have S2 := Lib.hid hX
  clear hX S1 
  go_wp2_with fail
  go_end0
  exact ⟨rfl, S2.out⟩
theorem und_cells {w : World} {g : Nat} {k t : Int} {a b : ByteArray} (h : Blk w g 41 #[.int .i64 k, .int .i64 t, .string a, .string b]) :
    w.cell? ⟨g, 0, none⟩ = some (.int .i64 k) ∧ w.cell? ⟨g, 1, none⟩ = some (.int .i64 t) ∧ w.cell? ⟨g, 2, none⟩ = some (.string a) ∧ w.cell? ⟨g, 3, none⟩ = some (.string b) := ⟨h.cell 0, h.cell 1, h.cell 2, h.cell 3⟩
set_option maxHeartbeats 1000000 in
theorem tUndo (g : Nat) (l : By) (u : Und) (hk : 0 ≤ u.kind) (hk2 : u.kind ≤ 4) (ht : 0 ≤ u.tree) (ht2 : u.tree ≤ 255) (ha : u.key.length ≤ 255) (hb : u.val.length ≤ 255) (hl : l.length < 1000000) :
    Tr Tryd.prog 69 #[bPtr g, undV u] (aW g l) (.tuple #[]) (aW g (l ++ bUnd u)) := by
  intro w O hA
  have S := Lib.hid ((Own.start hA).alloc #[.int .i64 u.kind, .int .i64 u.tree, .string (ofL u.key), .string (ofL u.val)] 41)
  have H1 := Lib.hid (tNumI g l u.kind 1 (by omega) hk (by omega))
  have H2 := Lib.hid (tNumI g (l ++ numI 1 u.kind) u.tree 1 (by simp only [List.length_append, numI, numL_length]; omega) ht (by omega))
  have H3 := Lib.hid (tText g (l ++ numI 1 u.kind ++ numI 1 u.tree) u.key (by simp only [List.length_append, numI, numL_length]; omega))
  have H4 := Lib.hid (tText g (l ++ numI 1 u.kind ++ numI 1 u.tree ++ bText u.key) u.val (by simp only [List.length_append, numI, bText, numL_length]; omega))
  rw [show l ++ numI 1 u.kind ++ numI 1 u.tree ++ bText u.key ++ bText u.val = l ++ bUnd u by simp only [bUnd, List.append_assoc]] at H4
  generalize bUnd u = bu at *
  clear hA hk hk2 ht ht2 ha hb hl
  unfold undV
  unfold bPtr at *
  go_enter Tryd.func69, Tryd.ntmps69
  go_wp2_with fail
  obtain ⟨gu, hgz⟩ : ∃ g, g = w.heap.size := ⟨_, rfl⟩
  rw [← hgz] at S ⊢
  clear hgz
  generalize w.alloc _ = w1 at *
  refine (S.out.call H1.out.r).mono ?_
  rintro e w2 ⟨rfl, hX⟩
  have S2 := Lib.hid hX
  clear hX S
  obtain ⟨-, c1, -, -⟩ := und_cells (S2.out.has (Has.l (has_blk _ _ _)))
  go_wp2_with fail
  refine (S2.out.call (H2.out.r)).mono ?_
  rintro e w3 ⟨rfl, hX⟩
  have S3 := Lib.hid hX
  clear hX S2 c1
  obtain ⟨-, -, c2, -⟩ := und_cells (S3.out.has (Has.l (has_blk _ _ _)))
  go_wp2_with fail
  refine (S3.out.call (H3.out.r)).mono ?_
  rintro e w4 ⟨rfl, hX⟩
  have S4 := Lib.hid hX
  clear hX S3 c2
  obtain ⟨-, -, -, c3⟩ := und_cells (S4.out.has (Has.l (has_blk _ _ _)))
  go_wp2_with fail
  refine (S4.out.call (H4.out.r)).mono ?_
  rintro e w5 ⟨rfl, hX⟩
  have S5 := Lib.hid hX
  clear hX S4 c3
  go_wp2_with fail
  go_end0
  exact ⟨rfl, S5.out.right⟩
end Go.Proofs.YtaacinhmgmmcaaaDoor.Nt
