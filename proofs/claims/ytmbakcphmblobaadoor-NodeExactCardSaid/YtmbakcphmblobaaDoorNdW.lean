/- The writer of nodes: bytes one behind the other. -/
import Derived.Test.YtmbakcphmblobaaDoorNdA
import Derived.Test.YtmbakcphmblobaaDoorBld
import Derived.Deep.LoopGhost
import Derived.Deep.CutBlock
namespace Go.Proofs.YtmbakcphmblobaaDoor.Nd
open Go.ChangeShapes Go.WideShapes Go.ChangeAt Go.RowKit Go.PlainAid Aid Cr Nt
set_option linter.unusedVariables false
set_option linter.unusedSimpArgs false
/-- A number's lowest bytes, any number's. -/
def numZ : Nat → Int → By
  | 0, _ => []
  | k + 1, n => UInt8.ofNat (n % 256).toNat :: numZ k (n / 256)
theorem numZ_length (k : Nat) (n : Int) : (numZ k n).length = k := by
  induction k generalizing n with
  | zero => rfl
  | succ k ih => simp [numZ, ih]
theorem numZ_nat (k n : Nat) : numZ k (n : Int) = numL k n := by
  induction k generalizing n with
  | zero => rfl
  | succ k ih =>
    have e1 : ((n : Int) % 256).toNat = n % 256 := by omega
    have e2 : (n : Int) / 256 = ((n / 256 : Nat) : Int) := by omega
    rw [numZ, e1, e2, ih]; rfl
theorem numZ_I (k : Nat) (n : Int) (h : 0 ≤ n) : numZ k n = numI k n := by
  unfold numI; rw [← numZ_nat, Int.toNat_of_nonneg h]
theorem numZ_snoc (k : Nat) (n : Int) : numZ (k + 1) n = numZ k n ++ [UInt8.ofNat (n / 256 ^ k % 256).toNat] := by
  induction k generalizing n with
  | zero => simp [numZ]
  | succ k ih =>
    rw [numZ, ih (n / 256), numZ, List.cons_append, Int.ediv_ediv_of_nonneg (by decide), Int.pow_succ, Int.mul_comm 256]
theorem bldW : BldT 118 := by unfold BldT; kernel_rfl
def aN (g : Nat) (l : By) : Asn := aBld 118 g l
set_option maxHeartbeats 1000000 in
theorem tLen (g : Nat) (l : By) :
    Tr Tryd.prog 117 #[bPtr g] (aN g l) (.int .i64 l.length) (aN g l) := by
  intro w O hA
  obtain ⟨⟨q, v⟩, hA⟩ := hA
  have S := Lib.hid (Own.start hA)
  have hv := S.out.vecR
  obtain ⟨A, c, rfl⟩ := hv.slice
  obtain ⟨c0, c1, f0, f1⟩ := blk_cells (S.out.has (Has.l (has_blk _ _ _)))
  clear hA hv
  unfold bPtr at *
  go_enter Tryd.func117, Tryd.ntmps117
  go_wp2_with fail
  go_returns
  exact ⟨rfl, Own.exMk (q, .slice A l.length c) S.out⟩
theorem entCell {w : World} {g : Nat} {e : Ent} (h : Blk w g 111 (entCells e)) : w.cell? ⟨g, 0, none⟩ = some (.string (ofL e.key)) ∧ w.cell? ⟨g, 1, none⟩ = some (.string (ofL e.val)) ∧ w.cell? ⟨g, 2, none⟩ = some (.bool e.ghost) := ent_cells h
end Go.Proofs.YtmbakcphmblobaaDoor.Nd
