import Derived.Test.YtapdpdhibpblgaaGreatDoorNtB
import Derived.Test.YtapdpdhibpblgaaGreatDoorRows
import Derived.ChangeMaps
import Derived.MakeChecks
namespace Go.Proofs.YtapdpdhibpblgaaGreatDoor.Cr
open Go.ChangeShapes Go.WideShapes Go.ChangeAt Go.RowKit Go.PlainAid Aid
set_option linter.unusedVariables false
/-- The table, as the rows list it. -/
theorem tab_of {W : World} (h : laidMetH Tryz.prog [("gauger/crc.fourSteps", Rows.laid_gauger_crc_fourSteps)] W) : Tab W := by
  have h' : laidMet Tryz.prog (("gauger/crc.fourSteps", Lib.tabData .u32 tabZ) :: []) W := h
  have hg : Tryz.prog.globalNamed "gauger/crc.fourSteps" = some 0 := by kernel_rfl
  have hT := Lib.tabIs_of_head hg (by kernel_rfl) Tryz.underlying219 Tryz.underlying197 (by kernel_rfl) (by kernel_rfl) h'
  have hc : ∀ i, i < 16 → W.cell? ⟨0, i, none⟩ = some (.int .u32 (tabI i)) := fun i hi => by
    rw [← tab_is i hi]; exact hT.cell hg i hi
  exact ⟨World.block_lt_of_cell? W ⟨0, 0, none⟩ (hc 0 (by omega)), hc⟩
/-- A number of 32 bits that comes in. -/
theorem open_u32 {n : Int} (h0 : 0 ≤ n) (h1 : n ≤ 4294967295) : ∃ c : BitVec 32, n = (c.toNat : Int) := ⟨BitVec.ofNat 32 n.toNat, by rw [BitVec.toNat_ofNat]; omega⟩
end Go.Proofs.YtapdpdhibpblgaaGreatDoor.Cr
