/- The code's three tables, as the rows list them. -/
import Derived.Test.YtikdjgholjealaaGreatDoorMdV
import Derived.Test.YtikdjgholjealaaGreatDoorRows
import Derived.ChangeMaps
import Derived.MakeChecks
namespace Go.Proofs.YtikdjgholjealaaGreatDoor.Md
open Go.ChangeShapes Go.WideShapes Go.ChangeAt Go.RowKit Go.PlainAid Aid
set_option linter.unusedVariables false
theorem laid_tail {P : Program} {x : String × DataW Unit} {rest : List (String × DataW Unit)} {W : World} (h : laidMet P (x :: rest) W) : laidMet P rest W := by
  obtain ⟨ps, ⟨g', t', cs, fuel, p, q, hg', ht', hvar, hd, hr, rfl⟩, hn, ha⟩ := h
  exact ⟨q, hr, (List.nodup_append.1 hn).2.1, fun b o hm => ha b o (by simp [hm])⟩
theorem tabs_of {W : World} (h : laidMetH Tryz.prog [("math/bits.deBruijn32tab", Rows.laid_math_bits_deBruijn32tab), ("gauger/mode.partners", Rows.laid_gauger_mode_partners), ("gauger/mode.above", Rows.laid_gauger_mode_above)] W) : Tabs W := by
  have h1 : laidMet Tryz.prog (("math/bits.deBruijn32tab", Lib.tabData .u8 bruL) :: ("gauger/mode.partners", Lib.tabData .u16 partL) :: ("gauger/mode.above", Lib.tabData .u16 aboveL) :: []) W := h
  have h2 := laid_tail h1
  have h3 := laid_tail h2
  have g1 : Tryz.prog.globalNamed "math/bits.deBruijn32tab" = some 3 := by kernel_rfl
  have g2 : Tryz.prog.globalNamed "gauger/mode.partners" = some 1 := by kernel_rfl
  have g3 : Tryz.prog.globalNamed "gauger/mode.above" = some 0 := by kernel_rfl
  have T1 := Lib.tabIs_of_head g1 (by kernel_rfl) Tryz.underlying114 Tryz.underlying5 (by kernel_rfl) (by kernel_rfl) h1
  have T2 := Lib.tabIs_of_head g2 (by kernel_rfl) Tryz.underlying59 Tryz.underlying58 (by kernel_rfl) (by kernel_rfl) h2
  have T3 := Lib.tabIs_of_head g3 (by kernel_rfl) Tryz.underlying59 Tryz.underlying58 (by kernel_rfl) (by kernel_rfl) h3
  have c1 : ∀ i, i < 32 → W.cell? ⟨3, i, none⟩ = some (.int .u8 (bruL.getD i 0)) := fun i hi => T1.cell g1 i hi
  have c2 : ∀ i, i < 10 → W.cell? ⟨1, i, none⟩ = some (.int .u16 (partL.getD i 0)) := fun i hi => T2.cell g2 i hi
  have c3 : ∀ i, i < 10 → W.cell? ⟨0, i, none⟩ = some (.int .u16 (aboveL.getD i 0)) := fun i hi => T3.cell g3 i hi
  exact ⟨⟨World.block_lt_of_cell? W _ (c2 0 (by omega)), World.block_lt_of_cell? W _ (c3 0 (by omega)), World.block_lt_of_cell? W _ (c1 0 (by omega))⟩, c2, c3, c1⟩
end Go.Proofs.YtikdjgholjealaaGreatDoor.Md
