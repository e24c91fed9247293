/-
  NARROWER THAN 'FOR EVERY INPUT', by the rows' own cells (each row's printed sentence says how): LockRow: laid · LockFull: laid · LockNames: laid.
  DERIVED. THE GIVEN ROWS OF THIS SEAT. 3 by the template 'for every input the law returns true; each argument reads behind the call as it read before'; 0 by the template 'total and deterministic' (their statements: YtikdjgholjealaaDoorTotals.lean).
  GIVEN WITH THE SEED: the statements are not yours to turn. If you find one false, say at which input.
  Laid BY PROGRAM, IN A SANDBOX (cutbox-rows.mjs): the forced cells as the released guide's own fill.sh prints them over the translation 7bdbb65c34a212a1… (all of the seat's roots in one cut). By AI agents, Wed Nov 11 2026. No macro, syntax, notation, axiom, sorry.
-/
import Derived.Test.YtikdjgholjealaaDoorChecked
import GoSem.Claim
import GoSem.ClaimJoined
import GoSem.ClaimMapViews
import Derived.JoinedTies
import Derived.KernelRfl
namespace Go.Proofs.YtikdjgholjealaaDoor
/- THE CELL 'sum', in the pinned program and in every row, IS THE sha256 OF THE DUMP (.gsa) THAT YtikdjgholjealaaDoorProg.lean LOADS. Nothing in Lean hashes anything: it is a label: what it is worth is what the hold of that sum in a sandbox is worth. -/
noncomputable def Tryd.pinned : Pinned := { name := "ytikdjgholjealaadoor", sum := "7bdbb65c34a212a1313252ae4dedc1cb2695e2dc775939e23c2dcd8e17671175", checked := Tryd.checked }
namespace Rows
def none {H : Type} : Left H := { results := [], args := [] }

/- WHAT THE LISTED PACKAGE-LEVEL VARIABLES READ AS WHEN THE CALL BEGINS. Each datum BY PROGRAM (the guide's laid-datum.mjs) off the statement by which the dump's own 'gosem.cut.vars' lays the variable. In a bare row this is a premise. The card (YtikdjgholjealaaDoorCards.lean) ties it to the program's text. -/
def laid_math_bits_deBruijn32tab {H : Type} : DataW H := .agg [.lit (.int .u8 0), .lit (.int .u8 1), .lit (.int .u8 28), .lit (.int .u8 2), .lit (.int .u8 29), .lit (.int .u8 14), .lit (.int .u8 24), .lit (.int .u8 3), .lit (.int .u8 30), .lit (.int .u8 22), .lit (.int .u8 20), .lit (.int .u8 15), .lit (.int .u8 25), .lit (.int .u8 17), .lit (.int .u8 4), .lit (.int .u8 8), .lit (.int .u8 31), .lit (.int .u8 27), .lit (.int .u8 13), .lit (.int .u8 23), .lit (.int .u8 21), .lit (.int .u8 19), .lit (.int .u8 16), .lit (.int .u8 7), .lit (.int .u8 26), .lit (.int .u8 12), .lit (.int .u8 18), .lit (.int .u8 6), .lit (.int .u8 11), .lit (.int .u8 5), .lit (.int .u8 10), .lit (.int .u8 9)]
def laid_gauger_mode_partners {H : Type} : DataW H := .agg [.lit (.int .u16 0), .lit (.int .u16 30), .lit (.int .u16 6), .lit (.int .u16 26), .lit (.int .u16 10), .lit (.int .u16 0), .lit (.int .u16 64), .lit (.int .u16 128), .lit (.int .u16 256), .lit (.int .u16 0)]
def laid_gauger_mode_above {H : Type} : DataW H := .agg [.lit (.int .u16 0), .lit (.int .u16 62), .lit (.int .u16 36), .lit (.int .u16 56), .lit (.int .u16 48), .lit (.int .u16 32), .lit (.int .u16 96), .lit (.int .u16 640), .lit (.int .u16 768), .lit (.int .u16 512)]

/-- 'gaugerlaw13.LockRow': WHATEVER THE INPUT: true; the input reads as it did. -/
def lockRowSpec : ChangeSpec := { name := "lockRow", fn := fun _ => fun
  | [d] => { results := [.lit (.bool true)], args := [d] }
  | _ => none }
def lockRowRow : OpenClaim := { program := "ytikdjgholjealaadoor", sum := "7bdbb65c34a212a1313252ae4dedc1cb2695e2dc775939e23c2dcd8e17671175", func := "gauger/gaugerlaw13.LockRow", spec := "lockRow", inPlace := ["slices.overlaps[int]"], unfollowed := true, recurses := true, named := ["gauger/mode.above", "math/bits.deBruijn32tab", "gauger/mode.partners"], apart := false, laid := [("math/bits.deBruijn32tab", laid_math_bits_deBruijn32tab), ("gauger/mode.partners", laid_gauger_mode_partners), ("gauger/mode.above", laid_gauger_mode_above)] }
def LockRowSaid : Prop := lockRowRow.holds Tryd.pinned (OpenSpec.ofChange lockRowSpec)

/-- ITS FALSE NEIGHBOUR: 'it returns false'. Refute it at one input. -/
def lockRowWrong : ChangeSpec := { name := "lockRow", fn := fun _ => fun
  | [d] => { results := [.lit (.bool false)], args := [d] }
  | _ => none }
def LockRowWrongFalsely : Prop := lockRowRow.holds Tryd.pinned (OpenSpec.ofChange lockRowWrong)

/-- 'gaugerlaw13.LockFull': WHATEVER THE INPUT: true; the input reads as it did. -/
def lockFullSpec : ChangeSpec := { name := "lockFull", fn := fun _ => fun
  | [d1, d2] => { results := [.lit (.bool true)], args := [d1, d2] }
  | _ => none }
def lockFullRow : OpenClaim := { program := "ytikdjgholjealaadoor", sum := "7bdbb65c34a212a1313252ae4dedc1cb2695e2dc775939e23c2dcd8e17671175", func := "gauger/gaugerlaw13.LockFull", spec := "lockFull", inPlace := ["slices.overlaps[int]"], unfollowed := true, recurses := true, named := ["gauger/mode.above", "math/bits.deBruijn32tab", "gauger/mode.partners"], apart := false, laid := [("math/bits.deBruijn32tab", laid_math_bits_deBruijn32tab), ("gauger/mode.partners", laid_gauger_mode_partners), ("gauger/mode.above", laid_gauger_mode_above)] }
def LockFullSaid : Prop := lockFullRow.holds Tryd.pinned (OpenSpec.ofChange lockFullSpec)

/-- ITS FALSE NEIGHBOUR: 'it returns false'. Refute it at one input. -/
def lockFullWrong : ChangeSpec := { name := "lockFull", fn := fun _ => fun
  | [d1, d2] => { results := [.lit (.bool false)], args := [d1, d2] }
  | _ => none }
def LockFullWrongFalsely : Prop := lockFullRow.holds Tryd.pinned (OpenSpec.ofChange lockFullWrong)

/-- 'gaugerlaw13.LockNames': WHATEVER THE INPUT: true; the input reads as it did. -/
def lockNamesSpec : ChangeSpec := { name := "lockNames", fn := fun _ => fun
  | [d1, d2, d3, d4] => { results := [.lit (.bool true)], args := [d1, d2, d3, d4] }
  | _ => none }
def lockNamesRow : OpenClaim := { program := "ytikdjgholjealaadoor", sum := "7bdbb65c34a212a1313252ae4dedc1cb2695e2dc775939e23c2dcd8e17671175", func := "gauger/gaugerlaw13.LockNames", spec := "lockNames", inPlace := ["slices.overlaps[int]"], unfollowed := true, recurses := true, named := ["gauger/mode.above", "math/bits.deBruijn32tab", "gauger/mode.partners"], apart := false, laid := [("math/bits.deBruijn32tab", laid_math_bits_deBruijn32tab), ("gauger/mode.partners", laid_gauger_mode_partners), ("gauger/mode.above", laid_gauger_mode_above)] }
def LockNamesSaid : Prop := lockNamesRow.holds Tryd.pinned (OpenSpec.ofChange lockNamesSpec)

/-- ITS FALSE NEIGHBOUR: 'it returns false'. Refute it at one input. -/
def lockNamesWrong : ChangeSpec := { name := "lockNames", fn := fun _ => fun
  | [d1, d2, d3, d4] => { results := [.lit (.bool false)], args := [d1, d2, d3, d4] }
  | _ => none }
def LockNamesWrongFalsely : Prop := lockNamesRow.holds Tryd.pinned (OpenSpec.ofChange lockNamesWrong)

/- THE SECOND FORM. 'bulk': how many values and letters a reading holds, each counted each time it is reached (what is shared counts as often as it is met; a slice's spare places count too). A statement '..UptoSaid' is the law's where the arguments, and the package variables that the reading takes, are together of bulk at most 1048576: NARROWER than '..Said'. Prove '..Said' where nothing that the law and all that it calls make is longer than what came in: it says more and counts as full. Else prove '..UptoSaid'. A law counts once. -/
mutual
def uptoBulk {H : Type} : DataW H → Nat
  | .lit (.string bytes) => bytes.length + 1
  | .lit _ => 1
  | .nil => 1
  | .ptr d => uptoBulk d + 1
  | .slice elems spare => uptoBulkAll elems + uptoBulkAll spare + 1
  | .agg parts => uptoBulkAll parts + 1
  | .iface _ d => uptoBulk d + 1
  | .map entries => uptoBulkEntries entries + 1
  | .held _ => 1
def uptoBulkAll {H : Type} : List (DataW H) → Nat
  | [] => 0
  | d :: r => uptoBulk d + uptoBulkAll r
def uptoBulkEntries {H : Type} : List (Lit × DataW H) → Nat
  | [] => 0
  | x :: r => uptoBulkEntry x + uptoBulkEntries r
def uptoBulkEntry {H : Type} : Lit × DataW H → Nat
  | (.string bytes, d) => bytes.length + uptoBulk d + 1
  | (_, d) => uptoBulk d + 1
 end
def uptoSmall : (H : Type) → List (DataW H) → Bool := fun _ ds => decide (uptoBulkAll ds ≤ 1048576)
def OpenSpec.upto (s : _root_.Go.ChangeSpec) : _root_.Go.OpenSpec := { _root_.Go.OpenSpec.ofChange s with cond := some uptoSmall }

/-- 'gaugerlaw13.LockRow', WHERE WHAT IT READS IS OF BULK AT MOST 1048576: true; the input reads as it did. -/
def lockRowUptoRow : OpenClaim := { program := "ytikdjgholjealaadoor", sum := "7bdbb65c34a212a1313252ae4dedc1cb2695e2dc775939e23c2dcd8e17671175", func := "gauger/gaugerlaw13.LockRow", spec := "lockRow", inPlace := ["slices.overlaps[int]"], unfollowed := true, recurses := true, named := ["gauger/mode.above", "math/bits.deBruijn32tab", "gauger/mode.partners"], apart := false, laid := [("math/bits.deBruijn32tab", laid_math_bits_deBruijn32tab), ("gauger/mode.partners", laid_gauger_mode_partners), ("gauger/mode.above", laid_gauger_mode_above)], narrowed := true }
def LockRowUptoSaid : Prop := lockRowUptoRow.holds Tryd.pinned (OpenSpec.upto lockRowSpec)

/-- 'gaugerlaw13.LockFull', WHERE WHAT IT READS IS OF BULK AT MOST 1048576: true; the input reads as it did. -/
def lockFullUptoRow : OpenClaim := { program := "ytikdjgholjealaadoor", sum := "7bdbb65c34a212a1313252ae4dedc1cb2695e2dc775939e23c2dcd8e17671175", func := "gauger/gaugerlaw13.LockFull", spec := "lockFull", inPlace := ["slices.overlaps[int]"], unfollowed := true, recurses := true, named := ["gauger/mode.above", "math/bits.deBruijn32tab", "gauger/mode.partners"], apart := false, laid := [("math/bits.deBruijn32tab", laid_math_bits_deBruijn32tab), ("gauger/mode.partners", laid_gauger_mode_partners), ("gauger/mode.above", laid_gauger_mode_above)], narrowed := true }
def LockFullUptoSaid : Prop := lockFullUptoRow.holds Tryd.pinned (OpenSpec.upto lockFullSpec)

/-- 'gaugerlaw13.LockNames', WHERE WHAT IT READS IS OF BULK AT MOST 1048576: true; the input reads as it did. -/
def lockNamesUptoRow : OpenClaim := { program := "ytikdjgholjealaadoor", sum := "7bdbb65c34a212a1313252ae4dedc1cb2695e2dc775939e23c2dcd8e17671175", func := "gauger/gaugerlaw13.LockNames", spec := "lockNames", inPlace := ["slices.overlaps[int]"], unfollowed := true, recurses := true, named := ["gauger/mode.above", "math/bits.deBruijn32tab", "gauger/mode.partners"], apart := false, laid := [("math/bits.deBruijn32tab", laid_math_bits_deBruijn32tab), ("gauger/mode.partners", laid_gauger_mode_partners), ("gauger/mode.above", laid_gauger_mode_above)], narrowed := true }
def LockNamesUptoSaid : Prop := lockNamesUptoRow.holds Tryd.pinned (OpenSpec.upto lockNamesSpec)

end Rows
end Go.Proofs.YtikdjgholjealaaDoor
