/-
  NARROWER THAN 'FOR EVERY INPUT', by the rows' own cells (each row's printed sentence says how): ModeExact: laid · ModeJoins: laid · ModeOrder: laid.
  DERIVED. THE GIVEN ROWS OF THIS SEAT. 3 by the template 'for every input the law returns true; each argument reads behind the call as it read before'; 0 by the template 'total and deterministic' (their statements: YtcbpiipnmgnepaaDoorTotals.lean).
  GIVEN WITH THE SEED: the statements are not yours to turn. If you find one false, say at which input.
  Laid BY PROGRAM, IN A SANDBOX (cutbox-rows.mjs): the forced cells as the released guide's own fill.sh prints them over the translation 821ba9ca66f40b3f… (all of the seat's roots in one cut). By AI agents, Wed Nov 11 2026. No macro, syntax, notation, axiom, sorry.
-/
import Derived.Test.YtcbpiipnmgnepaaDoorChecked
import GoSem.Claim
import GoSem.ClaimJoined
import GoSem.ClaimMapViews
import Derived.JoinedTies
import Derived.KernelRfl
namespace Go.Proofs.YtcbpiipnmgnepaaDoor
/- THE CELL 'sum', in the pinned program and in every row, IS THE sha256 OF THE DUMP (.gsa) THAT YtcbpiipnmgnepaaDoorProg.lean LOADS. Nothing in Lean hashes anything: it is a label: what it is worth is what the hold of that sum in a sandbox is worth. -/
noncomputable def Tryd.pinned : Pinned := { name := "ytcbpiipnmgnepaadoor", sum := "821ba9ca66f40b3f62e67d6b70cffae0c47a8c42b87d0fa02ec982e65ec02eb8", checked := Tryd.checked }
namespace Rows
def none {H : Type} : Left H := { results := [], args := [] }

/- WHAT THE LISTED PACKAGE-LEVEL VARIABLES READ AS WHEN THE CALL BEGINS. Each datum BY PROGRAM (the guide's laid-datum.mjs) off the statement by which the dump's own 'gosem.cut.vars' lays the variable. In a bare row this is a premise. The card (YtcbpiipnmgnepaaDoorCards.lean) ties it to the program's text. -/
def laid_math_bits_deBruijn32tab {H : Type} : DataW H := .agg [.lit (.int .u8 0), .lit (.int .u8 1), .lit (.int .u8 28), .lit (.int .u8 2), .lit (.int .u8 29), .lit (.int .u8 14), .lit (.int .u8 24), .lit (.int .u8 3), .lit (.int .u8 30), .lit (.int .u8 22), .lit (.int .u8 20), .lit (.int .u8 15), .lit (.int .u8 25), .lit (.int .u8 17), .lit (.int .u8 4), .lit (.int .u8 8), .lit (.int .u8 31), .lit (.int .u8 27), .lit (.int .u8 13), .lit (.int .u8 23), .lit (.int .u8 21), .lit (.int .u8 19), .lit (.int .u8 16), .lit (.int .u8 7), .lit (.int .u8 26), .lit (.int .u8 12), .lit (.int .u8 18), .lit (.int .u8 6), .lit (.int .u8 11), .lit (.int .u8 5), .lit (.int .u8 10), .lit (.int .u8 9)]
def laid_gauger_mode_partners {H : Type} : DataW H := .agg [.lit (.int .u16 0), .lit (.int .u16 30), .lit (.int .u16 6), .lit (.int .u16 26), .lit (.int .u16 10), .lit (.int .u16 0), .lit (.int .u16 64), .lit (.int .u16 128), .lit (.int .u16 256), .lit (.int .u16 0)]
def laid_gauger_mode_above {H : Type} : DataW H := .agg [.lit (.int .u16 0), .lit (.int .u16 62), .lit (.int .u16 36), .lit (.int .u16 56), .lit (.int .u16 48), .lit (.int .u16 32), .lit (.int .u16 96), .lit (.int .u16 640), .lit (.int .u16 768), .lit (.int .u16 512)]

/-- 'gaugerlaw12.ModeExact': WHATEVER THE INPUT: true; the input reads as it did. -/
def modeExactSpec : ChangeSpec := { name := "modeExact", fn := fun _ => fun
  | [d1, d2] => { results := [.lit (.bool true)], args := [d1, d2] }
  | _ => none }
def modeExactRow : OpenClaim := { program := "ytcbpiipnmgnepaadoor", sum := "821ba9ca66f40b3f62e67d6b70cffae0c47a8c42b87d0fa02ec982e65ec02eb8", func := "gauger/gaugerlaw12.ModeExact", spec := "modeExact", named := ["gauger/mode.partners", "gauger/mode.above", "math/bits.deBruijn32tab"], apart := false, laid := [("math/bits.deBruijn32tab", laid_math_bits_deBruijn32tab), ("gauger/mode.partners", laid_gauger_mode_partners), ("gauger/mode.above", laid_gauger_mode_above)] }
def ModeExactSaid : Prop := modeExactRow.holds Tryd.pinned (OpenSpec.ofChange modeExactSpec)

/-- ITS FALSE NEIGHBOUR: 'it returns false'. Refute it at one input. -/
def modeExactWrong : ChangeSpec := { name := "modeExact", fn := fun _ => fun
  | [d1, d2] => { results := [.lit (.bool false)], args := [d1, d2] }
  | _ => none }
def ModeExactWrongFalsely : Prop := modeExactRow.holds Tryd.pinned (OpenSpec.ofChange modeExactWrong)

/-- 'gaugerlaw12.ModeJoins': WHATEVER THE INPUT: true; the input reads as it did. -/
def modeJoinsSpec : ChangeSpec := { name := "modeJoins", fn := fun _ => fun
  | [d1, d2, d3] => { results := [.lit (.bool true)], args := [d1, d2, d3] }
  | _ => none }
def modeJoinsRow : OpenClaim := { program := "ytcbpiipnmgnepaadoor", sum := "821ba9ca66f40b3f62e67d6b70cffae0c47a8c42b87d0fa02ec982e65ec02eb8", func := "gauger/gaugerlaw12.ModeJoins", spec := "modeJoins", named := ["gauger/mode.partners", "gauger/mode.above", "math/bits.deBruijn32tab"], apart := false, laid := [("math/bits.deBruijn32tab", laid_math_bits_deBruijn32tab), ("gauger/mode.partners", laid_gauger_mode_partners), ("gauger/mode.above", laid_gauger_mode_above)] }
def ModeJoinsSaid : Prop := modeJoinsRow.holds Tryd.pinned (OpenSpec.ofChange modeJoinsSpec)

/-- ITS FALSE NEIGHBOUR: 'it returns false'. Refute it at one input. -/
def modeJoinsWrong : ChangeSpec := { name := "modeJoins", fn := fun _ => fun
  | [d1, d2, d3] => { results := [.lit (.bool false)], args := [d1, d2, d3] }
  | _ => none }
def ModeJoinsWrongFalsely : Prop := modeJoinsRow.holds Tryd.pinned (OpenSpec.ofChange modeJoinsWrong)

/-- 'gaugerlaw12.ModeOrder': WHATEVER THE INPUT: true; the input reads as it did. -/
def modeOrderSpec : ChangeSpec := { name := "modeOrder", fn := fun _ => fun
  | [d1, d2, d3] => { results := [.lit (.bool true)], args := [d1, d2, d3] }
  | _ => none }
def modeOrderRow : OpenClaim := { program := "ytcbpiipnmgnepaadoor", sum := "821ba9ca66f40b3f62e67d6b70cffae0c47a8c42b87d0fa02ec982e65ec02eb8", func := "gauger/gaugerlaw12.ModeOrder", spec := "modeOrder", named := ["gauger/mode.partners", "gauger/mode.above", "math/bits.deBruijn32tab"], apart := false, laid := [("math/bits.deBruijn32tab", laid_math_bits_deBruijn32tab), ("gauger/mode.partners", laid_gauger_mode_partners), ("gauger/mode.above", laid_gauger_mode_above)] }
def ModeOrderSaid : Prop := modeOrderRow.holds Tryd.pinned (OpenSpec.ofChange modeOrderSpec)

/-- ITS FALSE NEIGHBOUR: 'it returns false'. Refute it at one input. -/
def modeOrderWrong : ChangeSpec := { name := "modeOrder", fn := fun _ => fun
  | [d1, d2, d3] => { results := [.lit (.bool false)], args := [d1, d2, d3] }
  | _ => none }
def ModeOrderWrongFalsely : Prop := modeOrderRow.holds Tryd.pinned (OpenSpec.ofChange modeOrderWrong)

/- THE SECOND FORM. 'bulk': how many values and letters a reading holds, each counted each time it is reached (what is shared counts as often as it is met; a slice's spare places count too). A statement '..UptoSaid' is the law's where the arguments, and the package variables that the reading takes, are together of bulk at most 1048576: NARROWER than '..Said'. Prove '..Said' where nothing that the law and all that it calls make is longer than what came in: it says more and counts as full. Else prove '..UptoSaid'. A law counts once. -/
mutual
def uptoBulk {H : Type} : DataW H → Nat
  | .lit (.string bytes) => bytes.length + 1
  | .lit _ => 1
  | .nil => 1
  | .ptr d => uptoBulk d + 1
  | .slice elems spare => uptoBulkAll elems + uptoBulkAll spare + 1
  | .agg parts => uptoBulkAll parts + 1
  | .iface _ d => uptoBulk d + 1
  | .map entries => uptoBulkEntries entries + 1
  | .held _ => 1
def uptoBulkAll {H : Type} : List (DataW H) → Nat
  | [] => 0
  | d :: r => uptoBulk d + uptoBulkAll r
def uptoBulkEntries {H : Type} : List (Lit × DataW H) → Nat
  | [] => 0
  | x :: r => uptoBulkEntry x + uptoBulkEntries r
def uptoBulkEntry {H : Type} : Lit × DataW H → Nat
  | (.string bytes, d) => bytes.length + uptoBulk d + 1
  | (_, d) => uptoBulk d + 1
 end
def uptoSmall : (H : Type) → List (DataW H) → Bool := fun _ ds => decide (uptoBulkAll ds ≤ 1048576)
def OpenSpec.upto (s : _root_.Go.ChangeSpec) : _root_.Go.OpenSpec := { _root_.Go.OpenSpec.ofChange s with cond := some uptoSmall }

/-- 'gaugerlaw12.ModeExact', WHERE WHAT IT READS IS OF BULK AT MOST 1048576: true; the input reads as it did. -/
def modeExactUptoRow : OpenClaim := { program := "ytcbpiipnmgnepaadoor", sum := "821ba9ca66f40b3f62e67d6b70cffae0c47a8c42b87d0fa02ec982e65ec02eb8", func := "gauger/gaugerlaw12.ModeExact", spec := "modeExact", named := ["gauger/mode.partners", "gauger/mode.above", "math/bits.deBruijn32tab"], apart := false, laid := [("math/bits.deBruijn32tab", laid_math_bits_deBruijn32tab), ("gauger/mode.partners", laid_gauger_mode_partners), ("gauger/mode.above", laid_gauger_mode_above)], narrowed := true }
def ModeExactUptoSaid : Prop := modeExactUptoRow.holds Tryd.pinned (OpenSpec.upto modeExactSpec)

/-- 'gaugerlaw12.ModeJoins', WHERE WHAT IT READS IS OF BULK AT MOST 1048576: true; the input reads as it did. -/
def modeJoinsUptoRow : OpenClaim := { program := "ytcbpiipnmgnepaadoor", sum := "821ba9ca66f40b3f62e67d6b70cffae0c47a8c42b87d0fa02ec982e65ec02eb8", func := "gauger/gaugerlaw12.ModeJoins", spec := "modeJoins", named := ["gauger/mode.partners", "gauger/mode.above", "math/bits.deBruijn32tab"], apart := false, laid := [("math/bits.deBruijn32tab", laid_math_bits_deBruijn32tab), ("gauger/mode.partners", laid_gauger_mode_partners), ("gauger/mode.above", laid_gauger_mode_above)], narrowed := true }
def ModeJoinsUptoSaid : Prop := modeJoinsUptoRow.holds Tryd.pinned (OpenSpec.upto modeJoinsSpec)

/-- 'gaugerlaw12.ModeOrder', WHERE WHAT IT READS IS OF BULK AT MOST 1048576: true; the input reads as it did. -/
def modeOrderUptoRow : OpenClaim := { program := "ytcbpiipnmgnepaadoor", sum := "821ba9ca66f40b3f62e67d6b70cffae0c47a8c42b87d0fa02ec982e65ec02eb8", func := "gauger/gaugerlaw12.ModeOrder", spec := "modeOrder", named := ["gauger/mode.partners", "gauger/mode.above", "math/bits.deBruijn32tab"], apart := false, laid := [("math/bits.deBruijn32tab", laid_math_bits_deBruijn32tab), ("gauger/mode.partners", laid_gauger_mode_partners), ("gauger/mode.above", laid_gauger_mode_above)], narrowed := true }
def ModeOrderUptoSaid : Prop := modeOrderUptoRow.holds Tryd.pinned (OpenSpec.upto modeOrderSpec)

end Rows
end Go.Proofs.YtcbpiipnmgnepaaDoor
