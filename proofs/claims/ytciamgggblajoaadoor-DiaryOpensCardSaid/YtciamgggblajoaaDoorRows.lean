/-
  NARROWER THAN 'FOR EVERY INPUT', by the rows' own cells (each row's printed sentence says how): NoteExact: laid · DiaryExact: laid · DiaryOpens: laid · DiaryKeeps: laid · DiaryHolds: laid.
  DERIVED. THE GIVEN ROWS OF THIS SEAT. 5 by the template 'for every input the law returns true; each argument reads behind the call as it read before'; 0 by the template 'total and deterministic' (their statements: YtciamgggblajoaaDoorTotals.lean).
  GIVEN WITH THE SEED: the statements are not yours to turn. If you find one false, say at which input.
  Laid BY PROGRAM, IN A SANDBOX (cutbox-rows.mjs): the forced cells as the released guide's own fill.sh prints them over the translation 6c57aa912894d44a… (all of the seat's roots in one cut). By AI agents, Wed Nov 11 2026. No macro, syntax, notation, axiom, sorry.
-/
import Derived.Test.YtciamgggblajoaaDoorChecked
import GoSem.Claim
import GoSem.ClaimJoined
import GoSem.ClaimMapViews
import Derived.JoinedTies
import Derived.KernelRfl
namespace Go.Proofs.YtciamgggblajoaaDoor
/- THE CELL 'sum', in the pinned program and in every row, IS THE sha256 OF THE DUMP (.gsa) THAT YtciamgggblajoaaDoorProg.lean LOADS. Nothing in Lean hashes anything: it is a label: what it is worth is what the hold of that sum in a sandbox is worth. -/
noncomputable def Tryd.pinned : Pinned := { name := "ytciamgggblajoaadoor", sum := "6c57aa912894d44a2a75e42d338ebbef5cda0cd7d23781780c29d08ee5b5b9ba", checked := Tryd.checked }
namespace Rows
def none {H : Type} : Left H := { results := [], args := [] }

/- WHAT THE LISTED PACKAGE-LEVEL VARIABLES READ AS WHEN THE CALL BEGINS. Each datum BY PROGRAM (the guide's laid-datum.mjs) off the statement by which the dump's own 'gosem.cut.vars' lays the variable. In a bare row this is a premise. The card (YtciamgggblajoaaDoorCards.lean) ties it to the program's text. -/
def laid_gauger_crc_fourSteps {H : Type} : DataW H := .agg [.lit (.int .u32 0), .lit (.int .u32 498536548), .lit (.int .u32 997073096), .lit (.int .u32 651767980), .lit (.int .u32 1994146192), .lit (.int .u32 1802195444), .lit (.int .u32 1303535960), .lit (.int .u32 1342533948), .lit (.int .u32 3988292384), .lit (.int .u32 4027552580), .lit (.int .u32 3604390888), .lit (.int .u32 3412177804), .lit (.int .u32 2607071920), .lit (.int .u32 2262029012), .lit (.int .u32 2685067896), .lit (.int .u32 3183342108)]

/-- 'gaugerlaw06.NoteExact': WHATEVER THE INPUT: true; the input reads as it did. -/
def noteExactSpec : ChangeSpec := { name := "noteExact", fn := fun _ => fun
  | [d1, d2] => { results := [.lit (.bool true)], args := [d1, d2] }
  | _ => none }
def noteExactRow : OpenClaim := { program := "ytciamgggblajoaadoor", sum := "6c57aa912894d44a2a75e42d338ebbef5cda0cd7d23781780c29d08ee5b5b9ba", func := "gauger/gaugerlaw06.NoteExact", spec := "noteExact", inPlace := ["internal/abi.NoEscape", "internal/bytealg.MakeNoZero"], unfollowed := true, recurses := true, named := ["gauger/crc.fourSteps"], apart := false, laid := [("gauger/crc.fourSteps", laid_gauger_crc_fourSteps)] }
def NoteExactSaid : Prop := noteExactRow.holds Tryd.pinned (OpenSpec.ofChange noteExactSpec)

/-- ITS FALSE NEIGHBOUR: 'it returns false'. Refute it at one input. -/
def noteExactWrong : ChangeSpec := { name := "noteExact", fn := fun _ => fun
  | [d1, d2] => { results := [.lit (.bool false)], args := [d1, d2] }
  | _ => none }
def NoteExactWrongFalsely : Prop := noteExactRow.holds Tryd.pinned (OpenSpec.ofChange noteExactWrong)

/-- 'gaugerlaw07.DiaryExact': WHATEVER THE INPUT: true; the input reads as it did. -/
def diaryExactSpec : ChangeSpec := { name := "diaryExact", fn := fun _ => fun
  | [d1, d2] => { results := [.lit (.bool true)], args := [d1, d2] }
  | _ => none }
def diaryExactRow : OpenClaim := { program := "ytciamgggblajoaadoor", sum := "6c57aa912894d44a2a75e42d338ebbef5cda0cd7d23781780c29d08ee5b5b9ba", func := "gauger/gaugerlaw07.DiaryExact", spec := "diaryExact", inPlace := ["internal/abi.NoEscape", "internal/bytealg.MakeNoZero"], unfollowed := true, recurses := true, named := ["gauger/crc.fourSteps"], apart := false, laid := [("gauger/crc.fourSteps", laid_gauger_crc_fourSteps)] }
def DiaryExactSaid : Prop := diaryExactRow.holds Tryd.pinned (OpenSpec.ofChange diaryExactSpec)

/-- ITS FALSE NEIGHBOUR: 'it returns false'. Refute it at one input. -/
def diaryExactWrong : ChangeSpec := { name := "diaryExact", fn := fun _ => fun
  | [d1, d2] => { results := [.lit (.bool false)], args := [d1, d2] }
  | _ => none }
def DiaryExactWrongFalsely : Prop := diaryExactRow.holds Tryd.pinned (OpenSpec.ofChange diaryExactWrong)

/-- 'gaugerlaw07.DiaryOpens': WHATEVER THE INPUT: true; the input reads as it did. -/
def diaryOpensSpec : ChangeSpec := { name := "diaryOpens", fn := fun _ => fun
  | [d] => { results := [.lit (.bool true)], args := [d] }
  | _ => none }
def diaryOpensRow : OpenClaim := { program := "ytciamgggblajoaadoor", sum := "6c57aa912894d44a2a75e42d338ebbef5cda0cd7d23781780c29d08ee5b5b9ba", func := "gauger/gaugerlaw07.DiaryOpens", spec := "diaryOpens", inPlace := ["internal/abi.NoEscape", "internal/bytealg.MakeNoZero"], unfollowed := true, recurses := true, named := ["gauger/crc.fourSteps"], apart := false, laid := [("gauger/crc.fourSteps", laid_gauger_crc_fourSteps)] }
def DiaryOpensSaid : Prop := diaryOpensRow.holds Tryd.pinned (OpenSpec.ofChange diaryOpensSpec)

/-- ITS FALSE NEIGHBOUR: 'it returns false'. Refute it at one input. -/
def diaryOpensWrong : ChangeSpec := { name := "diaryOpens", fn := fun _ => fun
  | [d] => { results := [.lit (.bool false)], args := [d] }
  | _ => none }
def DiaryOpensWrongFalsely : Prop := diaryOpensRow.holds Tryd.pinned (OpenSpec.ofChange diaryOpensWrong)

/-- 'gaugerlaw07.DiaryKeeps': WHATEVER THE INPUT: true; the input reads as it did. -/
def diaryKeepsSpec : ChangeSpec := { name := "diaryKeeps", fn := fun _ => fun
  | [d1, d2, d3] => { results := [.lit (.bool true)], args := [d1, d2, d3] }
  | _ => none }
def diaryKeepsRow : OpenClaim := { program := "ytciamgggblajoaadoor", sum := "6c57aa912894d44a2a75e42d338ebbef5cda0cd7d23781780c29d08ee5b5b9ba", func := "gauger/gaugerlaw07.DiaryKeeps", spec := "diaryKeeps", inPlace := ["internal/abi.NoEscape", "internal/bytealg.MakeNoZero"], unfollowed := true, recurses := true, named := ["gauger/crc.fourSteps"], apart := false, laid := [("gauger/crc.fourSteps", laid_gauger_crc_fourSteps)] }
def DiaryKeepsSaid : Prop := diaryKeepsRow.holds Tryd.pinned (OpenSpec.ofChange diaryKeepsSpec)

/-- ITS FALSE NEIGHBOUR: 'it returns false'. Refute it at one input. -/
def diaryKeepsWrong : ChangeSpec := { name := "diaryKeeps", fn := fun _ => fun
  | [d1, d2, d3] => { results := [.lit (.bool false)], args := [d1, d2, d3] }
  | _ => none }
def DiaryKeepsWrongFalsely : Prop := diaryKeepsRow.holds Tryd.pinned (OpenSpec.ofChange diaryKeepsWrong)

/-- 'gaugerlaw07.DiaryHolds': WHATEVER THE INPUT: true; the input reads as it did. -/
def diaryHoldsSpec : ChangeSpec := { name := "diaryHolds", fn := fun _ => fun
  | [d1, d2, d3] => { results := [.lit (.bool true)], args := [d1, d2, d3] }
  | _ => none }
def diaryHoldsRow : OpenClaim := { program := "ytciamgggblajoaadoor", sum := "6c57aa912894d44a2a75e42d338ebbef5cda0cd7d23781780c29d08ee5b5b9ba", func := "gauger/gaugerlaw07.DiaryHolds", spec := "diaryHolds", inPlace := ["internal/abi.NoEscape", "internal/bytealg.MakeNoZero"], unfollowed := true, recurses := true, named := ["gauger/crc.fourSteps"], apart := false, laid := [("gauger/crc.fourSteps", laid_gauger_crc_fourSteps)] }
def DiaryHoldsSaid : Prop := diaryHoldsRow.holds Tryd.pinned (OpenSpec.ofChange diaryHoldsSpec)

/-- ITS FALSE NEIGHBOUR: 'it returns false'. Refute it at one input. -/
def diaryHoldsWrong : ChangeSpec := { name := "diaryHolds", fn := fun _ => fun
  | [d1, d2, d3] => { results := [.lit (.bool false)], args := [d1, d2, d3] }
  | _ => none }
def DiaryHoldsWrongFalsely : Prop := diaryHoldsRow.holds Tryd.pinned (OpenSpec.ofChange diaryHoldsWrong)

/- THE SECOND FORM. 'bulk': how many values and letters a reading holds, each counted each time it is reached (what is shared counts as often as it is met; a slice's spare places count too). A statement '..UptoSaid' is the law's where the arguments, and the package variables that the reading takes, are together of bulk at most 1048576: NARROWER than '..Said'. Prove '..Said' where nothing that the law and all that it calls make is longer than what came in: it says more and counts as full. Else prove '..UptoSaid'. A law counts once. -/
mutual
def uptoBulk {H : Type} : DataW H → Nat
  | .lit (.string bytes) => bytes.length + 1
  | .lit _ => 1
  | .nil => 1
  | .ptr d => uptoBulk d + 1
  | .slice elems spare => uptoBulkAll elems + uptoBulkAll spare + 1
  | .agg parts => uptoBulkAll parts + 1
  | .iface _ d => uptoBulk d + 1
  | .map entries => uptoBulkEntries entries + 1
  | .held _ => 1
def uptoBulkAll {H : Type} : List (DataW H) → Nat
  | [] => 0
  | d :: r => uptoBulk d + uptoBulkAll r
def uptoBulkEntries {H : Type} : List (Lit × DataW H) → Nat
  | [] => 0
  | x :: r => uptoBulkEntry x + uptoBulkEntries r
def uptoBulkEntry {H : Type} : Lit × DataW H → Nat
  | (.string bytes, d) => bytes.length + uptoBulk d + 1
  | (_, d) => uptoBulk d + 1
 end
def uptoSmall : (H : Type) → List (DataW H) → Bool := fun _ ds => decide (uptoBulkAll ds ≤ 1048576)
def OpenSpec.upto (s : _root_.Go.ChangeSpec) : _root_.Go.OpenSpec := { _root_.Go.OpenSpec.ofChange s with cond := some uptoSmall }

/-- 'gaugerlaw06.NoteExact', WHERE WHAT IT READS IS OF BULK AT MOST 1048576: true; the input reads as it did. -/
def noteExactUptoRow : OpenClaim := { program := "ytciamgggblajoaadoor", sum := "6c57aa912894d44a2a75e42d338ebbef5cda0cd7d23781780c29d08ee5b5b9ba", func := "gauger/gaugerlaw06.NoteExact", spec := "noteExact", inPlace := ["internal/abi.NoEscape", "internal/bytealg.MakeNoZero"], unfollowed := true, recurses := true, named := ["gauger/crc.fourSteps"], apart := false, laid := [("gauger/crc.fourSteps", laid_gauger_crc_fourSteps)], narrowed := true }
def NoteExactUptoSaid : Prop := noteExactUptoRow.holds Tryd.pinned (OpenSpec.upto noteExactSpec)

/-- 'gaugerlaw07.DiaryExact', WHERE WHAT IT READS IS OF BULK AT MOST 1048576: true; the input reads as it did. -/
def diaryExactUptoRow : OpenClaim := { program := "ytciamgggblajoaadoor", sum := "6c57aa912894d44a2a75e42d338ebbef5cda0cd7d23781780c29d08ee5b5b9ba", func := "gauger/gaugerlaw07.DiaryExact", spec := "diaryExact", inPlace := ["internal/abi.NoEscape", "internal/bytealg.MakeNoZero"], unfollowed := true, recurses := true, named := ["gauger/crc.fourSteps"], apart := false, laid := [("gauger/crc.fourSteps", laid_gauger_crc_fourSteps)], narrowed := true }
def DiaryExactUptoSaid : Prop := diaryExactUptoRow.holds Tryd.pinned (OpenSpec.upto diaryExactSpec)

/-- 'gaugerlaw07.DiaryOpens', WHERE WHAT IT READS IS OF BULK AT MOST 1048576: true; the input reads as it did. -/
def diaryOpensUptoRow : OpenClaim := { program := "ytciamgggblajoaadoor", sum := "6c57aa912894d44a2a75e42d338ebbef5cda0cd7d23781780c29d08ee5b5b9ba", func := "gauger/gaugerlaw07.DiaryOpens", spec := "diaryOpens", inPlace := ["internal/abi.NoEscape", "internal/bytealg.MakeNoZero"], unfollowed := true, recurses := true, named := ["gauger/crc.fourSteps"], apart := false, laid := [("gauger/crc.fourSteps", laid_gauger_crc_fourSteps)], narrowed := true }
def DiaryOpensUptoSaid : Prop := diaryOpensUptoRow.holds Tryd.pinned (OpenSpec.upto diaryOpensSpec)

/-- 'gaugerlaw07.DiaryKeeps', WHERE WHAT IT READS IS OF BULK AT MOST 1048576: true; the input reads as it did. -/
def diaryKeepsUptoRow : OpenClaim := { program := "ytciamgggblajoaadoor", sum := "6c57aa912894d44a2a75e42d338ebbef5cda0cd7d23781780c29d08ee5b5b9ba", func := "gauger/gaugerlaw07.DiaryKeeps", spec := "diaryKeeps", inPlace := ["internal/abi.NoEscape", "internal/bytealg.MakeNoZero"], unfollowed := true, recurses := true, named := ["gauger/crc.fourSteps"], apart := false, laid := [("gauger/crc.fourSteps", laid_gauger_crc_fourSteps)], narrowed := true }
def DiaryKeepsUptoSaid : Prop := diaryKeepsUptoRow.holds Tryd.pinned (OpenSpec.upto diaryKeepsSpec)

/-- 'gaugerlaw07.DiaryHolds', WHERE WHAT IT READS IS OF BULK AT MOST 1048576: true; the input reads as it did. -/
def diaryHoldsUptoRow : OpenClaim := { program := "ytciamgggblajoaadoor", sum := "6c57aa912894d44a2a75e42d338ebbef5cda0cd7d23781780c29d08ee5b5b9ba", func := "gauger/gaugerlaw07.DiaryHolds", spec := "diaryHolds", inPlace := ["internal/abi.NoEscape", "internal/bytealg.MakeNoZero"], unfollowed := true, recurses := true, named := ["gauger/crc.fourSteps"], apart := false, laid := [("gauger/crc.fourSteps", laid_gauger_crc_fourSteps)], narrowed := true }
def DiaryHoldsUptoSaid : Prop := diaryHoldsUptoRow.holds Tryd.pinned (OpenSpec.upto diaryHoldsSpec)

end Rows
end Go.Proofs.YtciamgggblajoaaDoor
