/-
  No cell of these rows narrows 'for every input' (looked for: loops, veiled, ifaces, maps, wideKeys, modest, calm, conditions, laid).
  DERIVED. THE GIVEN ROWS OF THIS SEAT. 2 by the template 'for every input the law returns true; each argument reads behind the call as it read before'; 0 by the template 'total and deterministic' (their statements: YtoofoalpffoheaaTotals.lean).
  GIVEN WITH THE SEED: the statements are not yours to turn. If you find one false, say at which input.
  Laid BY PROGRAM, IN A SANDBOX (cutbox-rows.mjs): the forced cells as the released guide's own fill.sh prints them over the translation f6baed7c328b5205… (all of the seat's roots in one cut). By AI agents, Wed Nov 11 2026. No macro, syntax, notation, axiom, sorry.
-/
import Derived.Test.YtoofoalpffoheaaChecked
import GoSem.Claim
import GoSem.ClaimJoined
import GoSem.ClaimMapViews
import Derived.JoinedTies
import Derived.KernelRfl
namespace Go.Proofs.Ytoofoalpffoheaa
/- THE CELL 'sum', in the pinned program and in every row, IS THE sha256 OF THE DUMP (.gsa) THAT YtoofoalpffoheaaProg.lean LOADS. Nothing in Lean hashes anything: it is a label: what it is worth is what the hold of that sum in a sandbox is worth. -/
noncomputable def Try.pinned : Pinned := { name := "ytoofoalpffoheaa", sum := "f6baed7c328b5205a9b08b4fd0c7fd06f24f3fc2bda870544a1dedb7036a1c83", checked := Try.checked }
namespace Rows
def none {H : Type} : Left H := { results := [], args := [] }

/-- 'gaugerlaw17.PlanTotals': WHATEVER THE INPUT: true; the input reads as it did. -/
def planTotalsSpec : ChangeSpec := { name := "planTotals", fn := fun _ => fun
  | [d1, d2, d3, d4] => { results := [.lit (.bool true)], args := [d1, d2, d3, d4] }
  | _ => none }
def planTotalsRow : OpenClaim := { program := "ytoofoalpffoheaa", sum := "f6baed7c328b5205a9b08b4fd0c7fd06f24f3fc2bda870544a1dedb7036a1c83", func := "gauger/gaugerlaw17.PlanTotals", spec := "planTotals", inPlace := ["internal/abi.NoEscape", "math/bits.Add64"], apart := false }
def PlanTotalsSaid : Prop := planTotalsRow.holds Try.pinned (OpenSpec.ofChange planTotalsSpec)

/-- ITS FALSE NEIGHBOUR: 'it returns false'. Refute it at one input. -/
def planTotalsWrong : ChangeSpec := { name := "planTotals", fn := fun _ => fun
  | [d1, d2, d3, d4] => { results := [.lit (.bool false)], args := [d1, d2, d3, d4] }
  | _ => none }
def PlanTotalsWrongFalsely : Prop := planTotalsRow.holds Try.pinned (OpenSpec.ofChange planTotalsWrong)

/-- 'gaugerlaw17.PlanSums': WHATEVER THE INPUT: true; the input reads as it did. -/
def planSumsSpec : ChangeSpec := { name := "planSums", fn := fun _ => fun
  | [d1, d2, d3] => { results := [.lit (.bool true)], args := [d1, d2, d3] }
  | _ => none }
def planSumsRow : OpenClaim := { program := "ytoofoalpffoheaa", sum := "f6baed7c328b5205a9b08b4fd0c7fd06f24f3fc2bda870544a1dedb7036a1c83", func := "gauger/gaugerlaw17.PlanSums", spec := "planSums", inPlace := ["internal/abi.NoEscape", "math/bits.Add64"], apart := false }
def PlanSumsSaid : Prop := planSumsRow.holds Try.pinned (OpenSpec.ofChange planSumsSpec)

/-- ITS FALSE NEIGHBOUR: 'it returns false'. Refute it at one input. -/
def planSumsWrong : ChangeSpec := { name := "planSums", fn := fun _ => fun
  | [d1, d2, d3] => { results := [.lit (.bool false)], args := [d1, d2, d3] }
  | _ => none }
def PlanSumsWrongFalsely : Prop := planSumsRow.holds Try.pinned (OpenSpec.ofChange planSumsWrong)

/- THE SECOND FORM. 'bulk': how many values and letters a reading holds, each counted each time it is reached (what is shared counts as often as it is met; a slice's spare places count too). A statement '..UptoSaid' is the law's where the arguments, and the package variables that the reading takes, are together of bulk at most 1048576: NARROWER than '..Said'. Prove '..Said' where nothing that the law and all that it calls make is longer than what came in: it says more and counts as full. Else prove '..UptoSaid'. A law counts once. -/
mutual
def uptoBulk {H : Type} : DataW H → Nat
  | .lit (.string bytes) => bytes.length + 1
  | .lit _ => 1
  | .nil => 1
  | .ptr d => uptoBulk d + 1
  | .slice elems spare => uptoBulkAll elems + uptoBulkAll spare + 1
  | .agg parts => uptoBulkAll parts + 1
  | .iface _ d => uptoBulk d + 1
  | .map entries => uptoBulkEntries entries + 1
  | .held _ => 1
def uptoBulkAll {H : Type} : List (DataW H) → Nat
  | [] => 0
  | d :: r => uptoBulk d + uptoBulkAll r
def uptoBulkEntries {H : Type} : List (Lit × DataW H) → Nat
  | [] => 0
  | x :: r => uptoBulkEntry x + uptoBulkEntries r
def uptoBulkEntry {H : Type} : Lit × DataW H → Nat
  | (.string bytes, d) => bytes.length + uptoBulk d + 1
  | (_, d) => uptoBulk d + 1
 end
def uptoSmall : (H : Type) → List (DataW H) → Bool := fun _ ds => decide (uptoBulkAll ds ≤ 1048576)
def OpenSpec.upto (s : _root_.Go.ChangeSpec) : _root_.Go.OpenSpec := { _root_.Go.OpenSpec.ofChange s with cond := some uptoSmall }

/-- 'gaugerlaw17.PlanTotals', WHERE WHAT IT READS IS OF BULK AT MOST 1048576: true; the input reads as it did. -/
def planTotalsUptoRow : OpenClaim := { program := "ytoofoalpffoheaa", sum := "f6baed7c328b5205a9b08b4fd0c7fd06f24f3fc2bda870544a1dedb7036a1c83", func := "gauger/gaugerlaw17.PlanTotals", spec := "planTotals", inPlace := ["internal/abi.NoEscape", "math/bits.Add64"], apart := false, narrowed := true }
def PlanTotalsUptoSaid : Prop := planTotalsUptoRow.holds Try.pinned (OpenSpec.upto planTotalsSpec)

/-- 'gaugerlaw17.PlanSums', WHERE WHAT IT READS IS OF BULK AT MOST 1048576: true; the input reads as it did. -/
def planSumsUptoRow : OpenClaim := { program := "ytoofoalpffoheaa", sum := "f6baed7c328b5205a9b08b4fd0c7fd06f24f3fc2bda870544a1dedb7036a1c83", func := "gauger/gaugerlaw17.PlanSums", spec := "planSums", inPlace := ["internal/abi.NoEscape", "math/bits.Add64"], apart := false, narrowed := true }
def PlanSumsUptoSaid : Prop := planSumsUptoRow.holds Try.pinned (OpenSpec.upto planSumsSpec)

end Rows
end Go.Proofs.Ytoofoalpffoheaa
