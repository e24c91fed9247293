/-
  No cell of these rows narrows 'for every input' (looked for: loops, veiled, ifaces, maps, wideKeys, modest, calm, conditions, laid).
  DERIVED. THE GIVEN ROWS OF THIS SEAT. 3 by the template 'for every input the law returns true; each argument reads behind the call as it read before'; 0 by the template 'total and deterministic' (their statements: YtalaipmhihokjaaTotals.lean).
  GIVEN WITH THE SEED: the statements are not yours to turn. If you find one false, say at which input.
  Laid BY PROGRAM, IN A SANDBOX (cutbox-rows.mjs): the forced cells as the released guide's own fill.sh prints them over the translation 51d92f6c49c87d4d… (all of the seat's roots in one cut). By AI agents, Wed Nov 11 2026. No macro, syntax, notation, axiom, sorry.
-/
import Derived.Test.YtalaipmhihokjaaChecked
import GoSem.Claim
import GoSem.ClaimJoined
import GoSem.ClaimMapViews
import Derived.JoinedTies
import Derived.KernelRfl
namespace Go.Proofs.Ytalaipmhihokjaa
/- THE CELL 'sum', in the pinned program and in every row, IS THE sha256 OF THE DUMP (.gsa) THAT YtalaipmhihokjaaProg.lean LOADS. Nothing in Lean hashes anything: it is a label: what it is worth is what the hold of that sum in a sandbox is worth. -/
noncomputable def Try.pinned : Pinned := { name := "ytalaipmhihokjaa", sum := "51d92f6c49c87d4ddaa92c2dd9b6c1766d31a811923b3d8a750a0a517aeba343", checked := Try.checked }
namespace Rows
def none {H : Type} : Left H := { results := [], args := [] }

/-- 'gaugerlaw04.SlabExact': WHATEVER THE INPUT: true; the input reads as it did. -/
def slabExactSpec : ChangeSpec := { name := "slabExact", fn := fun _ => fun
  | [d1, d2] => { results := [.lit (.bool true)], args := [d1, d2] }
  | _ => none }
def slabExactRow : OpenClaim := { program := "ytalaipmhihokjaa", sum := "51d92f6c49c87d4ddaa92c2dd9b6c1766d31a811923b3d8a750a0a517aeba343", func := "gauger/gaugerlaw04.SlabExact", spec := "slabExact", apart := false }
def SlabExactSaid : Prop := slabExactRow.holds Try.pinned (OpenSpec.ofChange slabExactSpec)

/-- ITS FALSE NEIGHBOUR: 'it returns false'. Refute it at one input. -/
def slabExactWrong : ChangeSpec := { name := "slabExact", fn := fun _ => fun
  | [d1, d2] => { results := [.lit (.bool false)], args := [d1, d2] }
  | _ => none }
def SlabExactWrongFalsely : Prop := slabExactRow.holds Try.pinned (OpenSpec.ofChange slabExactWrong)

/-- 'gaugerlaw04.SlabSafe': WHATEVER THE INPUT: true; the input reads as it did. -/
def slabSafeSpec : ChangeSpec := { name := "slabSafe", fn := fun _ => fun
  | [d1, d2, d3] => { results := [.lit (.bool true)], args := [d1, d2, d3] }
  | _ => none }
def slabSafeRow : OpenClaim := { program := "ytalaipmhihokjaa", sum := "51d92f6c49c87d4ddaa92c2dd9b6c1766d31a811923b3d8a750a0a517aeba343", func := "gauger/gaugerlaw04.SlabSafe", spec := "slabSafe", apart := false }
def SlabSafeSaid : Prop := slabSafeRow.holds Try.pinned (OpenSpec.ofChange slabSafeSpec)

/-- ITS FALSE NEIGHBOUR: 'it returns false'. Refute it at one input. -/
def slabSafeWrong : ChangeSpec := { name := "slabSafe", fn := fun _ => fun
  | [d1, d2, d3] => { results := [.lit (.bool false)], args := [d1, d2, d3] }
  | _ => none }
def SlabSafeWrongFalsely : Prop := slabSafeRow.holds Try.pinned (OpenSpec.ofChange slabSafeWrong)

/-- 'gaugerlaw04.SlabSizes': WHATEVER THE INPUT: true; the input reads as it did. -/
def slabSizesSpec : ChangeSpec := { name := "slabSizes", fn := fun _ => fun
  | [d1, d2, d3] => { results := [.lit (.bool true)], args := [d1, d2, d3] }
  | _ => none }
def slabSizesRow : OpenClaim := { program := "ytalaipmhihokjaa", sum := "51d92f6c49c87d4ddaa92c2dd9b6c1766d31a811923b3d8a750a0a517aeba343", func := "gauger/gaugerlaw04.SlabSizes", spec := "slabSizes", apart := false }
def SlabSizesSaid : Prop := slabSizesRow.holds Try.pinned (OpenSpec.ofChange slabSizesSpec)

/-- ITS FALSE NEIGHBOUR: 'it returns false'. Refute it at one input. -/
def slabSizesWrong : ChangeSpec := { name := "slabSizes", fn := fun _ => fun
  | [d1, d2, d3] => { results := [.lit (.bool false)], args := [d1, d2, d3] }
  | _ => none }
def SlabSizesWrongFalsely : Prop := slabSizesRow.holds Try.pinned (OpenSpec.ofChange slabSizesWrong)

/- THE SECOND FORM. 'bulk': how many values and letters a reading holds, each counted each time it is reached (what is shared counts as often as it is met; a slice's spare places count too). A statement '..UptoSaid' is the law's where the arguments, and the package variables that the reading takes, are together of bulk at most 1048576: NARROWER than '..Said'. Prove '..Said' where nothing that the law and all that it calls make is longer than what came in: it says more and counts as full. Else prove '..UptoSaid'. A law counts once. -/
mutual
def uptoBulk {H : Type} : DataW H → Nat
  | .lit (.string bytes) => bytes.length + 1
  | .lit _ => 1
  | .nil => 1
  | .ptr d => uptoBulk d + 1
  | .slice elems spare => uptoBulkAll elems + uptoBulkAll spare + 1
  | .agg parts => uptoBulkAll parts + 1
  | .iface _ d => uptoBulk d + 1
  | .map entries => uptoBulkEntries entries + 1
  | .held _ => 1
def uptoBulkAll {H : Type} : List (DataW H) → Nat
  | [] => 0
  | d :: r => uptoBulk d + uptoBulkAll r
def uptoBulkEntries {H : Type} : List (Lit × DataW H) → Nat
  | [] => 0
  | x :: r => uptoBulkEntry x + uptoBulkEntries r
def uptoBulkEntry {H : Type} : Lit × DataW H → Nat
  | (.string bytes, d) => bytes.length + uptoBulk d + 1
  | (_, d) => uptoBulk d + 1
 end
def uptoSmall : (H : Type) → List (DataW H) → Bool := fun _ ds => decide (uptoBulkAll ds ≤ 1048576)
def OpenSpec.upto (s : _root_.Go.ChangeSpec) : _root_.Go.OpenSpec := { _root_.Go.OpenSpec.ofChange s with cond := some uptoSmall }

/-- 'gaugerlaw04.SlabExact', WHERE WHAT IT READS IS OF BULK AT MOST 1048576: true; the input reads as it did. -/
def slabExactUptoRow : OpenClaim := { program := "ytalaipmhihokjaa", sum := "51d92f6c49c87d4ddaa92c2dd9b6c1766d31a811923b3d8a750a0a517aeba343", func := "gauger/gaugerlaw04.SlabExact", spec := "slabExact", apart := false, narrowed := true }
def SlabExactUptoSaid : Prop := slabExactUptoRow.holds Try.pinned (OpenSpec.upto slabExactSpec)

/-- 'gaugerlaw04.SlabSafe', WHERE WHAT IT READS IS OF BULK AT MOST 1048576: true; the input reads as it did. -/
def slabSafeUptoRow : OpenClaim := { program := "ytalaipmhihokjaa", sum := "51d92f6c49c87d4ddaa92c2dd9b6c1766d31a811923b3d8a750a0a517aeba343", func := "gauger/gaugerlaw04.SlabSafe", spec := "slabSafe", apart := false, narrowed := true }
def SlabSafeUptoSaid : Prop := slabSafeUptoRow.holds Try.pinned (OpenSpec.upto slabSafeSpec)

/-- 'gaugerlaw04.SlabSizes', WHERE WHAT IT READS IS OF BULK AT MOST 1048576: true; the input reads as it did. -/
def slabSizesUptoRow : OpenClaim := { program := "ytalaipmhihokjaa", sum := "51d92f6c49c87d4ddaa92c2dd9b6c1766d31a811923b3d8a750a0a517aeba343", func := "gauger/gaugerlaw04.SlabSizes", spec := "slabSizes", apart := false, narrowed := true }
def SlabSizesUptoSaid : Prop := slabSizesUptoRow.holds Try.pinned (OpenSpec.upto slabSizesSpec)

end Rows
end Go.Proofs.Ytalaipmhihokjaa
