/-
  No cell of these rows narrows 'for every input' (looked for: loops, veiled, ifaces, maps, wideKeys, modest, calm, conditions, laid).
  DERIVED. THE GIVEN ROWS OF THIS SEAT. 5 by the template 'for every input the law returns true; each argument reads behind the call as it read before'; 0 by the template 'total and deterministic' (their statements: YthoaangmekkcmaaTotals.lean).
  GIVEN WITH THE SEED: the statements are not yours to turn. If you find one false, say at which input.
  Laid BY PROGRAM, IN A SANDBOX (cutbox-rows.mjs): the forced cells as the released guide's own fill.sh prints them over the translation f7ef18a84c4d375e… (all of the seat's roots in one cut). By AI agents, Wed Nov 11 2026. No macro, syntax, notation, axiom, sorry.
-/
import Derived.Test.YthoaangmekkcmaaChecked
import GoSem.Claim
import GoSem.ClaimJoined
import GoSem.ClaimMapViews
import Derived.JoinedTies
import Derived.KernelRfl
namespace Go.Proofs.Ythoaangmekkcmaa
/- THE CELL 'sum', in the pinned program and in every row, IS THE sha256 OF THE DUMP (.gsa) THAT YthoaangmekkcmaaProg.lean LOADS. Nothing in Lean hashes anything: it is a label: what it is worth is what the hold of that sum in a sandbox is worth. -/
noncomputable def Try.pinned : Pinned := { name := "ythoaangmekkcmaa", sum := "f7ef18a84c4d375e5311332f89f558e66f77f298b1c0a9cfc1038f2d39579562", checked := Try.checked }
namespace Rows
def none {H : Type} : Left H := { results := [], args := [] }

/-- 'gaugerlaw10.BlinkMap': WHATEVER THE INPUT: true; the input reads as it did. -/
def blinkMapSpec : ChangeSpec := { name := "blinkMap", fn := fun _ => fun
  | [d] => { results := [.lit (.bool true)], args := [d] }
  | _ => none }
def blinkMapRow : OpenClaim := { program := "ythoaangmekkcmaa", sum := "f7ef18a84c4d375e5311332f89f558e66f77f298b1c0a9cfc1038f2d39579562", func := "gauger/gaugerlaw10.BlinkMap", spec := "blinkMap", inPlace := ["internal/abi.NoEscape", "slices.overlaps[gauger/api.Entry]"], unfollowed := true, recurses := true, apart := false }
def BlinkMapSaid : Prop := blinkMapRow.holds Try.pinned (OpenSpec.ofChange blinkMapSpec)

/-- ITS FALSE NEIGHBOUR: 'it returns false'. Refute it at one input. -/
def blinkMapWrong : ChangeSpec := { name := "blinkMap", fn := fun _ => fun
  | [d] => { results := [.lit (.bool false)], args := [d] }
  | _ => none }
def BlinkMapWrongFalsely : Prop := blinkMapRow.holds Try.pinned (OpenSpec.ofChange blinkMapWrong)

/-- 'gaugerlaw10.BlinkSeeks': WHATEVER THE INPUT: true; the input reads as it did. -/
def blinkSeeksSpec : ChangeSpec := { name := "blinkSeeks", fn := fun _ => fun
  | [d1, d2, d3] => { results := [.lit (.bool true)], args := [d1, d2, d3] }
  | _ => none }
def blinkSeeksRow : OpenClaim := { program := "ythoaangmekkcmaa", sum := "f7ef18a84c4d375e5311332f89f558e66f77f298b1c0a9cfc1038f2d39579562", func := "gauger/gaugerlaw10.BlinkSeeks", spec := "blinkSeeks", inPlace := ["internal/abi.NoEscape", "slices.overlaps[gauger/api.Entry]"], unfollowed := true, recurses := true, apart := false }
def BlinkSeeksSaid : Prop := blinkSeeksRow.holds Try.pinned (OpenSpec.ofChange blinkSeeksSpec)

/-- ITS FALSE NEIGHBOUR: 'it returns false'. Refute it at one input. -/
def blinkSeeksWrong : ChangeSpec := { name := "blinkSeeks", fn := fun _ => fun
  | [d1, d2, d3] => { results := [.lit (.bool false)], args := [d1, d2, d3] }
  | _ => none }
def BlinkSeeksWrongFalsely : Prop := blinkSeeksRow.holds Try.pinned (OpenSpec.ofChange blinkSeeksWrong)

/-- 'gaugerlaw10.BlinkLate': WHATEVER THE INPUT: true; the input reads as it did. -/
def blinkLateSpec : ChangeSpec := { name := "blinkLate", fn := fun _ => fun
  | [d1, d2] => { results := [.lit (.bool true)], args := [d1, d2] }
  | _ => none }
def blinkLateRow : OpenClaim := { program := "ythoaangmekkcmaa", sum := "f7ef18a84c4d375e5311332f89f558e66f77f298b1c0a9cfc1038f2d39579562", func := "gauger/gaugerlaw10.BlinkLate", spec := "blinkLate", inPlace := ["internal/abi.NoEscape", "slices.overlaps[gauger/api.Entry]"], unfollowed := true, recurses := true, apart := false }
def BlinkLateSaid : Prop := blinkLateRow.holds Try.pinned (OpenSpec.ofChange blinkLateSpec)

/-- ITS FALSE NEIGHBOUR: 'it returns false'. Refute it at one input. -/
def blinkLateWrong : ChangeSpec := { name := "blinkLate", fn := fun _ => fun
  | [d1, d2] => { results := [.lit (.bool false)], args := [d1, d2] }
  | _ => none }
def BlinkLateWrongFalsely : Prop := blinkLateRow.holds Try.pinned (OpenSpec.ofChange blinkLateWrong)

/-- 'gaugerlaw10.BlinkShrinks': WHATEVER THE INPUT: true; the input reads as it did. -/
def blinkShrinksSpec : ChangeSpec := { name := "blinkShrinks", fn := fun _ => fun
  | [d] => { results := [.lit (.bool true)], args := [d] }
  | _ => none }
def blinkShrinksRow : OpenClaim := { program := "ythoaangmekkcmaa", sum := "f7ef18a84c4d375e5311332f89f558e66f77f298b1c0a9cfc1038f2d39579562", func := "gauger/gaugerlaw10.BlinkShrinks", spec := "blinkShrinks", inPlace := ["internal/abi.NoEscape", "slices.overlaps[gauger/api.Entry]"], unfollowed := true, recurses := true, apart := false }
def BlinkShrinksSaid : Prop := blinkShrinksRow.holds Try.pinned (OpenSpec.ofChange blinkShrinksSpec)

/-- ITS FALSE NEIGHBOUR: 'it returns false'. Refute it at one input. -/
def blinkShrinksWrong : ChangeSpec := { name := "blinkShrinks", fn := fun _ => fun
  | [d] => { results := [.lit (.bool false)], args := [d] }
  | _ => none }
def BlinkShrinksWrongFalsely : Prop := blinkShrinksRow.holds Try.pinned (OpenSpec.ofChange blinkShrinksWrong)

/-- 'gaugerlaw10.BlinkBroken': WHATEVER THE INPUT: true; the input reads as it did. -/
def blinkBrokenSpec : ChangeSpec := { name := "blinkBroken", fn := fun _ => fun
  | [d1, d2, d3] => { results := [.lit (.bool true)], args := [d1, d2, d3] }
  | _ => none }
def blinkBrokenRow : OpenClaim := { program := "ythoaangmekkcmaa", sum := "f7ef18a84c4d375e5311332f89f558e66f77f298b1c0a9cfc1038f2d39579562", func := "gauger/gaugerlaw10.BlinkBroken", spec := "blinkBroken", inPlace := ["internal/abi.NoEscape", "slices.overlaps[gauger/api.Entry]"], unfollowed := true, recurses := true, apart := false }
def BlinkBrokenSaid : Prop := blinkBrokenRow.holds Try.pinned (OpenSpec.ofChange blinkBrokenSpec)

/-- ITS FALSE NEIGHBOUR: 'it returns false'. Refute it at one input. -/
def blinkBrokenWrong : ChangeSpec := { name := "blinkBroken", fn := fun _ => fun
  | [d1, d2, d3] => { results := [.lit (.bool false)], args := [d1, d2, d3] }
  | _ => none }
def BlinkBrokenWrongFalsely : Prop := blinkBrokenRow.holds Try.pinned (OpenSpec.ofChange blinkBrokenWrong)

/- THE SECOND FORM. 'bulk': how many values and letters a reading holds, each counted each time it is reached (what is shared counts as often as it is met; a slice's spare places count too). A statement '..UptoSaid' is the law's where the arguments, and the package variables that the reading takes, are together of bulk at most 1048576: NARROWER than '..Said'. Prove '..Said' where nothing that the law and all that it calls make is longer than what came in: it says more and counts as full. Else prove '..UptoSaid'. A law counts once. -/
mutual
def uptoBulk {H : Type} : DataW H → Nat
  | .lit (.string bytes) => bytes.length + 1
  | .lit _ => 1
  | .nil => 1
  | .ptr d => uptoBulk d + 1
  | .slice elems spare => uptoBulkAll elems + uptoBulkAll spare + 1
  | .agg parts => uptoBulkAll parts + 1
  | .iface _ d => uptoBulk d + 1
  | .map entries => uptoBulkEntries entries + 1
  | .held _ => 1
def uptoBulkAll {H : Type} : List (DataW H) → Nat
  | [] => 0
  | d :: r => uptoBulk d + uptoBulkAll r
def uptoBulkEntries {H : Type} : List (Lit × DataW H) → Nat
  | [] => 0
  | x :: r => uptoBulkEntry x + uptoBulkEntries r
def uptoBulkEntry {H : Type} : Lit × DataW H → Nat
  | (.string bytes, d) => bytes.length + uptoBulk d + 1
  | (_, d) => uptoBulk d + 1
 end
def uptoSmall : (H : Type) → List (DataW H) → Bool := fun _ ds => decide (uptoBulkAll ds ≤ 1048576)
def OpenSpec.upto (s : _root_.Go.ChangeSpec) : _root_.Go.OpenSpec := { _root_.Go.OpenSpec.ofChange s with cond := some uptoSmall }

/-- 'gaugerlaw10.BlinkMap', WHERE WHAT IT READS IS OF BULK AT MOST 1048576: true; the input reads as it did. -/
def blinkMapUptoRow : OpenClaim := { program := "ythoaangmekkcmaa", sum := "f7ef18a84c4d375e5311332f89f558e66f77f298b1c0a9cfc1038f2d39579562", func := "gauger/gaugerlaw10.BlinkMap", spec := "blinkMap", inPlace := ["internal/abi.NoEscape", "slices.overlaps[gauger/api.Entry]"], unfollowed := true, recurses := true, apart := false, narrowed := true }
def BlinkMapUptoSaid : Prop := blinkMapUptoRow.holds Try.pinned (OpenSpec.upto blinkMapSpec)

/-- 'gaugerlaw10.BlinkSeeks', WHERE WHAT IT READS IS OF BULK AT MOST 1048576: true; the input reads as it did. -/
def blinkSeeksUptoRow : OpenClaim := { program := "ythoaangmekkcmaa", sum := "f7ef18a84c4d375e5311332f89f558e66f77f298b1c0a9cfc1038f2d39579562", func := "gauger/gaugerlaw10.BlinkSeeks", spec := "blinkSeeks", inPlace := ["internal/abi.NoEscape", "slices.overlaps[gauger/api.Entry]"], unfollowed := true, recurses := true, apart := false, narrowed := true }
def BlinkSeeksUptoSaid : Prop := blinkSeeksUptoRow.holds Try.pinned (OpenSpec.upto blinkSeeksSpec)

/-- 'gaugerlaw10.BlinkLate', WHERE WHAT IT READS IS OF BULK AT MOST 1048576: true; the input reads as it did. -/
def blinkLateUptoRow : OpenClaim := { program := "ythoaangmekkcmaa", sum := "f7ef18a84c4d375e5311332f89f558e66f77f298b1c0a9cfc1038f2d39579562", func := "gauger/gaugerlaw10.BlinkLate", spec := "blinkLate", inPlace := ["internal/abi.NoEscape", "slices.overlaps[gauger/api.Entry]"], unfollowed := true, recurses := true, apart := false, narrowed := true }
def BlinkLateUptoSaid : Prop := blinkLateUptoRow.holds Try.pinned (OpenSpec.upto blinkLateSpec)

/-- 'gaugerlaw10.BlinkShrinks', WHERE WHAT IT READS IS OF BULK AT MOST 1048576: true; the input reads as it did. -/
def blinkShrinksUptoRow : OpenClaim := { program := "ythoaangmekkcmaa", sum := "f7ef18a84c4d375e5311332f89f558e66f77f298b1c0a9cfc1038f2d39579562", func := "gauger/gaugerlaw10.BlinkShrinks", spec := "blinkShrinks", inPlace := ["internal/abi.NoEscape", "slices.overlaps[gauger/api.Entry]"], unfollowed := true, recurses := true, apart := false, narrowed := true }
def BlinkShrinksUptoSaid : Prop := blinkShrinksUptoRow.holds Try.pinned (OpenSpec.upto blinkShrinksSpec)

/-- 'gaugerlaw10.BlinkBroken', WHERE WHAT IT READS IS OF BULK AT MOST 1048576: true; the input reads as it did. -/
def blinkBrokenUptoRow : OpenClaim := { program := "ythoaangmekkcmaa", sum := "f7ef18a84c4d375e5311332f89f558e66f77f298b1c0a9cfc1038f2d39579562", func := "gauger/gaugerlaw10.BlinkBroken", spec := "blinkBroken", inPlace := ["internal/abi.NoEscape", "slices.overlaps[gauger/api.Entry]"], unfollowed := true, recurses := true, apart := false, narrowed := true }
def BlinkBrokenUptoSaid : Prop := blinkBrokenUptoRow.holds Try.pinned (OpenSpec.upto blinkBrokenSpec)

end Rows
end Go.Proofs.Ythoaangmekkcmaa
