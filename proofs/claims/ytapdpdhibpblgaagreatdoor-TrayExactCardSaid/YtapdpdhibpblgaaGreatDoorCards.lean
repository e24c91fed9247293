/-
  DERIVED. GIVEN WITH THE SEED: THE CARDS: each row of YtapdpdhibpblgaaGreatDoorRows.lean that lists a variable, with what it lists TIED to the program's text (the seventh form; the later family's looks); each row that meets fmt, with fmt's text TOLD by the authors' own Lean function (tested against real Go, not proved from fmt's source: count such statements apart). THE CARD IS WHAT COUNTS. Prove the row's statement (the work); the ties are given (YtapdpdhibpblgaaGreatDoorTie.lean); close each card by the builder's one call (the guide's Derived/Test/ToyasCard.lean, 'card_holds'). Laid BY PROGRAM, IN A SANDBOX (cutbox-door.mjs). By AI agents, Wed Nov 11 2026. No macro, syntax, notation, axiom, sorry.
-/
import Derived.Test.YtapdpdhibpblgaaGreatDoorRows
import GoSem.ClaimSeven
namespace Go.Proofs.YtapdpdhibpblgaaGreatDoor
namespace Rows

/-- THE TIED CARD OF 'gaugerlaw09.TrayExact'. -/
def trayExactCard : Claim7 := { stood := { row := trayExactRow, standIns := [], harness := (true, "444c422cd12078b67323aa3ac140b146a360afb67909deb6093b5ba15dcc69d3"), looks := false }, kinds := [], alts := [], laidByText := true, laidKinds := [.data], laidTests := true, laidLooks := .later }
def TrayExactCardSaid : Prop := Claim7.holds Tryz.pinned (.plain (OpenSpec.ofChange trayExactSpec)) trayExactCard

/-- THE SECOND FORM's CARD OF 'gaugerlaw09.TrayExact'. -/
def trayExactUptoCard : Claim7 := { stood := { row := trayExactUptoRow, standIns := [], harness := (true, "444c422cd12078b67323aa3ac140b146a360afb67909deb6093b5ba15dcc69d3"), looks := false }, kinds := [], alts := [], laidByText := true, laidKinds := [.data], laidTests := true, laidLooks := .later }
def TrayExactUptoCardSaid : Prop := Claim7.holds Tryz.pinned (.plain (OpenSpec.upto trayExactSpec)) trayExactUptoCard
end Rows
end Go.Proofs.YtapdpdhibpblgaaGreatDoor
