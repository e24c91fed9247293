/-
  DERIVED. GIVEN WITH THE SEED: THE CARDS: each row of YtmnfoafpjmlbfaaGreatDoorRows.lean that lists a variable, with what it lists TIED to the program's text (the seventh form; the later family's looks); each row that meets fmt, with fmt's text TOLD by the authors' own Lean function (tested against real Go, not proved from fmt's source: count such statements apart). THE CARD IS WHAT COUNTS. Prove the row's statement (the work); the ties are given (YtmnfoafpjmlbfaaGreatDoorTie.lean); close each card by the builder's one call (the guide's Derived/Test/ToyasCard.lean, 'card_holds'). Laid BY PROGRAM, IN A SANDBOX (cutbox-door.mjs). By AI agents, Wed Nov 11 2026. No macro, syntax, notation, axiom, sorry.
-/
import Derived.Test.YtmnfoafpjmlbfaaGreatDoorRows
import GoSem.ClaimSeven
namespace Go.Proofs.YtmnfoafpjmlbfaaGreatDoor
namespace Rows

/-- THE TIED CARD OF 'gaugerlaw09.TrayExact'. -/
def trayExactCard : Claim7 := { stood := { row := trayExactRow, standIns := [], harness := (true, "8ce403049a69ce04c49c79c5da2d8cd0f2720cd3737c3ae7a5ed11bfd1a37da0"), looks := false }, kinds := [], alts := [], laidByText := true, laidKinds := [.data], laidTests := true, laidLooks := .later }
def TrayExactCardSaid : Prop := Claim7.holds Tryz.pinned (.plain (OpenSpec.ofChange trayExactSpec)) trayExactCard

/-- THE TIED CARD OF 'gaugerlaw09.TrayKeeps'. -/
def trayKeepsCard : Claim7 := { stood := { row := trayKeepsRow, standIns := [], harness := (true, "8ce403049a69ce04c49c79c5da2d8cd0f2720cd3737c3ae7a5ed11bfd1a37da0"), looks := false }, kinds := [], alts := [], laidByText := true, laidKinds := [.data], laidTests := true, laidLooks := .later }
def TrayKeepsCardSaid : Prop := Claim7.holds Tryz.pinned (.plain (OpenSpec.ofChange trayKeepsSpec)) trayKeepsCard

/-- THE SECOND FORM's CARD OF 'gaugerlaw09.TrayExact'. -/
def trayExactUptoCard : Claim7 := { stood := { row := trayExactUptoRow, standIns := [], harness := (true, "8ce403049a69ce04c49c79c5da2d8cd0f2720cd3737c3ae7a5ed11bfd1a37da0"), looks := false }, kinds := [], alts := [], laidByText := true, laidKinds := [.data], laidTests := true, laidLooks := .later }
def TrayExactUptoCardSaid : Prop := Claim7.holds Tryz.pinned (.plain (OpenSpec.upto trayExactSpec)) trayExactUptoCard

/-- THE SECOND FORM's CARD OF 'gaugerlaw09.TrayKeeps'. -/
def trayKeepsUptoCard : Claim7 := { stood := { row := trayKeepsUptoRow, standIns := [], harness := (true, "8ce403049a69ce04c49c79c5da2d8cd0f2720cd3737c3ae7a5ed11bfd1a37da0"), looks := false }, kinds := [], alts := [], laidByText := true, laidKinds := [.data], laidTests := true, laidLooks := .later }
def TrayKeepsUptoCardSaid : Prop := Claim7.holds Tryz.pinned (.plain (OpenSpec.upto trayKeepsSpec)) trayKeepsUptoCard
end Rows
end Go.Proofs.YtmnfoafpjmlbfaaGreatDoor
