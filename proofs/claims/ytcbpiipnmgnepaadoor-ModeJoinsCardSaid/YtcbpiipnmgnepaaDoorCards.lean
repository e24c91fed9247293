/-
  DERIVED. GIVEN WITH THE SEED: THE CARDS: each row of YtcbpiipnmgnepaaDoorRows.lean that lists a variable, with what it lists TIED to the program's text (the seventh form; the later family's looks); each row that meets fmt, with fmt's text TOLD by the authors' own Lean function (tested against real Go, not proved from fmt's source: count such statements apart). THE CARD IS WHAT COUNTS. Prove the row's statement (the work); the ties are given (YtcbpiipnmgnepaaDoorTie.lean); close each card by the builder's one call (the guide's Derived/Test/ToyasCard.lean, 'card_holds'). Laid BY PROGRAM, IN A SANDBOX (cutbox-door.mjs). By AI agents, Wed Nov 11 2026. No macro, syntax, notation, axiom, sorry.
-/
import Derived.Test.YtcbpiipnmgnepaaDoorRows
import GoSem.ClaimSeven
namespace Go.Proofs.YtcbpiipnmgnepaaDoor
namespace Rows

/-- THE TIED CARD OF 'gaugerlaw12.ModeExact'. -/
def modeExactCard : Claim7 := { stood := { row := modeExactRow, standIns := [], harness := (true, "037e4848fc8c8f964a3170b478cfa399beac9b449344cb08a94b3c494f29fd6e"), looks := false }, kinds := [], alts := [], laidByText := true, laidKinds := [.data, .wider, .wider], laidTests := true, laidLooks := .later }
def ModeExactCardSaid : Prop := Claim7.holds Tryd.pinned (.plain (OpenSpec.ofChange modeExactSpec)) modeExactCard

/-- THE TIED CARD OF 'gaugerlaw12.ModeJoins'. -/
def modeJoinsCard : Claim7 := { stood := { row := modeJoinsRow, standIns := [], harness := (true, "037e4848fc8c8f964a3170b478cfa399beac9b449344cb08a94b3c494f29fd6e"), looks := false }, kinds := [], alts := [], laidByText := true, laidKinds := [.data, .wider, .wider], laidTests := true, laidLooks := .later }
def ModeJoinsCardSaid : Prop := Claim7.holds Tryd.pinned (.plain (OpenSpec.ofChange modeJoinsSpec)) modeJoinsCard

/-- THE TIED CARD OF 'gaugerlaw12.ModeOrder'. -/
def modeOrderCard : Claim7 := { stood := { row := modeOrderRow, standIns := [], harness := (true, "037e4848fc8c8f964a3170b478cfa399beac9b449344cb08a94b3c494f29fd6e"), looks := false }, kinds := [], alts := [], laidByText := true, laidKinds := [.data, .wider, .wider], laidTests := true, laidLooks := .later }
def ModeOrderCardSaid : Prop := Claim7.holds Tryd.pinned (.plain (OpenSpec.ofChange modeOrderSpec)) modeOrderCard

/-- THE SECOND FORM's CARD OF 'gaugerlaw12.ModeExact'. -/
def modeExactUptoCard : Claim7 := { stood := { row := modeExactUptoRow, standIns := [], harness := (true, "037e4848fc8c8f964a3170b478cfa399beac9b449344cb08a94b3c494f29fd6e"), looks := false }, kinds := [], alts := [], laidByText := true, laidKinds := [.data, .wider, .wider], laidTests := true, laidLooks := .later }
def ModeExactUptoCardSaid : Prop := Claim7.holds Tryd.pinned (.plain (OpenSpec.upto modeExactSpec)) modeExactUptoCard

/-- THE SECOND FORM's CARD OF 'gaugerlaw12.ModeJoins'. -/
def modeJoinsUptoCard : Claim7 := { stood := { row := modeJoinsUptoRow, standIns := [], harness := (true, "037e4848fc8c8f964a3170b478cfa399beac9b449344cb08a94b3c494f29fd6e"), looks := false }, kinds := [], alts := [], laidByText := true, laidKinds := [.data, .wider, .wider], laidTests := true, laidLooks := .later }
def ModeJoinsUptoCardSaid : Prop := Claim7.holds Tryd.pinned (.plain (OpenSpec.upto modeJoinsSpec)) modeJoinsUptoCard

/-- THE SECOND FORM's CARD OF 'gaugerlaw12.ModeOrder'. -/
def modeOrderUptoCard : Claim7 := { stood := { row := modeOrderUptoRow, standIns := [], harness := (true, "037e4848fc8c8f964a3170b478cfa399beac9b449344cb08a94b3c494f29fd6e"), looks := false }, kinds := [], alts := [], laidByText := true, laidKinds := [.data, .wider, .wider], laidTests := true, laidLooks := .later }
def ModeOrderUptoCardSaid : Prop := Claim7.holds Tryd.pinned (.plain (OpenSpec.upto modeOrderSpec)) modeOrderUptoCard
end Rows
end Go.Proofs.YtcbpiipnmgnepaaDoor
