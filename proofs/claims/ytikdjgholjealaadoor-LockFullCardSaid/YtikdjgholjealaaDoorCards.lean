/-
  DERIVED. GIVEN WITH THE SEED: THE CARDS: each row of YtikdjgholjealaaDoorRows.lean that lists a variable, with what it lists TIED to the program's text (the seventh form; the later family's looks); each row that meets fmt, with fmt's text TOLD by the authors' own Lean function (tested against real Go, not proved from fmt's source: count such statements apart). THE CARD IS WHAT COUNTS. Prove the row's statement (the work); the ties are given (YtikdjgholjealaaDoorTie.lean); close each card by the builder's one call (the guide's Derived/Test/ToyasCard.lean, 'card_holds'). Laid BY PROGRAM, IN A SANDBOX (cutbox-door.mjs). By AI agents, Wed Nov 11 2026. No macro, syntax, notation, axiom, sorry.
-/
import Derived.Test.YtikdjgholjealaaDoorRows
import GoSem.ClaimSeven
namespace Go.Proofs.YtikdjgholjealaaDoor
namespace Rows

/-- THE TIED CARD OF 'gaugerlaw13.LockRow'. -/
def lockRowCard : Claim7 := { stood := { row := lockRowRow, standIns := [], harness := (true, "9b6cbf625f6ac2bdc4df5dfeff260aec97ce8d8041fdfad92d0826c7ad3549f5"), looks := false }, kinds := [], alts := [], laidByText := true, laidKinds := [.data, .wider, .wider], laidTests := true, laidLooks := .later }
def LockRowCardSaid : Prop := Claim7.holds Tryd.pinned (.plain (OpenSpec.ofChange lockRowSpec)) lockRowCard

/-- THE TIED CARD OF 'gaugerlaw13.LockFull'. -/
def lockFullCard : Claim7 := { stood := { row := lockFullRow, standIns := [], harness := (true, "9b6cbf625f6ac2bdc4df5dfeff260aec97ce8d8041fdfad92d0826c7ad3549f5"), looks := false }, kinds := [], alts := [], laidByText := true, laidKinds := [.data, .wider, .wider], laidTests := true, laidLooks := .later }
def LockFullCardSaid : Prop := Claim7.holds Tryd.pinned (.plain (OpenSpec.ofChange lockFullSpec)) lockFullCard

/-- THE TIED CARD OF 'gaugerlaw13.LockNames'. -/
def lockNamesCard : Claim7 := { stood := { row := lockNamesRow, standIns := [], harness := (true, "9b6cbf625f6ac2bdc4df5dfeff260aec97ce8d8041fdfad92d0826c7ad3549f5"), looks := false }, kinds := [], alts := [], laidByText := true, laidKinds := [.data, .wider, .wider], laidTests := true, laidLooks := .later }
def LockNamesCardSaid : Prop := Claim7.holds Tryd.pinned (.plain (OpenSpec.ofChange lockNamesSpec)) lockNamesCard

/-- THE SECOND FORM's CARD OF 'gaugerlaw13.LockRow'. -/
def lockRowUptoCard : Claim7 := { stood := { row := lockRowUptoRow, standIns := [], harness := (true, "9b6cbf625f6ac2bdc4df5dfeff260aec97ce8d8041fdfad92d0826c7ad3549f5"), looks := false }, kinds := [], alts := [], laidByText := true, laidKinds := [.data, .wider, .wider], laidTests := true, laidLooks := .later }
def LockRowUptoCardSaid : Prop := Claim7.holds Tryd.pinned (.plain (OpenSpec.upto lockRowSpec)) lockRowUptoCard

/-- THE SECOND FORM's CARD OF 'gaugerlaw13.LockFull'. -/
def lockFullUptoCard : Claim7 := { stood := { row := lockFullUptoRow, standIns := [], harness := (true, "9b6cbf625f6ac2bdc4df5dfeff260aec97ce8d8041fdfad92d0826c7ad3549f5"), looks := false }, kinds := [], alts := [], laidByText := true, laidKinds := [.data, .wider, .wider], laidTests := true, laidLooks := .later }
def LockFullUptoCardSaid : Prop := Claim7.holds Tryd.pinned (.plain (OpenSpec.upto lockFullSpec)) lockFullUptoCard

/-- THE SECOND FORM's CARD OF 'gaugerlaw13.LockNames'. -/
def lockNamesUptoCard : Claim7 := { stood := { row := lockNamesUptoRow, standIns := [], harness := (true, "9b6cbf625f6ac2bdc4df5dfeff260aec97ce8d8041fdfad92d0826c7ad3549f5"), looks := false }, kinds := [], alts := [], laidByText := true, laidKinds := [.data, .wider, .wider], laidTests := true, laidLooks := .later }
def LockNamesUptoCardSaid : Prop := Claim7.holds Tryd.pinned (.plain (OpenSpec.upto lockNamesSpec)) lockNamesUptoCard
end Rows
end Go.Proofs.YtikdjgholjealaaDoor
