/-
  DERIVED. GIVEN WITH THE SEED: THE CARDS: each row of YtikdjgholjealaaGreatDoorRows.lean that lists a variable, with what it lists TIED to the program's text (the seventh form; the later family's looks); each row that meets fmt, with fmt's text TOLD by the authors' own Lean function (tested against real Go, not proved from fmt's source: count such statements apart). THE CARD IS WHAT COUNTS. Prove the row's statement (the work); the ties are given (YtikdjgholjealaaGreatDoorTie.lean); close each card by the builder's one call (the guide's Derived/Test/ToyasCard.lean, 'card_holds'). Laid BY PROGRAM, IN A SANDBOX (cutbox-door.mjs). By AI agents, Wed Nov 11 2026. No macro, syntax, notation, axiom, sorry.
-/
import Derived.Test.YtikdjgholjealaaGreatDoorRows
import GoSem.ClaimSeven
namespace Go.Proofs.YtikdjgholjealaaGreatDoor
namespace Rows

/-- THE TIED CARD OF 'gaugerlaw13.LockApart'. -/
def lockApartCard : Claim7 := { stood := { row := lockApartRow, standIns := [], harness := (true, "744f649e6abc8e795df4f5b1c4e8023ecf48f33060f0d7aad6d8c9707c93b921"), looks := false }, kinds := [], alts := [], laidByText := true, laidKinds := [.data, .wider, .wider], laidTests := true, laidLooks := .later }
def LockApartCardSaid : Prop := Claim7.holds Tryz.pinned (.plain (OpenSpec.ofChange lockApartSpec)) lockApartCard

/-- THE TIED CARD OF 'gaugerlaw13.LockIncrements'. -/
def lockIncrementsCard : Claim7 := { stood := { row := lockIncrementsRow, standIns := [], harness := (true, "744f649e6abc8e795df4f5b1c4e8023ecf48f33060f0d7aad6d8c9707c93b921"), looks := false }, kinds := [], alts := [], laidByText := true, laidKinds := [.data, .wider, .wider], laidTests := true, laidLooks := .later }
def LockIncrementsCardSaid : Prop := Claim7.holds Tryz.pinned (.plain (OpenSpec.ofChange lockIncrementsSpec)) lockIncrementsCard

/-- THE SECOND FORM's CARD OF 'gaugerlaw13.LockApart'. -/
def lockApartUptoCard : Claim7 := { stood := { row := lockApartUptoRow, standIns := [], harness := (true, "744f649e6abc8e795df4f5b1c4e8023ecf48f33060f0d7aad6d8c9707c93b921"), looks := false }, kinds := [], alts := [], laidByText := true, laidKinds := [.data, .wider, .wider], laidTests := true, laidLooks := .later }
def LockApartUptoCardSaid : Prop := Claim7.holds Tryz.pinned (.plain (OpenSpec.upto lockApartSpec)) lockApartUptoCard

/-- THE SECOND FORM's CARD OF 'gaugerlaw13.LockIncrements'. -/
def lockIncrementsUptoCard : Claim7 := { stood := { row := lockIncrementsUptoRow, standIns := [], harness := (true, "744f649e6abc8e795df4f5b1c4e8023ecf48f33060f0d7aad6d8c9707c93b921"), looks := false }, kinds := [], alts := [], laidByText := true, laidKinds := [.data, .wider, .wider], laidTests := true, laidLooks := .later }
def LockIncrementsUptoCardSaid : Prop := Claim7.holds Tryz.pinned (.plain (OpenSpec.upto lockIncrementsSpec)) lockIncrementsUptoCard
end Rows
end Go.Proofs.YtikdjgholjealaaGreatDoor
