/-
  DERIVED. GIVEN WITH THE SEED: THE CARDS: each row of YtciodlegkoeipaaDoorRows.lean that lists a variable, with what it lists TIED to the program's text (the seventh form; the later family's looks); each row that meets fmt, with fmt's text TOLD by the authors' own Lean function (tested against real Go, not proved from fmt's source: count such statements apart). THE CARD IS WHAT COUNTS. Prove the row's statement (the work); the ties are given (YtciodlegkoeipaaDoorTie.lean); close each card by the builder's one call (the guide's Derived/Test/ToyasCard.lean, 'card_holds'). Laid BY PROGRAM, IN A SANDBOX (cutbox-door.mjs). By AI agents, Wed Nov 11 2026. No macro, syntax, notation, axiom, sorry.
-/
import Derived.Test.YtciodlegkoeipaaDoorRows
import GoSem.ClaimSeven
namespace Go.Proofs.YtciodlegkoeipaaDoor
namespace Rows

/-- THE TIED CARD OF 'gaugerlaw01.SignExact'. -/
def signExactCard : Claim7 := { stood := { row := signExactRow, standIns := [], harness := (true, "606115ea2e50c0fda72aea054601a566fc5d1c3946301b50cfb688b83b4fa323"), looks := false }, kinds := [], alts := [], laidByText := true, laidKinds := [.data, .pinned], laidTests := true, laidLooks := .later }
def SignExactCardSaid : Prop := Claim7.holds Tryd.pinned (.plain (OpenSpec.ofChange signExactSpec)) signExactCard

/-- THE TIED CARD OF 'gaugerlaw01.SignRows'. -/
def signRowsCard : Claim7 := { stood := { row := signRowsRow, standIns := [], harness := (true, "606115ea2e50c0fda72aea054601a566fc5d1c3946301b50cfb688b83b4fa323"), looks := false }, kinds := [], alts := [], laidByText := true, laidKinds := [.data, .pinned], laidTests := true, laidLooks := .later }
def SignRowsCardSaid : Prop := Claim7.holds Tryd.pinned (.plain (OpenSpec.ofChange signRowsSpec)) signRowsCard

/-- THE TIED CARD OF 'gaugerlaw01.SignOrder'. -/
def signOrderCard : Claim7 := { stood := { row := signOrderRow, standIns := [], harness := (true, "606115ea2e50c0fda72aea054601a566fc5d1c3946301b50cfb688b83b4fa323"), looks := false }, kinds := [], alts := [], laidByText := true, laidKinds := [.data, .pinned], laidTests := true, laidLooks := .later }
def SignOrderCardSaid : Prop := Claim7.holds Tryd.pinned (.plain (OpenSpec.ofChange signOrderSpec)) signOrderCard

/-- THE TIED CARD OF 'gaugerlaw01.SignBack'. -/
def signBackCard : Claim7 := { stood := { row := signBackRow, standIns := [], harness := (true, "606115ea2e50c0fda72aea054601a566fc5d1c3946301b50cfb688b83b4fa323"), looks := false }, kinds := [], alts := [], laidByText := true, laidKinds := [.data, .pinned], laidTests := true, laidLooks := .later }
def SignBackCardSaid : Prop := Claim7.holds Tryd.pinned (.plain (OpenSpec.ofChange signBackSpec)) signBackCard

/-- THE SECOND FORM's CARD OF 'gaugerlaw01.SignExact'. -/
def signExactUptoCard : Claim7 := { stood := { row := signExactUptoRow, standIns := [], harness := (true, "606115ea2e50c0fda72aea054601a566fc5d1c3946301b50cfb688b83b4fa323"), looks := false }, kinds := [], alts := [], laidByText := true, laidKinds := [.data, .pinned], laidTests := true, laidLooks := .later }
def SignExactUptoCardSaid : Prop := Claim7.holds Tryd.pinned (.plain (OpenSpec.upto signExactSpec)) signExactUptoCard

/-- THE SECOND FORM's CARD OF 'gaugerlaw01.SignRows'. -/
def signRowsUptoCard : Claim7 := { stood := { row := signRowsUptoRow, standIns := [], harness := (true, "606115ea2e50c0fda72aea054601a566fc5d1c3946301b50cfb688b83b4fa323"), looks := false }, kinds := [], alts := [], laidByText := true, laidKinds := [.data, .pinned], laidTests := true, laidLooks := .later }
def SignRowsUptoCardSaid : Prop := Claim7.holds Tryd.pinned (.plain (OpenSpec.upto signRowsSpec)) signRowsUptoCard

/-- THE SECOND FORM's CARD OF 'gaugerlaw01.SignOrder'. -/
def signOrderUptoCard : Claim7 := { stood := { row := signOrderUptoRow, standIns := [], harness := (true, "606115ea2e50c0fda72aea054601a566fc5d1c3946301b50cfb688b83b4fa323"), looks := false }, kinds := [], alts := [], laidByText := true, laidKinds := [.data, .pinned], laidTests := true, laidLooks := .later }
def SignOrderUptoCardSaid : Prop := Claim7.holds Tryd.pinned (.plain (OpenSpec.upto signOrderSpec)) signOrderUptoCard

/-- THE SECOND FORM's CARD OF 'gaugerlaw01.SignBack'. -/
def signBackUptoCard : Claim7 := { stood := { row := signBackUptoRow, standIns := [], harness := (true, "606115ea2e50c0fda72aea054601a566fc5d1c3946301b50cfb688b83b4fa323"), looks := false }, kinds := [], alts := [], laidByText := true, laidKinds := [.data, .pinned], laidTests := true, laidLooks := .later }
def SignBackUptoCardSaid : Prop := Claim7.holds Tryd.pinned (.plain (OpenSpec.upto signBackSpec)) signBackUptoCard
end Rows
end Go.Proofs.YtciodlegkoeipaaDoor
