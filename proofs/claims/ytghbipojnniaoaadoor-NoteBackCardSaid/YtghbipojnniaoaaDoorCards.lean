/-
  DERIVED. GIVEN WITH THE SEED: THE CARDS: each row of YtghbipojnniaoaaDoorRows.lean that lists a variable, with what it lists TIED to the program's text (the seventh form; the later family's looks); each row that meets fmt, with fmt's text TOLD by the authors' own Lean function (tested against real Go, not proved from fmt's source: count such statements apart). THE CARD IS WHAT COUNTS. Prove the row's statement (the work); the ties are given (YtghbipojnniaoaaDoorTie.lean); close each card by the builder's one call (the guide's Derived/Test/ToyasCard.lean, 'card_holds'). Laid BY PROGRAM, IN A SANDBOX (cutbox-door.mjs). By AI agents, Wed Nov 11 2026. No macro, syntax, notation, axiom, sorry.
-/
import Derived.Test.YtghbipojnniaoaaDoorRows
import GoSem.ClaimSeven
namespace Go.Proofs.YtghbipojnniaoaaDoor
namespace Rows

/-- THE TIED CARD OF 'gaugerlaw06.NoteExact'. -/
def noteExactCard : Claim7 := { stood := { row := noteExactRow, standIns := [], harness := (true, "e61fa154dc9839fa5113c32e90ed42ba42d5503914effb1a7cf504bb1aa5137d"), looks := false }, kinds := [], alts := [], laidByText := true, laidKinds := [.data], laidTests := true, laidLooks := .later }
def NoteExactCardSaid : Prop := Claim7.holds Tryd.pinned (.plain (OpenSpec.ofChange noteExactSpec)) noteExactCard

/-- THE TIED CARD OF 'gaugerlaw06.NoteBack'. -/
def noteBackCard : Claim7 := { stood := { row := noteBackRow, standIns := [], harness := (true, "e61fa154dc9839fa5113c32e90ed42ba42d5503914effb1a7cf504bb1aa5137d"), looks := false }, kinds := [], alts := [], laidByText := true, laidKinds := [.data], laidTests := true, laidLooks := .later }
def NoteBackCardSaid : Prop := Claim7.holds Tryd.pinned (.plain (OpenSpec.ofChange noteBackSpec)) noteBackCard

/-- THE TIED CARD OF 'gaugerlaw06.NoteTorn'. -/
def noteTornCard : Claim7 := { stood := { row := noteTornRow, standIns := [], harness := (true, "e61fa154dc9839fa5113c32e90ed42ba42d5503914effb1a7cf504bb1aa5137d"), looks := false }, kinds := [], alts := [], laidByText := true, laidKinds := [.data], laidTests := true, laidLooks := .later }
def NoteTornCardSaid : Prop := Claim7.holds Tryd.pinned (.plain (OpenSpec.ofChange noteTornSpec)) noteTornCard

/-- THE SECOND FORM's CARD OF 'gaugerlaw06.NoteExact'. -/
def noteExactUptoCard : Claim7 := { stood := { row := noteExactUptoRow, standIns := [], harness := (true, "e61fa154dc9839fa5113c32e90ed42ba42d5503914effb1a7cf504bb1aa5137d"), looks := false }, kinds := [], alts := [], laidByText := true, laidKinds := [.data], laidTests := true, laidLooks := .later }
def NoteExactUptoCardSaid : Prop := Claim7.holds Tryd.pinned (.plain (OpenSpec.upto noteExactSpec)) noteExactUptoCard

/-- THE SECOND FORM's CARD OF 'gaugerlaw06.NoteBack'. -/
def noteBackUptoCard : Claim7 := { stood := { row := noteBackUptoRow, standIns := [], harness := (true, "e61fa154dc9839fa5113c32e90ed42ba42d5503914effb1a7cf504bb1aa5137d"), looks := false }, kinds := [], alts := [], laidByText := true, laidKinds := [.data], laidTests := true, laidLooks := .later }
def NoteBackUptoCardSaid : Prop := Claim7.holds Tryd.pinned (.plain (OpenSpec.upto noteBackSpec)) noteBackUptoCard

/-- THE SECOND FORM's CARD OF 'gaugerlaw06.NoteTorn'. -/
def noteTornUptoCard : Claim7 := { stood := { row := noteTornUptoRow, standIns := [], harness := (true, "e61fa154dc9839fa5113c32e90ed42ba42d5503914effb1a7cf504bb1aa5137d"), looks := false }, kinds := [], alts := [], laidByText := true, laidKinds := [.data], laidTests := true, laidLooks := .later }
def NoteTornUptoCardSaid : Prop := Claim7.holds Tryd.pinned (.plain (OpenSpec.upto noteTornSpec)) noteTornUptoCard
end Rows
end Go.Proofs.YtghbipojnniaoaaDoor
