/-
  DERIVED. GIVEN WITH THE SEED: THE CARDS: each row of YtmbakcphmblobaaDoorRows.lean that lists a variable, with what it lists TIED to the program's text (the seventh form; the later family's looks); each row that meets fmt, with fmt's text TOLD by the authors' own Lean function (tested against real Go, not proved from fmt's source: count such statements apart). THE CARD IS WHAT COUNTS. Prove the row's statement (the work); the ties are given (YtmbakcphmblobaaDoorTie.lean); close each card by the builder's one call (the guide's Derived/Test/ToyasCard.lean, 'card_holds'). Laid BY PROGRAM, IN A SANDBOX (cutbox-door.mjs). By AI agents, Wed Nov 11 2026. No macro, syntax, notation, axiom, sorry.
-/
import Derived.Test.YtmbakcphmblobaaDoorRows
import GoSem.ClaimSeven
namespace Go.Proofs.YtmbakcphmblobaaDoor
namespace Rows

/-- THE TIED CARD OF 'gaugerlaw07.DiaryExact'. -/
def diaryExactCard : Claim7 := { stood := { row := diaryExactRow, standIns := [], harness := (true, "99b01b893374cce72f1691f0a37b5bd555ff97ae64f9403f3e1ae1b88bd28d8a"), looks := false }, kinds := [], alts := [], laidByText := true, laidKinds := [.data], laidTests := true, laidLooks := .later }
def DiaryExactCardSaid : Prop := Claim7.holds Tryd.pinned (.plain (OpenSpec.ofChange diaryExactSpec)) diaryExactCard

/-- THE TIED CARD OF 'gaugerlaw08.NodeExact'. -/
def nodeExactCard : Claim7 := { stood := { row := nodeExactRow, standIns := [], harness := (true, "99b01b893374cce72f1691f0a37b5bd555ff97ae64f9403f3e1ae1b88bd28d8a"), looks := false }, kinds := [], alts := [], laidByText := true, laidKinds := [.data], laidTests := true, laidLooks := .later }
def NodeExactCardSaid : Prop := Claim7.holds Tryd.pinned (.plain (OpenSpec.ofChange nodeExactSpec)) nodeExactCard

/-- THE SECOND FORM's CARD OF 'gaugerlaw07.DiaryExact'. -/
def diaryExactUptoCard : Claim7 := { stood := { row := diaryExactUptoRow, standIns := [], harness := (true, "99b01b893374cce72f1691f0a37b5bd555ff97ae64f9403f3e1ae1b88bd28d8a"), looks := false }, kinds := [], alts := [], laidByText := true, laidKinds := [.data], laidTests := true, laidLooks := .later }
def DiaryExactUptoCardSaid : Prop := Claim7.holds Tryd.pinned (.plain (OpenSpec.upto diaryExactSpec)) diaryExactUptoCard

/-- THE SECOND FORM's CARD OF 'gaugerlaw08.NodeExact'. -/
def nodeExactUptoCard : Claim7 := { stood := { row := nodeExactUptoRow, standIns := [], harness := (true, "99b01b893374cce72f1691f0a37b5bd555ff97ae64f9403f3e1ae1b88bd28d8a"), looks := false }, kinds := [], alts := [], laidByText := true, laidKinds := [.data], laidTests := true, laidLooks := .later }
def NodeExactUptoCardSaid : Prop := Claim7.holds Tryd.pinned (.plain (OpenSpec.upto nodeExactSpec)) nodeExactUptoCard
end Rows
end Go.Proofs.YtmbakcphmblobaaDoor
