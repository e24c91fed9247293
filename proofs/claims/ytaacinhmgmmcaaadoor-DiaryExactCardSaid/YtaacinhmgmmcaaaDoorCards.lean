/-
  DERIVED. GIVEN WITH THE SEED: THE CARDS: each row of YtaacinhmgmmcaaaDoorRows.lean that lists a variable, with what it lists TIED to the program's text (the seventh form; the later family's looks); each row that meets fmt, with fmt's text TOLD by the authors' own Lean function (tested against real Go, not proved from fmt's source: count such statements apart). THE CARD IS WHAT COUNTS. Prove the row's statement (the work); the ties are given (YtaacinhmgmmcaaaDoorTie.lean); close each card by the builder's one call (the guide's Derived/Test/ToyasCard.lean, 'card_holds'). Laid BY PROGRAM, IN A SANDBOX (cutbox-door.mjs). By AI agents, Wed Nov 11 2026. No macro, syntax, notation, axiom, sorry.
-/
import Derived.Test.YtaacinhmgmmcaaaDoorRows
import GoSem.ClaimSeven
namespace Go.Proofs.YtaacinhmgmmcaaaDoor
namespace Rows

/-- THE TIED CARD OF 'gaugerlaw07.DiaryExact'. -/
def diaryExactCard : Claim7 := { stood := { row := diaryExactRow, standIns := [], harness := (true, "37a9ba6269448316217eeb316e0e354a1673eaef20594e77e0d53dc8fc69b321"), looks := false }, kinds := [], alts := [], laidByText := true, laidKinds := [.data], laidTests := true, laidLooks := .later }
def DiaryExactCardSaid : Prop := Claim7.holds Tryd.pinned (.plain (OpenSpec.ofChange diaryExactSpec)) diaryExactCard

/-- THE SECOND FORM's CARD OF 'gaugerlaw07.DiaryExact'. -/
def diaryExactUptoCard : Claim7 := { stood := { row := diaryExactUptoRow, standIns := [], harness := (true, "37a9ba6269448316217eeb316e0e354a1673eaef20594e77e0d53dc8fc69b321"), looks := false }, kinds := [], alts := [], laidByText := true, laidKinds := [.data], laidTests := true, laidLooks := .later }
def DiaryExactUptoCardSaid : Prop := Claim7.holds Tryd.pinned (.plain (OpenSpec.upto diaryExactSpec)) diaryExactUptoCard
end Rows
end Go.Proofs.YtaacinhmgmmcaaaDoor
