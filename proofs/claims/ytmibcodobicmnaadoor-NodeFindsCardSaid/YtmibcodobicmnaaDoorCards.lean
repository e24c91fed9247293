/-
  DERIVED. GIVEN WITH THE SEED: THE CARDS: each row of YtmibcodobicmnaaDoorRows.lean that lists a variable, with what it lists TIED to the program's text (the seventh form; the later family's looks); each row that meets fmt, with fmt's text TOLD by the authors' own Lean function (tested against real Go, not proved from fmt's source: count such statements apart). THE CARD IS WHAT COUNTS. Prove the row's statement (the work); the ties are given (YtmibcodobicmnaaDoorTie.lean); close each card by the builder's one call (the guide's Derived/Test/ToyasCard.lean, 'card_holds'). Laid BY PROGRAM, IN A SANDBOX (cutbox-door.mjs). By AI agents, Wed Nov 11 2026. No macro, syntax, notation, axiom, sorry.
-/
import Derived.Test.YtmibcodobicmnaaDoorRows
import GoSem.ClaimSeven
namespace Go.Proofs.YtmibcodobicmnaaDoor
namespace Rows

/-- THE TIED CARD OF 'gaugerlaw07.DiaryExact'. -/
def diaryExactCard : Claim7 := { stood := { row := diaryExactRow, standIns := [], harness := (true, "494e89856174631693cde44cfac1b510765fc78da5251976e50460917046903f"), looks := false }, kinds := [], alts := [], laidByText := true, laidKinds := [.data], laidTests := true, laidLooks := .later }
def DiaryExactCardSaid : Prop := Claim7.holds Tryd.pinned (.plain (OpenSpec.ofChange diaryExactSpec)) diaryExactCard

/-- THE TIED CARD OF 'gaugerlaw08.NodeExact'. -/
def nodeExactCard : Claim7 := { stood := { row := nodeExactRow, standIns := [], harness := (true, "494e89856174631693cde44cfac1b510765fc78da5251976e50460917046903f"), looks := false }, kinds := [], alts := [], laidByText := true, laidKinds := [.data], laidTests := true, laidLooks := .later }
def NodeExactCardSaid : Prop := Claim7.holds Tryd.pinned (.plain (OpenSpec.ofChange nodeExactSpec)) nodeExactCard

/-- THE TIED CARD OF 'gaugerlaw08.NodeFinds'. -/
def nodeFindsCard : Claim7 := { stood := { row := nodeFindsRow, standIns := [], harness := (true, "494e89856174631693cde44cfac1b510765fc78da5251976e50460917046903f"), looks := false }, kinds := [], alts := [], laidByText := true, laidKinds := [.data], laidTests := true, laidLooks := .later }
def NodeFindsCardSaid : Prop := Claim7.holds Tryd.pinned (.plain (OpenSpec.ofChange nodeFindsSpec)) nodeFindsCard

/-- THE TIED CARD OF 'gaugerlaw08.NodeBack'. -/
def nodeBackCard : Claim7 := { stood := { row := nodeBackRow, standIns := [], harness := (true, "494e89856174631693cde44cfac1b510765fc78da5251976e50460917046903f"), looks := false }, kinds := [], alts := [], laidByText := true, laidKinds := [.data], laidTests := true, laidLooks := .later }
def NodeBackCardSaid : Prop := Claim7.holds Tryd.pinned (.plain (OpenSpec.ofChange nodeBackSpec)) nodeBackCard

/-- THE TIED CARD OF 'gaugerlaw08.NodeTurned'. -/
def nodeTurnedCard : Claim7 := { stood := { row := nodeTurnedRow, standIns := [], harness := (true, "494e89856174631693cde44cfac1b510765fc78da5251976e50460917046903f"), looks := false }, kinds := [], alts := [], laidByText := true, laidKinds := [.data], laidTests := true, laidLooks := .later }
def NodeTurnedCardSaid : Prop := Claim7.holds Tryd.pinned (.plain (OpenSpec.ofChange nodeTurnedSpec)) nodeTurnedCard

/-- THE TIED CARD OF 'gaugerlaw08.NodeLeads'. -/
def nodeLeadsCard : Claim7 := { stood := { row := nodeLeadsRow, standIns := [], harness := (true, "494e89856174631693cde44cfac1b510765fc78da5251976e50460917046903f"), looks := false }, kinds := [], alts := [], laidByText := true, laidKinds := [.data], laidTests := true, laidLooks := .later }
def NodeLeadsCardSaid : Prop := Claim7.holds Tryd.pinned (.plain (OpenSpec.ofChange nodeLeadsSpec)) nodeLeadsCard

/-- THE SECOND FORM's CARD OF 'gaugerlaw07.DiaryExact'. -/
def diaryExactUptoCard : Claim7 := { stood := { row := diaryExactUptoRow, standIns := [], harness := (true, "494e89856174631693cde44cfac1b510765fc78da5251976e50460917046903f"), looks := false }, kinds := [], alts := [], laidByText := true, laidKinds := [.data], laidTests := true, laidLooks := .later }
def DiaryExactUptoCardSaid : Prop := Claim7.holds Tryd.pinned (.plain (OpenSpec.upto diaryExactSpec)) diaryExactUptoCard

/-- THE SECOND FORM's CARD OF 'gaugerlaw08.NodeExact'. -/
def nodeExactUptoCard : Claim7 := { stood := { row := nodeExactUptoRow, standIns := [], harness := (true, "494e89856174631693cde44cfac1b510765fc78da5251976e50460917046903f"), looks := false }, kinds := [], alts := [], laidByText := true, laidKinds := [.data], laidTests := true, laidLooks := .later }
def NodeExactUptoCardSaid : Prop := Claim7.holds Tryd.pinned (.plain (OpenSpec.upto nodeExactSpec)) nodeExactUptoCard

/-- THE SECOND FORM's CARD OF 'gaugerlaw08.NodeFinds'. -/
def nodeFindsUptoCard : Claim7 := { stood := { row := nodeFindsUptoRow, standIns := [], harness := (true, "494e89856174631693cde44cfac1b510765fc78da5251976e50460917046903f"), looks := false }, kinds := [], alts := [], laidByText := true, laidKinds := [.data], laidTests := true, laidLooks := .later }
def NodeFindsUptoCardSaid : Prop := Claim7.holds Tryd.pinned (.plain (OpenSpec.upto nodeFindsSpec)) nodeFindsUptoCard

/-- THE SECOND FORM's CARD OF 'gaugerlaw08.NodeBack'. -/
def nodeBackUptoCard : Claim7 := { stood := { row := nodeBackUptoRow, standIns := [], harness := (true, "494e89856174631693cde44cfac1b510765fc78da5251976e50460917046903f"), looks := false }, kinds := [], alts := [], laidByText := true, laidKinds := [.data], laidTests := true, laidLooks := .later }
def NodeBackUptoCardSaid : Prop := Claim7.holds Tryd.pinned (.plain (OpenSpec.upto nodeBackSpec)) nodeBackUptoCard

/-- THE SECOND FORM's CARD OF 'gaugerlaw08.NodeTurned'. -/
def nodeTurnedUptoCard : Claim7 := { stood := { row := nodeTurnedUptoRow, standIns := [], harness := (true, "494e89856174631693cde44cfac1b510765fc78da5251976e50460917046903f"), looks := false }, kinds := [], alts := [], laidByText := true, laidKinds := [.data], laidTests := true, laidLooks := .later }
def NodeTurnedUptoCardSaid : Prop := Claim7.holds Tryd.pinned (.plain (OpenSpec.upto nodeTurnedSpec)) nodeTurnedUptoCard

/-- THE SECOND FORM's CARD OF 'gaugerlaw08.NodeLeads'. -/
def nodeLeadsUptoCard : Claim7 := { stood := { row := nodeLeadsUptoRow, standIns := [], harness := (true, "494e89856174631693cde44cfac1b510765fc78da5251976e50460917046903f"), looks := false }, kinds := [], alts := [], laidByText := true, laidKinds := [.data], laidTests := true, laidLooks := .later }
def NodeLeadsUptoCardSaid : Prop := Claim7.holds Tryd.pinned (.plain (OpenSpec.upto nodeLeadsSpec)) nodeLeadsUptoCard
end Rows
end Go.Proofs.YtmibcodobicmnaaDoor
