/-
  DERIVED. GIVEN WITH THE SEED: THE CARDS: each row of YtciamgggblajoaaDoorRows.lean that lists a variable, with what it lists TIED to the program's text (the seventh form; the later family's looks); each row that meets fmt, with fmt's text TOLD by the authors' own Lean function (tested against real Go, not proved from fmt's source: count such statements apart). THE CARD IS WHAT COUNTS. Prove the row's statement (the work); the ties are given (YtciamgggblajoaaDoorTie.lean); close each card by the builder's one call (the guide's Derived/Test/ToyasCard.lean, 'card_holds'). Laid BY PROGRAM, IN A SANDBOX (cutbox-door.mjs). By AI agents, Wed Nov 11 2026. No macro, syntax, notation, axiom, sorry.
-/
import Derived.Test.YtciamgggblajoaaDoorRows
import GoSem.ClaimSeven
namespace Go.Proofs.YtciamgggblajoaaDoor
namespace Rows

/-- THE TIED CARD OF 'gaugerlaw06.NoteExact'. -/
def noteExactCard : Claim7 := { stood := { row := noteExactRow, standIns := [], harness := (true, "5eb9545f0ab22a58625755b39bd63cd28d52edd8ed12781565833c586683938c"), looks := false }, kinds := [], alts := [], laidByText := true, laidKinds := [.data], laidTests := true, laidLooks := .later }
def NoteExactCardSaid : Prop := Claim7.holds Tryd.pinned (.plain (OpenSpec.ofChange noteExactSpec)) noteExactCard

/-- THE TIED CARD OF 'gaugerlaw07.DiaryExact'. -/
def diaryExactCard : Claim7 := { stood := { row := diaryExactRow, standIns := [], harness := (true, "5eb9545f0ab22a58625755b39bd63cd28d52edd8ed12781565833c586683938c"), looks := false }, kinds := [], alts := [], laidByText := true, laidKinds := [.data], laidTests := true, laidLooks := .later }
def DiaryExactCardSaid : Prop := Claim7.holds Tryd.pinned (.plain (OpenSpec.ofChange diaryExactSpec)) diaryExactCard

/-- THE TIED CARD OF 'gaugerlaw07.DiaryOpens'. -/
def diaryOpensCard : Claim7 := { stood := { row := diaryOpensRow, standIns := [], harness := (true, "5eb9545f0ab22a58625755b39bd63cd28d52edd8ed12781565833c586683938c"), looks := false }, kinds := [], alts := [], laidByText := true, laidKinds := [.data], laidTests := true, laidLooks := .later }
def DiaryOpensCardSaid : Prop := Claim7.holds Tryd.pinned (.plain (OpenSpec.ofChange diaryOpensSpec)) diaryOpensCard

/-- THE TIED CARD OF 'gaugerlaw07.DiaryKeeps'. -/
def diaryKeepsCard : Claim7 := { stood := { row := diaryKeepsRow, standIns := [], harness := (true, "5eb9545f0ab22a58625755b39bd63cd28d52edd8ed12781565833c586683938c"), looks := false }, kinds := [], alts := [], laidByText := true, laidKinds := [.data], laidTests := true, laidLooks := .later }
def DiaryKeepsCardSaid : Prop := Claim7.holds Tryd.pinned (.plain (OpenSpec.ofChange diaryKeepsSpec)) diaryKeepsCard

/-- THE TIED CARD OF 'gaugerlaw07.DiaryHolds'. -/
def diaryHoldsCard : Claim7 := { stood := { row := diaryHoldsRow, standIns := [], harness := (true, "5eb9545f0ab22a58625755b39bd63cd28d52edd8ed12781565833c586683938c"), looks := false }, kinds := [], alts := [], laidByText := true, laidKinds := [.data], laidTests := true, laidLooks := .later }
def DiaryHoldsCardSaid : Prop := Claim7.holds Tryd.pinned (.plain (OpenSpec.ofChange diaryHoldsSpec)) diaryHoldsCard

/-- THE SECOND FORM's CARD OF 'gaugerlaw06.NoteExact'. -/
def noteExactUptoCard : Claim7 := { stood := { row := noteExactUptoRow, standIns := [], harness := (true, "5eb9545f0ab22a58625755b39bd63cd28d52edd8ed12781565833c586683938c"), looks := false }, kinds := [], alts := [], laidByText := true, laidKinds := [.data], laidTests := true, laidLooks := .later }
def NoteExactUptoCardSaid : Prop := Claim7.holds Tryd.pinned (.plain (OpenSpec.upto noteExactSpec)) noteExactUptoCard

/-- THE SECOND FORM's CARD OF 'gaugerlaw07.DiaryExact'. -/
def diaryExactUptoCard : Claim7 := { stood := { row := diaryExactUptoRow, standIns := [], harness := (true, "5eb9545f0ab22a58625755b39bd63cd28d52edd8ed12781565833c586683938c"), looks := false }, kinds := [], alts := [], laidByText := true, laidKinds := [.data], laidTests := true, laidLooks := .later }
def DiaryExactUptoCardSaid : Prop := Claim7.holds Tryd.pinned (.plain (OpenSpec.upto diaryExactSpec)) diaryExactUptoCard

/-- THE SECOND FORM's CARD OF 'gaugerlaw07.DiaryOpens'. -/
def diaryOpensUptoCard : Claim7 := { stood := { row := diaryOpensUptoRow, standIns := [], harness := (true, "5eb9545f0ab22a58625755b39bd63cd28d52edd8ed12781565833c586683938c"), looks := false }, kinds := [], alts := [], laidByText := true, laidKinds := [.data], laidTests := true, laidLooks := .later }
def DiaryOpensUptoCardSaid : Prop := Claim7.holds Tryd.pinned (.plain (OpenSpec.upto diaryOpensSpec)) diaryOpensUptoCard

/-- THE SECOND FORM's CARD OF 'gaugerlaw07.DiaryKeeps'. -/
def diaryKeepsUptoCard : Claim7 := { stood := { row := diaryKeepsUptoRow, standIns := [], harness := (true, "5eb9545f0ab22a58625755b39bd63cd28d52edd8ed12781565833c586683938c"), looks := false }, kinds := [], alts := [], laidByText := true, laidKinds := [.data], laidTests := true, laidLooks := .later }
def DiaryKeepsUptoCardSaid : Prop := Claim7.holds Tryd.pinned (.plain (OpenSpec.upto diaryKeepsSpec)) diaryKeepsUptoCard

/-- THE SECOND FORM's CARD OF 'gaugerlaw07.DiaryHolds'. -/
def diaryHoldsUptoCard : Claim7 := { stood := { row := diaryHoldsUptoRow, standIns := [], harness := (true, "5eb9545f0ab22a58625755b39bd63cd28d52edd8ed12781565833c586683938c"), looks := false }, kinds := [], alts := [], laidByText := true, laidKinds := [.data], laidTests := true, laidLooks := .later }
def DiaryHoldsUptoCardSaid : Prop := Claim7.holds Tryd.pinned (.plain (OpenSpec.upto diaryHoldsSpec)) diaryHoldsUptoCard
end Rows
end Go.Proofs.YtciamgggblajoaaDoor
