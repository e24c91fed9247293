/- The page of a node; Bytes; Lead. -/
import Derived.Test.YtmbakcphmblobaaDoorNdV
namespace Go.Proofs.YtmbakcphmblobaaDoor.Nd
open Go.ChangeShapes Go.WideShapes Go.ChangeAt Go.RowKit Go.PlainAid Aid Cr Nt
set_option linter.unusedVariables false
set_option linter.unusedSimpArgs false
theorem sealS_ofL (l : By) : sealS (ofL l) = ofL (l ++ tailL (crc l)) := rfl
theorem page_ne (n : Nod) (h : fitsB n = true) : page n ≠ [] := fun e => by have := page_len h; rw [e] at this; cases this
def bytesV (n : Nod) : Value := if fitsB n then .tuple #[.string (ofL (bytes n)), .int .i64 0] else if goodB n then .tuple #[.string ⟨#[]⟩, .int .i64 5] else .tuple #[.string ⟨#[]⟩, .int .i64 1]
end Go.Proofs.YtmbakcphmblobaaDoor.Nd
