import Derived.Test.YtmbakcphmblobaaDoorCrC
namespace Go.Proofs.YtmbakcphmblobaaDoor.Cr
open Go.ChangeShapes Go.WideShapes Go.ChangeAt Go.RowKit Go.PlainAid Aid
set_option linter.unusedVariables false
set_option linter.unusedSimpArgs false

theorem crc_nine : crc (⟨#[49, 50, 51, 52, 53, 54, 55, 56, 57]⟩ : ByteArray).data.toList = 3421780262#32 := by decide +kernel
theorem crc_none : crc (⟨#[]⟩ : ByteArray).data.toList = 0#32 := by decide +kernel
theorem tail_1234 : tailS 67305985#32 = ⟨#[1, 2, 3, 4]⟩ := by decide +kernel

end Go.Proofs.YtmbakcphmblobaaDoor.Cr
