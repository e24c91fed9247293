/- NodeExact, walked. -/
import Derived.Test.YtmbakcphmblobaaDoorNdK
import Derived.Test.YtmbakcphmblobaaDoorNdS
import Derived.Test.YtmbakcphmblobaaDoorNdF
import Derived.Test.YtmbakcphmblobaaDoorNdBy
import Derived.Test.YtmbakcphmblobaaDoorNdQ
import Derived.Deep.RegionHeld3
namespace Go.Proofs.YtmbakcphmblobaaDoor.Nd
open Go.ChangeShapes Go.WideShapes Go.ChangeAt Go.RowKit Go.PlainAid Aid Cr Nt
set_option linter.unusedVariables false
set_option linter.unusedSimpArgs false
theorem join_own {w0 w w' : World} {O0 : Nat → Prop} {A B : Asn} (h : Own w0 O0 w A) (k : Own w No w' B) : Own w0 O0 w' (B * A) :=
  h.then fun O hO => k.frame hO (fun _ h => h.elim) (fun _ => ⟨Or.inr, fun h => h.elim (fun x => x.elim) id⟩)
theorem zero_node (w : World) : NodAt w (.agg zero7) Nod.none := ⟨_, rfl, none, 0, rfl, Nat.zero_le _, Or.inl rfl⟩
end Go.Proofs.YtmbakcphmblobaaDoor.Nd
