/- The law's own: awake. -/
import Derived.Test.YtmbakcphmblobaaDoorNdG
import Derived.Test.YtmbakcphmblobaaDoorNdH
import Derived.Test.YtmbakcphmblobaaDoorTab
import Derived.Deep.RegionHeld3
namespace Go.Proofs.YtmbakcphmblobaaDoor.Nd
open Go.ChangeShapes Go.WideShapes Go.ChangeAt Go.RowKit Go.PlainAid Aid Cr Nt
set_option linter.unusedVariables false
set_option linter.unusedSimpArgs false
theorem wpAnyH_weak {P : Program} {md : Region.Mode} {ops : Array Oper} {Q : Exit → Act → World → Prop} {S T : World → Prop} (hST : ∀ w, S w → T w) : ∀ (fuel : Nat) (listed : Array Bool) (a : Act) (w : World), wpAnyH P md ops Q S fuel listed a w → wpAnyH P md ops Q T fuel listed a w
  | 0, _, _, _, h => h
  | fuel + 1, listed, a, w, h => ⟨h.1, fun i hi => wpOp_mono (fun a' w' ⟨h1, h2⟩ => ⟨hST _ h1, wpAnyH_weak hST fuel _ _ _ h2⟩) (h.2 i hi)⟩
theorem none_fits : fitsB Nod.none = true := by decide +kernel
theorem none_page : page Nod.none = List.replicate 252 0 := by decide +kernel
theorem none_take : (bytes Nod.none).take 252 = List.replicate 252 0 := by
  rw [← none_page, ← page_len none_fits]; exact List.take_left
theorem read_nil : readN [] = none := unsealed_none [] rfl
theorem lead300 : numZ 2 300 = [44, 1] := by decide +kernel
theorem child300 : childL [44, 1] = 300 := by decide +kernel
theorem none_at (w : World) (A : Option Addr) (c : Nat) : NodAt w (.agg (nodCells Nod.none (.slice A 0 c))) Nod.none := ⟨_, rfl, A, c, rfl, Nat.zero_le _, Or.inl rfl⟩
theorem made_bytes (w : World) : Bytes (w.alloc (.cells (madeCells #[.int .u8 0] 252) 5)).drew w.heap.size (List.replicate 252 0) := by
  refine ⟨?_, fun i x hx => ?_, fun i _ => (Blk.new w _ _).free i⟩
  · show w.heap.size < (w.alloc _).heap.size
    simp
  · refine ((Blk.new w _ _).cell i).trans ?_
    rw [List.getElem?_replicate] at hx
    split at hx
    · rename_i hi
      cases hx
      simp [madeCells, hi, Nat.mod_one]
    · cases hx
end Go.Proofs.YtmbakcphmblobaaDoor.Nd
