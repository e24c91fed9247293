/- The names of all lines. -/
import Derived.Test.YtikdjgholjealaaGreatDoorLkS
namespace Go.Proofs.YtikdjgholjealaaGreatDoor.Lk
open Go.RowKit Go.Maps Go.Sort Go.Shelf
open Go.ChangeShapes Go.WideShapes Go.ChangeAt Go.PlainAid Aid Md
open Go.ChangeShapes Go.WideShapes Go.ChangeAt Go.RowKit Go.PlainAid
open Go.ChangeMaps (notKey putKey delKey)
open Go.ChangeMaps (setBlock heap_setBlock_same heap_setBlock_other)
open Go.WideElems (Fit rd rg pl rd_val rd_key rg_of)
open Go.Maps (Keyed)
set_option linter.unusedVariables false
set_option linter.unusedSimpArgs false
def namesL (L : List Lin) : List By := (L.map (·.1)).mergeSort (fun x y => decide (x ≤ y))
section
variable {bb h l wt : Nat} {H : List Hol} {L : List Lin} {W : List Wan}
theorem lines_own {w : World} (k : Bk w bb h l wt H L W) : ∃ n D, w.ownsMap Tryz.prog 9 RV l n D ∧ Maps.size D = L.length ∧ (strKeys D).Perm (L.map (·.1)) := by
  obtain ⟨es, clock, hb, F, hE⟩ := k.lm
  refine ⟨es.size, _, ⟨es, clock, hb, F, Nat.le_refl _, rfl⟩, ?_, ?_⟩
  · have := hE.length_eq
    simp [heldE, lE] at this
    simp [Maps.size, length_sorted, this]
  · have h1 := (((sorted_perm (es.toList.map (rg Tryz.prog 9 RV))).trans hE).map (fun p => strOf p.1))
    have h2 : (heldE (lE L)).map (fun p => strOf p.1) = L.map (·.1) := by
      unfold heldE lE
      rw [List.map_map, List.map_map]
      rfl
    rw [h2] at h1
    exact h1
theorem names_any (w : World) (k : Bk w bb h l wt H L W) (hL : L.length ≤ 100000) :
    Calls Tryz.prog 44 #[.func (.func 66) #[] #[.pointer (some ⟨w.heap.size, 0, none⟩)]] (w.alloc (.cells #[.map (some l)] 49)) fun e w' => ∃ v : Value, e = .returned v ∧
      w'.ownsRow (w.alloc (.cells #[.map (some l)] 49)).heap.size 9 1 v L.length ((namesL L).map encStr) ∧ Below (w.alloc (.cells #[.map (some l)] 49)).heap.size (w.alloc (.cells #[.map (some l)] 49)) w' := by
  obtain ⟨n, D, hD, hs, hp⟩ := lines_own k
  refine (sorted_any l n D RV w hD (by rw [hs]; unfold maxLen; omega) (by rw [hs]; omega)).mono ?_
  rintro e w' ⟨v, ss, rfl, hss, hrow, -, hb⟩
  have hq := hss.trans hp
  have hm : ss.mergeSort (fun x y => decide (x ≤ y)) = namesL L := mergeSort_of_perm hq
  have hl : ss.length = L.length := by rw [hq.length_eq, List.length_map]
  rw [hm, hl] at hrow
  exact ⟨v, rfl, hrow, hb⟩
end
end Go.Proofs.YtikdjgholjealaaGreatDoor.Lk
