/- Names. -/
import Derived.Test.YtikdjgholjealaaDoorLkC
namespace Go.Proofs.YtikdjgholjealaaDoor.Lk
open Go.ChangeShapes Go.WideShapes Go.ChangeAt Go.RowKit Go.PlainAid Aid Md
set_option linter.unusedVariables false
set_option linter.unusedSimpArgs false
/-- A tree's lowest eight bits. -/
def lowB (t : Int) : UInt8 := UInt8.ofNat (t % 256).toNat
theorem lowB_int (t : Int) : ((lowB t).toNat : Int) = t % 256 := by
  unfold lowB
  rw [UInt8.toNat_ofNat']
  have h1 := Int.emod_nonneg t (show (256 : Int) ≠ 0 by decide)
  have h2 := Int.emod_lt_of_pos t (show (0 : Int) < 256 by decide)
  omega
set_option maxRecDepth 100000 in
theorem named_any (kb : UInt8) (t : Int) (key : ByteArray) (w : World) (hk : key.size ≤ 1000) :
    Calls Tryd.prog 23 #[.int .u8 (kb.toNat : Int), .int .i64 t, .string key] w fun e w' => e = .returned (.string (ofL (kb :: lowB t :: key.data.toList))) ∧ Below w.heap.size w w' := by
  have S := Lib.hid ((Own.none w).alloc #[.int .u8 (kb.toNat : Int), .int .u8 (t % 256)] 5)
  have hc : (convert 37 9 (.slice (some ⟨w.heap.size, 0, none⟩) 2 2)).run Tryd.prog (w.alloc (.cells #[.int .u8 (kb.toNat : Int), .int .u8 (t % 256)] 5)) = .ok (.string (ofL [kb, lowB t])) (w.alloc (.cells #[.int .u8 (kb.toNat : Int), .int .u8 (t % 256)] 5)) := by
    have hB := S.out.has (Has.l (has_blk _ _ _))
    refine conv_row Tryd.underlying37 Tryd.underlying5 Tryd.underlying9 _ 0 2 [kb, lowB t] (fun i x hx => ?_) 2 rfl
    rw [Nat.zero_add, hB.cell]
    rcases i with _ | _ | i
    · cases hx; rfl
    · cases hx; rw [lowB_int]; rfl
    · simp at hx
  have hs2 : (ofL [kb, lowB t]).size = 2 := rfl
  have hlt : ¬ (9223372036854775807 < (2 : Int) + (key.size : Int)) := by omega
  have hlt2 : (2 : Int) + (key.size : Int) ≤ 9223372036854775807 := by omega
  go_enter Tryd.func23, Tryd.ntmps23
  go_wp2_with fail
  go_returns
  refine ⟨?_, S.out.bel⟩
  have e : ofL [kb, lowB t] ++ key = ofL (kb :: lowB t :: key.data.toList) := by
    unfold ofL
    apply ByteArray.ext
    simp [ByteArray.data_append]
  show Ending.returned (.string (ofL [kb, lowB t] ++ key)) = _
  rw [e]
def nameB (kb : UInt8) (t : Int) (key : ByteArray) : ByteArray := ofL (kb :: lowB t :: key.data.toList)
set_option maxRecDepth 100000 in
theorem Table_any (t : Int) (w : World) : Calls Tryd.prog 15 #[.int .i64 t] w fun e w' => e = .returned (.string (nameB 116 t ⟨#[]⟩)) ∧ Below w.heap.size w w' := by
  have HN := Lib.hid (fun w => named_any 116 t ⟨#[]⟩ w (by decide))
  go_enter Tryd.func15, Tryd.ntmps15
  go_wp2_with fail
  refine (HN.out _).mono ?_
  rintro e w1 ⟨rfl, hX⟩
  have B1 := Lib.hid hX
  clear hX HN
  go_wp2_with fail
  go_returns
  exact ⟨rfl, B1.out⟩
set_option maxRecDepth 100000 in
theorem Key_any (t : Int) (key : ByteArray) (w : World) (hk : key.size ≤ 1000) : Calls Tryd.prog 13 #[.int .i64 t, .string key] w fun e w' => e = .returned (.string (nameB 107 t key)) ∧ Below w.heap.size w w' := by
  have HN := Lib.hid (fun w => named_any 107 t key w hk)
  go_enter Tryd.func13, Tryd.ntmps13
  go_wp2_with fail
  refine (HN.out _).mono ?_
  rintro e w1 ⟨rfl, hX⟩
  have B1 := Lib.hid hX
  clear hX HN
  go_wp2_with fail
  go_returns
  exact ⟨rfl, B1.out⟩
set_option maxRecDepth 100000 in
theorem Gap_any (t : Int) (key : ByteArray) (w : World) (hk : key.size ≤ 1000) : Calls Tryd.prog 14 #[.int .i64 t, .string key] w fun e w' => e = .returned (.string (nameB 103 t key)) ∧ Below w.heap.size w w' := by
  have HN := Lib.hid (fun w => named_any 103 t key w hk)
  go_enter Tryd.func14, Tryd.ntmps14
  go_wp2_with fail
  refine (HN.out _).mono ?_
  rintro e w1 ⟨rfl, hX⟩
  have B1 := Lib.hid hX
  clear hX HN
  go_wp2_with fail
  go_returns
  exact ⟨rfl, B1.out⟩
end Go.Proofs.YtikdjgholjealaaDoor.Lk
