import Derived.Test.YtciodlegkoeipaaDoorSgB
import Derived.Test.YtciodlegkoeipaaDoorSgQ
import Derived.Deep.QuietTactic
import Derived.BigQuiet
import Derived.Laws.BytesArg
namespace Go.Proofs.YtciodlegkoeipaaDoor.Sg
open Go.ChangeShapes Go.WideShapes Go.ChangeAt Go.RowKit Go.PlainAid
set_option linter.unusedVariables false

set_option maxHeartbeats 400000 in
theorem Code_no (k n : Int) (s : ByteArray) (w : World) (hs : s.size ≤ maxLen) (hg : goodB k n s = false) :
    Calls Tryd.prog 9 #[.agg #[.int .i64 k, .int .i64 n, .string s]] w fun e w' => e = .returned (.tuple #[.string ⟨#[]⟩, .int .i64 1]) ∧ Below w.heap.size w w' := by
  have G := fun w => Good_any k n s w hs
  rw [hg] at G
  have HG := Lib.hid hg
  clear hg
  go_enter Tryd.func9, Tryd.ntmps9
  go_wp2_with fail
  refine (G _).mono ?_
  rintro e w' ⟨rfl, hb⟩
  go_wp2_with fail
  go_returns
  exact ⟨rfl, ((Below.refl _ _).alloc (Nat.le_refl _) _).trans (hb.mono (by simp))⟩

theorem under50 : Tryd.prog.underlying 50 = some (.slice 5) := Tryd.underlying50
theorem conv9 (W : World) (c0 c1 c2 c3 c4 c5 c6 c7 c8 : Int) :
    (convert 50 9 (.slice (some ⟨W.heap.size, 0, none⟩) 9 9)).run Tryd.prog (W.alloc (.cells #[.int .u8 c0, .int .u8 c1, .int .u8 c2, .int .u8 c3, .int .u8 c4, .int .u8 c5, .int .u8 c6, .int .u8 c7, .int .u8 c8] 48))
      = .ok (.string (strOfNums [c0, c1, c2, c3, c4, c5, c6, c7, c8])) (W.alloc (.cells #[.int .u8 c0, .int .u8 c1, .int .u8 c2, .int .u8 c3, .int .u8 c4, .int .u8 c5, .int .u8 c6, .int .u8 c7, .int .u8 c8] 48)) := by
  refine run_convert_bytes_arg _ 50 5 under50 Tryd.underlying5 W.heap.size 0 9 9 [c0, c1, c2, c3, c4, c5, c6, c7, c8] rfl ?_ _ Tryd.underlying9
  intro i hi
  rw [Nat.zero_add]
  match i, hi with
  | 0, _ | 1, _ | 2, _ | 3, _ | 4, _ | 5, _ | 6, _ | 7, _ | 8, _ => go_simp
  | i + 9, h => omega

set_option maxHeartbeats 400000 in
theorem Code_yes (k n : Int) (s : ByteArray) (w : World) (hs : s.size ≤ maxLen) (hn : -9223372036854775808 ≤ n) (hn2 : n ≤ 9223372036854775807) (hg : goodB k n s = true) :
    Calls Tryd.prog 9 #[.agg #[.int .i64 k, .int .i64 n, .string s]] w fun e w' => e = .returned (.tuple #[.string (codeS k n s), .int .i64 0]) ∧ Below w.heap.size w w' := by
  have G := fun w => Good_any k n s w hs
  have C := fun w => codeOf_any k n s w hs hn hn2 hg
  rw [hg] at G
  clear hg
  unfold codeS
  generalize cdv k n s 0 = c0, cdv k n s 1 = c1, cdv k n s 2 = c2, cdv k n s 3 = c3, cdv k n s 4 = c4, cdv k n s 5 = c5, cdv k n s 6 = c6, cdv k n s 7 = c7, cdv k n s 8 = c8 at *
  have hcv := fun W : World => conv9 W c0 c1 c2 c3 c4 c5 c6 c7 c8
  go_enter Tryd.func9, Tryd.ntmps9
  go_wp2_with fail
  refine (G _).mono ?_
  rintro e w1 ⟨rfl, hb⟩
  obtain ⟨hc, hf⟩ := bcell hb
  go_wp2_with fail
  refine (C _).mono ?_
  rintro e w2 ⟨rfl, hb2⟩
  obtain ⟨hc2, hf2⟩ := bcell hb2
  go_wp2_with fail
  go_returns
  exact ⟨rfl, ((((Below.refl _ _).alloc (Nat.le_refl _) _).trans (hb.mono (by simp))).trans (hb2.mono (by have := hb.size; simp at this; omega))).alloc (by have := hb.size; have := hb2.size; simp at *; omega) _⟩

theorem ret_int {k : IntKind} {a b : Int} (h : a = b) : Ending.returned (.int k a) = .returned (.int k b) := by rw [h]
set_option maxHeartbeats 400000 in
theorem readNumber_any (s : ByteArray) (w : World) (hs : s.size = 8) :
    Calls Tryd.prog 23 #[.string s] w fun e w' => e = .returned (.int .i64 (numS s 8 - 9223372036854775808)) ∧ w = w' := by
  have hb := get_bt s
  have HS := Lib.hid hs
  have hs1 : s.size ≤ 8 := by omega
  have hs2 : 8 ≤ s.size := by omega
  have hx := bits_xor63u (numS s 8) (numS_bd s 8).1 (by have := (numS_bd s 8).2; simpa using this)
  have n8 := numS_bd s 8
  generalize hN : numS s 8 = N at *
  have HN := Lib.hid hN
  clear hN hs
  go_enter Tryd.func23, Tryd.ntmps23
  go_wp2
  go_loop [3, 7] (fun u i => ∃ k : Nat, k ≤ 8 ∧ i = .int .i64 k ∧ u = .int .u64 (numS s k)) (fun _ i => 8 - (intOf i).toNat)
  case atStart => exact ⟨0, by omega, rfl, rfl⟩
  case round =>
    obtain ⟨k, hk, rfl, rfl⟩ := hrel
    by_cases hlt : k < 8
    · have hor := bits_or256 (numS s k) (bt s k) (numS_bd s k).1 (by have := (numS_bd s k).2; have := pow_bd k (by omega); omega) (bt_nonneg s k) (bt_le s k)
      have HO := Lib.hid hor
      clear hor
      go_wp2
      go_round
      case rel => exact ⟨k + 1, by omega, by go_num, by rw [HO.out]; rfl⟩
      case measure => simp [intOf]; omega
    · obtain rfl : k = 8 := by omega
      have e8 := HN.out
      generalize numS s 8 = N' at *
      subst e8
      have HX := Lib.hid hx
      clear hx
      go_wp2
      go_returns
      exact ⟨ret_int (by rw [HX.out]; unfold wrap64; omega), rfl⟩
end Go.Proofs.YtciodlegkoeipaaDoor.Sg
