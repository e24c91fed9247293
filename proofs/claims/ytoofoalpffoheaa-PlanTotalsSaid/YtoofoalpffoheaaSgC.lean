import Derived.Test.YtoofoalpffoheaaSgB
import Derived.Test.YtoofoalpffoheaaSgQ
import Derived.Deep.QuietTactic
import Derived.BigQuiet
import Derived.Laws.BytesArg
namespace Go.Proofs.Ytoofoalpffoheaa.Sg
open Go.ChangeShapes Go.WideShapes Go.ChangeAt Go.RowKit Go.PlainAid
set_option linter.unusedVariables false

set_option maxHeartbeats 400000 in
theorem Code_no (k n : Int) (s : ByteArray) (w : World) (hs : s.size ≤ maxLen) (hg : goodB k n s = false) :
    Calls Try.prog 30 #[.agg #[.int .i64 k, .int .i64 n, .string s]] w fun e w' => e = .returned (.tuple #[.string ⟨#[]⟩, .int .i64 1]) ∧ Below w.heap.size w w' := by
  have G := fun w => Good_any k n s w hs
  rw [hg] at G
  have HG := Lib.hid hg
  clear hg
  go_enter Try.func30, Try.ntmps30
  go_wp2_with fail
  refine (G _).mono ?_
  rintro e w' ⟨rfl, hb⟩
  go_wp2_with fail
  go_returns
  exact ⟨rfl, ((Below.refl _ _).alloc (Nat.le_refl _) _).trans (hb.mono (by simp))⟩

theorem under50 : Try.prog.underlying 60 = some (.slice 5) := Try.underlying60
theorem conv9 (W : World) (c0 c1 c2 c3 c4 c5 c6 c7 c8 : Int) :
    (convert 60 9 (.slice (some ⟨W.heap.size, 0, none⟩) 9 9)).run Try.prog (W.alloc (.cells #[.int .u8 c0, .int .u8 c1, .int .u8 c2, .int .u8 c3, .int .u8 c4, .int .u8 c5, .int .u8 c6, .int .u8 c7, .int .u8 c8] 92))
      = .ok (.string (strOfNums [c0, c1, c2, c3, c4, c5, c6, c7, c8])) (W.alloc (.cells #[.int .u8 c0, .int .u8 c1, .int .u8 c2, .int .u8 c3, .int .u8 c4, .int .u8 c5, .int .u8 c6, .int .u8 c7, .int .u8 c8] 92)) := by
  refine run_convert_bytes_arg _ 60 5 under50 Try.underlying5 W.heap.size 0 9 9 [c0, c1, c2, c3, c4, c5, c6, c7, c8] rfl ?_ _ Try.underlying9
  intro i hi
  rw [Nat.zero_add]
  match i, hi with
  | 0, _ | 1, _ | 2, _ | 3, _ | 4, _ | 5, _ | 6, _ | 7, _ | 8, _ => go_simp
  | i + 9, h => omega

set_option maxHeartbeats 400000 in
theorem Code_yes (k n : Int) (s : ByteArray) (w : World) (hs : s.size ≤ maxLen) (hn : -9223372036854775808 ≤ n) (hn2 : n ≤ 9223372036854775807) (hg : goodB k n s = true) :
    Calls Try.prog 30 #[.agg #[.int .i64 k, .int .i64 n, .string s]] w fun e w' => e = .returned (.tuple #[.string (codeS k n s), .int .i64 0]) ∧ Below w.heap.size w w' := by
  have G := fun w => Good_any k n s w hs
  have C := fun w => codeOf_any k n s w hs hn hn2 hg
  rw [hg] at G
  clear hg
  unfold codeS
  generalize cdv k n s 0 = c0, cdv k n s 1 = c1, cdv k n s 2 = c2, cdv k n s 3 = c3, cdv k n s 4 = c4, cdv k n s 5 = c5, cdv k n s 6 = c6, cdv k n s 7 = c7, cdv k n s 8 = c8 at *
  have hcv := fun W : World => conv9 W c0 c1 c2 c3 c4 c5 c6 c7 c8
  go_enter Try.func30, Try.ntmps30
  go_wp2_with fail
  refine (G _).mono ?_
  rintro e w1 ⟨rfl, hb⟩
  obtain ⟨hc, hf⟩ := bcell hb
  go_wp2_with fail
  refine (C _).mono ?_
  rintro e w2 ⟨rfl, hb2⟩
  obtain ⟨hc2, hf2⟩ := bcell hb2
  go_wp2_with fail
  go_returns
  exact ⟨rfl, ((((Below.refl _ _).alloc (Nat.le_refl _) _).trans (hb.mono (by simp))).trans (hb2.mono (by have := hb.size; simp at this; omega))).alloc (by have := hb.size; have := hb2.size; simp at *; omega) _⟩

theorem ret_int {k : IntKind} {a b : Int} (h : a = b) : Ending.returned (.int k a) = .returned (.int k b) := by rw [h]
end Go.Proofs.Ytoofoalpffoheaa.Sg
