import Derived.Test.YtoofoalpffoheaaSgM
import Derived.Test.YtoofoalpffoheaaRows
import Derived.WalkKit
import Derived.ProofKit
import Derived.OpenShut
import Derived.Lib.Hide
import Derived.Handy
import Derived.PlainAid
import Derived.RegionTactic
import Derived.Lib.BufferWrite
import Derived.Deep.WholeRow
namespace Go.Proofs.Ytoofoalpffoheaa.Sg
open Go.ChangeShapes Go.WideShapes Go.ChangeAt Go.RowKit Go.PlainAid
set_option linter.unusedVariables false

theorem ret_bool {a b : Bool} (h : a = b) : Ending.returned (.bool a) = .returned (.bool b) := by rw [h]
theorem toList_isEmpty (s : ByteArray) : s.toList.isEmpty = decide (s.size = 0) := by
  rw [ByteArray.toList_eq]; obtain ⟨⟨l⟩⟩ := s; cases l <;> simp [ByteArray.size]

theorem bcell {W w1 : World} (hb : Below W.heap.size W w1) : (∀ b o, b < W.heap.size → w1.cell? ⟨b, o, none⟩ = W.cell? ⟨b, o, none⟩) ∧ (∀ b o, b < W.heap.size → w1.frozen? ⟨b, o, none⟩ = W.frozen? ⟨b, o, none⟩) :=
  ⟨fun b o h => hb.cell (p := ⟨b, o, none⟩) h, fun b o h => hb.frozen (p := ⟨b, o, none⟩) h⟩

set_option maxHeartbeats 400000 in
theorem Good_any (k n : Int) (s : ByteArray) (w : World) (hs : s.size ≤ maxLen) :
    Calls Try.prog 42 #[.agg #[.int .i64 k, .int .i64 n, .string s]] w fun e w' => e = .returned (.bool (goodB k n s)) ∧ Below w.heap.size w w' := by
  unfold maxLen at hs
  by_cases h1 : k = 1
  · subst h1
    go_enter Try.func42, Try.ntmps42
    go_wp2
    go_returns
    exact ⟨ret_bool (by rw [toList_isEmpty]; unfold goodB; rw [decide_eq_decide]; omega), by go_grown⟩
  · by_cases h2 : k = 2
    · subst h2
      go_enter Try.func42, Try.ntmps42
      go_wp2
      all_goals go_returns
      all_goals refine ⟨ret_bool ?_, by go_grown⟩
      · unfold goodB; rw [decide_eq_decide]; omega
      · symm; unfold goodB; rw [decide_eq_false_iff_not]; omega
    · go_enter Try.func42, Try.ntmps42
      go_wp2
      go_returns
      refine ⟨ret_bool ?_, by go_grown⟩
      symm; unfold goodB; rw [decide_eq_false_iff_not]; omega

theorem info5 : (Try.prog.info? 5).map (·.size) = some 1 := by kernel_rfl

theorem pad_list (s : ByteArray) (hs : s.size ≤ 7) (x y : Value) : (List.take 1 [x, Value.int .u8 0, Value.int .u8 0, Value.int .u8 0, Value.int .u8 0, Value.int .u8 0, Value.int .u8 0, Value.int .u8 0, y] ++ Lib.byteCells s.data.toList ++ (List.drop (1 + s.size) [x, Value.int .u8 0, Value.int .u8 0, Value.int .u8 0, Value.int .u8 0, Value.int .u8 0, Value.int .u8 0, Value.int .u8 0, y]))
    = [x, .int .u8 (bt s 0), .int .u8 (bt s 1), .int .u8 (bt s 2), .int .u8 (bt s 3), .int .u8 (bt s 4), .int .u8 (bt s 5), .int .u8 (bt s 6), y] := by
  obtain ⟨⟨l⟩⟩ := s
  have hl : l.length ≤ 7 := hs
  match l, hl with
  | [], _ => rfl
  | [a], _ => rfl
  | [a, b], _ => rfl
  | [a, b, c], _ => rfl
  | [a, b, c, d], _ => rfl
  | [a, b, c, d, e], _ => rfl
  | [a, b, c, d, e, f], _ => rfl
  | [a, b, c, d, e, f, g], _ => rfl
  | _ :: _ :: _ :: _ :: _ :: _ :: _ :: _ :: _, h => simp at h

theorem copy_text (w : World) (a b : Obj) (s : ByteArray) (hs : s.size ≤ 7) (x y : Value) :
    (Builtin.copy_ #[60, 9] 3 #[.slice (some ⟨w.heap.size + 1 + 1, 1, none⟩) 8 8, .string s]).run Try.prog
      (((w.alloc a).alloc b).alloc (.cells #[x, .int .u8 0, .int .u8 0, .int .u8 0, .int .u8 0, .int .u8 0, .int .u8 0, .int .u8 0, y] 92)).drew
    = .ok (goInt s.size) (((w.alloc a).alloc b).alloc (.cells #[x, .int .u8 (bt s 0), .int .u8 (bt s 1), .int .u8 (bt s 2), .int .u8 (bt s 3), .int .u8 (bt s 4), .int .u8 (bt s 5), .int .u8 (bt s 6), y] 92)).drew := by
  have hz : ((w.alloc a).alloc b).heap.size = w.heap.size + 1 + 1 := by simp only [World.size_alloc]
  generalize ((w.alloc a).alloc b) = W at *
  rw [← hz]
  have h := Lib.run_copy_row_string (P := Try.prog) (W.alloc (.cells #[x, .int .u8 0, .int .u8 0, .int .u8 0, .int .u8 0, .int .u8 0, .int .u8 0, .int .u8 0, y] 92)).drew 60 9 3 5 W.heap.size 1 8 8 s
     #[x, .int .u8 0, .int .u8 0, .int .u8 0, .int .u8 0, .int .u8 0, .int .u8 0, .int .u8 0, y] 92 Try.underlying60 info5 (heap_alloc_new W _) (by omega) (by show 1 + s.size ≤ 9; omega)
  rw [h]
  congr 1
  have e := pad_list s hs x y
  show ((W.alloc _).setRow W.heap.size _).drew = _
  rw [World.setRow_alloc_new, e]


theorem ret_val {a b : Value} (h : a = b) : Ending.returned a = .returned b := by rw [h]
theorem agg9 {a b c d e f g h i a' b' c' d' e' f' g' h' i' : Int} (ha : a = a') (hb : b = b') (hc : c = c') (hd : d = d') (he : e = e') (hf : f = f') (hg : g = g') (hh : h = h') (hi : i = i') :
    (Value.agg #[.int .u8 a, .int .u8 b, .int .u8 c, .int .u8 d, .int .u8 e, .int .u8 f, .int .u8 g, .int .u8 h, .int .u8 i]) = .agg #[.int .u8 a', .int .u8 b', .int .u8 c', .int .u8 d', .int .u8 e', .int .u8 f', .int .u8 g', .int .u8 h', .int .u8 i'] := by
  subst ha hb hc hd he hf hg hh hi; rfl
set_option maxHeartbeats 400000 in
theorem codeOf_num (n : Int) (s : ByteArray) (w : World) (hs : s.size ≤ maxLen) (hn : -9223372036854775808 ≤ n) (hn2 : n ≤ 9223372036854775807) :
    Calls Try.prog 43 #[.agg #[.int .i64 1, .int .i64 n, .string s]] w fun e w' => e = .returned (.agg #[.int .u8 (cdv 1 n s 0), .int .u8 (cdv 1 n s 1), .int .u8 (cdv 1 n s 2), .int .u8 (cdv 1 n s 3), .int .u8 (cdv 1 n s 4), .int .u8 (cdv 1 n s 5), .int .u8 (cdv 1 n s 6), .int .u8 (cdv 1 n s 7), .int .u8 (cdv 1 n s 8)]) ∧ Below w.heap.size w w' := by
  unfold maxLen at hs
  go_enter Try.func43, Try.ntmps43
  go_wp2
  generalize hu : (bits BinOp.xor IntKind.u64 (IntKind.u64.wrap n) 9223372036854775808) = u
  rw [bits_xor63 n hn hn2] at hu
  have HU := Lib.hid hu
  clear hu
  go_rounds 9
  go_returns
  refine ⟨ret_val (agg9 rfl ?_ ?_ ?_ ?_ ?_ ?_ ?_ ?_), by go_grown⟩
  all_goals (have hu := HU.out; rw [cdv_num _ _ _ (by decide)]; simp only [Nat.reduceSub, Int.reducePow]; omega)
set_option maxHeartbeats 400000 in
theorem codeOf_text (n : Int) (s : ByteArray) (w : World) (hs : s.size ≤ 7) :
    Calls Try.prog 43 #[.agg #[.int .i64 2, .int .i64 n, .string s]] w fun e w' => e = .returned (.agg #[.int .u8 (cdv 2 n s 0), .int .u8 (cdv 2 n s 1), .int .u8 (cdv 2 n s 2), .int .u8 (cdv 2 n s 3), .int .u8 (cdv 2 n s 4), .int .u8 (cdv 2 n s 5), .int .u8 (cdv 2 n s 6), .int .u8 (cdv 2 n s 7), .int .u8 (cdv 2 n s 8)]) ∧ Below w.heap.size w w' := by
  have hcp := fun a b x y => copy_text w a b s hs x y
  go_enter Try.func43, Try.ntmps43
  go_wp2
  go_region
  go_wp2
  go_returns
  exact ⟨rfl, by go_grown⟩
theorem codeOf_any (k n : Int) (s : ByteArray) (w : World) (hs : s.size ≤ maxLen) (hn : -9223372036854775808 ≤ n) (hn2 : n ≤ 9223372036854775807) (hg : goodB k n s = true) :
    Calls Try.prog 43 #[.agg #[.int .i64 k, .int .i64 n, .string s]] w fun e w' => e = .returned (.agg #[.int .u8 (cdv k n s 0), .int .u8 (cdv k n s 1), .int .u8 (cdv k n s 2), .int .u8 (cdv k n s 3), .int .u8 (cdv k n s 4), .int .u8 (cdv k n s 5), .int .u8 (cdv k n s 6), .int .u8 (cdv k n s 7), .int .u8 (cdv k n s 8)]) ∧ Below w.heap.size w w' := by
  unfold goodB at hg
  rcases of_decide_eq_true hg with ⟨rfl, h2⟩ | ⟨rfl, h2, h3⟩
  · exact codeOf_num n s w hs hn hn2
  · exact codeOf_text n s w h3
end Go.Proofs.Ytoofoalpffoheaa.Sg
