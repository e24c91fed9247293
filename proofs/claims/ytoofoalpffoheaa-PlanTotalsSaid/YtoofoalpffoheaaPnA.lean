/- Totals: reads of rows of wide numbers; Nothing, numberAt. -/
import Derived.Test.YtoofoalpffoheaaWdC
import Derived.Test.YtoofoalpffoheaaBld
import Derived.Test.YtoofoalpffoheaaTab
namespace Go.Proofs.Ytoofoalpffoheaa.Pn
open Go.ChangeShapes Go.WideShapes Go.ChangeAt Go.RowKit Go.PlainAid Aid Wd
set_option linter.unusedVariables false
set_option linter.unusedSimpArgs false
abbrev W1 := BitVec 128
/-- The cells of a row of wide numbers. -/
def cellsW (l : List W1) : List Value := l.flatMap fun x => [.int .i64 (hi x), .int .u64 (lo x)]
def WAt (W : World) (b o : Nat) (x : W1) : Prop := W.cell? ⟨b, o, none⟩ = some (.int .i64 (hi x)) ∧ W.cell? ⟨b, o + 1, none⟩ = some (.int .u64 (lo x))
/-- The slice at A reads as l. -/
def WReads (W : World) (A : Option Addr) (l : List W1) : Prop := l ≠ [] → ∃ b off, A = some ⟨b, off, none⟩ ∧ b < W.heap.size ∧ ∀ i x, l[i]? = some x → WAt W b (off + i * 2) x
theorem WReads.keep {W W' : World} {A : Option Addr} {l : List W1} (h : WReads W A l) (hb : Below W.heap.size W W') : WReads W' A l := by
  intro hl
  obtain ⟨b, off, rfl, hlt, hc⟩ := h hl
  have hz := hb.size
  refine ⟨b, off, rfl, by omega, fun i v hv => ?_⟩
  obtain ⟨h1, h2⟩ := hc i v hv
  obtain ⟨hc, -⟩ := bcell hb
  refine ⟨?_, ?_⟩
  all_goals (rw [hc _ _ hlt]; assumption)
theorem cellsW_len (l : List W1) : (cellsW l).length = 2 * l.length := by
  induction l with
  | nil => rfl
  | cons a l ih =>
    have e : cellsW (a :: l) = [.int .i64 (hi a), .int .u64 (lo a)] ++ cellsW l := rfl
    rw [e, List.length_append, ih, List.length_cons]
    simp only [List.length_cons, List.length_nil]
    omega
theorem cellsW_at : ∀ (l : List W1) (i : Nat) (x : W1), l[i]? = some x → (cellsW l)[i * 2]? = some (.int .i64 (hi x)) ∧ (cellsW l)[i * 2 + 1]? = some (.int .u64 (lo x))
  | a :: l, 0, x, h => by
    obtain rfl : a = x := by simpa using h
    exact ⟨rfl, rfl⟩
  | a :: l, i + 1, x, h => by
    have := cellsW_at l i x (by simpa using h)
    rw [show (i + 1) * 2 = i * 2 + 1 + 1 by omega]
    exact this
theorem WReads.of_blk {W : World} {g : Nat} {T : TypeId} {l : List W1} (h : Blk W g T (cellsW l).toArray) : WReads W (some ⟨g, 0, none⟩) l := fun _ => by
  refine ⟨g, 0, rfl, h.lt, fun i x hx => ?_⟩
  obtain ⟨c0, c1⟩ := cellsW_at l i x hx
  rw [Nat.zero_add]
  exact ⟨by rw [h.cell, List.getElem?_toArray, c0], by rw [h.cell, List.getElem?_toArray, c1]⟩
def totV (c : W1) (A : Option Addr) (n cap : Nat) : Value := .agg #[.int .i64 (hi c), .int .u64 (lo c), .slice A n cap]
/-- A total in memory: its value, and what it has. -/
def IsTot (w : World) (v : Value) (c : W1) (l : List W1) : Prop := ∃ A cap, v = totV c A l.length cap ∧ WReads w A l
theorem hi0 : hi 0 = 0 := by decide +kernel
theorem lo0 : lo 0 = 0 := by decide +kernel
def zer (n : Nat) : List W1 := List.replicate n 0
theorem made_zer (n : Nat) : madeCells #[.int .i64 0, .int .u64 0] (n * 2) = (cellsW (zer n)).toArray := by
  have hsz : (madeCells #[Value.int .i64 0, .int .u64 0] (n * 2)).size = 2 * n := by
    unfold madeCells
    simp
    omega
  apply Array.ext
  · rw [hsz, List.size_toArray, cellsW_len]
    unfold zer
    rw [List.length_replicate]
  · intro i h1 h2
    rw [List.size_toArray, cellsW_len] at h2
    have hz : i / 2 < n := by unfold zer at h2; rw [List.length_replicate] at h2; omega
    obtain ⟨c0, c1⟩ := cellsW_at (zer n) (i / 2) 0 (by unfold zer; rw [List.getElem?_replicate, if_pos hz])
    rw [hi0] at c0
    rw [lo0] at c1
    have e : (cellsW (zer n)).toArray[i]? = some ((cellsW (zer n)).toArray[i]) := Array.getElem?_eq_getElem _
    rw [List.getElem?_toArray] at e
    have hm : (madeCells #[.int .i64 0, .int .u64 0] (n * 2))[i]'h1 = #[Value.int .i64 0, .int .u64 0][i % 2]! := by
      unfold madeCells
      simp
    rw [hm]
    rcases Nat.mod_two_eq_zero_or_one i with m | m
    · rw [m]
      rw [show i / 2 * 2 = i by omega] at c0
      rw [c0] at e
      exact (Option.some.inj e)
    · rw [m]
      rw [show i / 2 * 2 + 1 = i by omega] at c1
      rw [c1] at e
      exact (Option.some.inj e)
/-- How many sums: none below 0, two at most. -/
def cut2 (n : Int) : Nat := if n ≤ 0 then 0 else if n = 1 then 1 else 2
theorem mkW (n : Nat) (hn : n ≤ 100000) (W : World) : (Instr.makeSlice 25 (.int .i64 n) (.int .i64 n)).run Try.prog W = .ok (.slice (some ⟨W.heap.size, 0, none⟩) n n) (W.alloc (.cells (cellsW (zer n)).toArray 24)) := by
  rw [← made_zer]
  exact make_rows (P := Try.prog) 25 24 (.agg #[.int .i64 0, .int .u64 0]) 2 16 Try.underlying25 (by kernel_rfl) .i64 .i64 n (by omega) (by omega) W
theorem Nothing_any (n : Int) (w : World) :
    Calls Try.prog 14 #[.int .i64 n] w fun e w' => ∃ v, e = .returned v ∧ Below w.heap.size w w' ∧ IsTot w' v 0 (zer (cut2 n)) := by
  have HM := Lib.hid (mkW (cut2 n) (by unfold cut2; split <;> (try split) <;> omega))
  have hmx : min (max n 0) 2 = (cut2 n : Int) := by unfold cut2; split <;> (try split) <;> omega
  have hml : (zer (cut2 n)).length = cut2 n := List.length_replicate
  have HL := Lib.hid hml
  clear hml
  go_enter Try.func14, Try.ntmps14
  go_upto_region 1 with fail
  have hmk := HM.out
  go_wp2_with fail
  refine bodyPost_ret (v := totV 0 (some ⟨w.heap.size + 1, 0, none⟩) (cut2 n) (cut2 n)) (by unfold totV; rw [hi0, lo0]; simp [results, Try.results14, go_sem]) rfl ⟨_, rfl, blA (blA (Below.refl _ _) _) _, some ⟨w.heap.size + 1, 0, none⟩, cut2 n, by rw [HL.out], WReads.of_blk (T := 24) ?_⟩
  exact Blk.new' _ _ _ _ (by simp)
theorem numberAt_any (s : ByteArray) (k : Nat) (w : World) (hm : s.size ≤ maxLen) (hk : 16 * k + 16 ≤ s.size) :
    Calls Try.prog 28 #[.string s, .int .i64 k] w fun e w' => e = .returned (Wv (readZ (s.extract (16 * k) (16 * k + 16)))) ∧ Below w.heap.size w w' := by
  unfold maxLen at hm
  have HR := Lib.hid (fun w => Read_yes (s.extract (16 * k) (16 * k + 16)) w (by simp [ByteArray.size_extract]; omega))
  have hx : ∀ w, (Instr.slice 9 (.string s) (some (.int .i64 (16 * k))) (some (.int .i64 (16 * k + 16))) none).run Try.prog w = .ok (.string (s.extract (16 * k) (16 * k + 16))) w := fun w => by
    have := run_slice_string (P := Try.prog) w 9 s .i64 .i64 (16 * (k : Int)) (16 * (k : Int) + 16) Try.underlying9 (by omega) (by omega) (by omega)
    rw [this, show (16 * (k : Int) + 16).toNat = 16 * k + 16 from by omega, show (16 * (k : Int)).toNat = 16 * k from by omega]
  have hw : IntKind.i64.wrap ((k : Int) * 16) = 16 * k := by rw [i64_is, IntWalk.wrap64_in _ ⟨by omega, by omega⟩]; omega
  have hw2 : IntKind.i64.wrap (16 * (k : Int) + 16) = 16 * k + 16 := by rw [i64_is, IntWalk.wrap64_in _ ⟨by omega, by omega⟩]
  have HX := Lib.hid hx
  clear hx
  generalize readZ (s.extract (16 * k) (16 * k + 16)) = x at *
  unfold Wv at HR ⊢
  go_enter Try.func28, Try.ntmps28
  have hx := HX.out
  go_wp2_with fail
  clear hx
  have S0 := Lib.hid ((Own.none w).alloc #[.int .i64 0, .int .u64 0] 24)
  obtain ⟨g, hgz⟩ : ∃ g, g = w.heap.size := ⟨_, rfl⟩
  rw [← hgz] at S0 ⊢
  clear hgz
  generalize World.alloc w _ = w1 at *
  refine (HR.out _).mono ?_
  rintro e w2 ⟨rfl, hb⟩
  have S1 := Lib.hid (S0.out.below hb)
  clear S0 hb
  go_upto_region 3 with fail
  have S2 := Lib.hid ((S1.out.alloc #[.int .i64 (hi x), .int .u64 (lo x)] 24).re (show _ = Asn.blk g 24 #[.int .i64 0, .int .u64 0] * (Asn.blk w2.heap.size 24 #[.int .i64 (hi x), .int .u64 (lo x)] * Asn.emp) by ac_rfl))
  obtain ⟨g2, hgz⟩ : ∃ g, g = w2.heap.size := ⟨_, rfl⟩
  rw [← hgz] at S2 ⊢
  clear hgz S1
  generalize World.alloc w2 _ = w3 at *
  obtain ⟨⟨c0, c1⟩, f0, f1⟩ := two_of (S2.out.has (Has.l (has_blk g _ _)))
  obtain ⟨⟨d0, d1⟩, -, -⟩ := two_of (S2.out.has (Has.r (Has.l (has_blk g2 _ _))))
  have S3 := Lib.hid (own_2 S2.out (.int .i64 (hi x)) (.int .u64 (lo x)))
  go_wp2_with fail
  exact bodyPost_ret (resW rfl rfl (S3.out.has (Has.l (has_blk g _ _)))) rfl ⟨rfl, S3.out.bel⟩
end Go.Proofs.Ytoofoalpffoheaa.Pn
