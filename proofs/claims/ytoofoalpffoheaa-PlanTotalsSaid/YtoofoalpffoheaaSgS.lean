import Derived.Test.YtoofoalpffoheaaSgR


namespace Go.Proofs.Ytoofoalpffoheaa.Sg
open Go.ChangeShapes Go.WideShapes Go.ChangeAt Go.RowKit Go.PlainAid
set_option linter.unusedVariables false

def cellsV (l : List V) : List Value := l.flatMap fun v => [Value.int .i64 v.1, .int .i64 v.2.1, .string v.2.2]
theorem cellsV_snoc (l : List V) (v : V) : cellsV (l ++ [v]) = cellsV l ++ [Value.int .i64 v.1, .int .i64 v.2.1, .string v.2.2] := by unfold cellsV; rw [List.flatMap_append]; simp
/-- The values of the first k codes. -/
noncomputable def rdK (s : ByteArray) : Nat → Option (List V)
  | 0 => some []
  | k + 1 => match rdK s k, rd (s.extract (9 * k) (9 * k + 9)) with
    | some l, some v => some (l ++ [v])
    | _, _ => none
noncomputable def rdRow (s : ByteArray) : Option (List V) := if s.size % 9 = 0 ∧ s.size ≤ 36 then rdK s (s.size / 9) else none
theorem rdK_none {s : ByteArray} {k : Nat} (h : rdK s k = none) (m : Nat) : rdK s (k + m) = none := by
  induction m with
  | zero => exact h
  | succ m ih =>
    show (match rdK s (k + m), _ with | some l, some v => some (l ++ [v]) | _, _ => none) = none
    rw [ih]
theorem rdK_bad {s : ByteArray} {k : Nat} (h : rd (s.extract (9 * k) (9 * k + 9)) = none) (n : Nat) (hn : k < n) : rdK s n = none := by
  have h1 : rdK s (k + 1) = none := by
    show (match rdK s k, rd (s.extract (9 * k) (9 * k + 9)) with | some l, some v => some (l ++ [v]) | _, _ => none) = none
    rw [h]; cases rdK s k <;> rfl
  have := rdK_none h1 (n - (k + 1))
  rwa [show k + 1 + (n - (k + 1)) = n from by omega] at this
theorem rdK_step {s : ByteArray} {k : Nat} {l : List V} {v : V} (h1 : rdK s k = some l) (h2 : rd (s.extract (9 * k) (9 * k + 9)) = some v) : rdK s (k + 1) = some (l ++ [v]) := by
  show (match rdK s k, rd (s.extract (9 * k) (9 * k + 9)) with | some l, some v => some (l ++ [v]) | _, _ => none) = _
  rw [h1, h2]
theorem rdK_length {s : ByteArray} {k : Nat} {l : List V} (h : rdK s k = some l) : l.length = k := by
  induction k generalizing l with
  | zero => cases h; rfl
  | succ k ih =>
    have h' : (match rdK s k, rd (s.extract (9 * k) (9 * k + 9)) with | some l, some v => some (l ++ [v]) | _, _ => none) = some l := h
    cases h1 : rdK s k with
    | none => rw [h1] at h'; cases h'
    | some l' =>
      cases h2 : rd (s.extract (9 * k) (9 * k + 9)) with
      | none => rw [h1, h2] at h'; cases h'
      | some v => rw [h1, h2] at h'; cases h'; simp [ih h1]
theorem slice9 (s : ByteArray) (q : Nat) (h : q + 9 ≤ s.size) (w : World) : (Instr.slice 9 (.string s) (some (.int .i64 (q : Int))) (some (.int .i64 ((q : Int) + 9))) none).run Try.prog w = .ok (.string (s.extract q (q + 9))) w := by
  have := run_slice_string (P := Try.prog) w 9 s .i64 .i64 (q : Int) ((q : Int) + 9) Try.underlying9 (by omega) (by omega) (by omega)
  rw [this, show ((q : Int) + 9).toNat = q + 9 from by omega, show (q : Int).toNat = q from by omega]
theorem info_V : (Try.prog.info? 53).map (fun i => (i.zero, i.size, i.bytes)) = some (some (.agg #[.int .i64 0, .int .i64 0, .string ⟨#[]⟩]), 3, 32) := by kernel_rfl

/-- What ReadRow answers: the values' list, in memory of its own. -/
def RowPost (w : World) (r : Option (List V)) (e : Ending) (w' : World) : Prop :=
  Below w.heap.size w w' ∧ match r with
    | none => e = .returned (.tuple #[.slice none 0 0, .int .i64 3])
    | some l => ∃ v, e = .returned (.tuple #[v, .int .i64 0]) ∧ w'.ownsRow w.heap.size 53 3 v l.length (cellsV l) ∧ (v = .slice none 0 0 ↔ l = [])

end Go.Proofs.Ytoofoalpffoheaa.Sg
