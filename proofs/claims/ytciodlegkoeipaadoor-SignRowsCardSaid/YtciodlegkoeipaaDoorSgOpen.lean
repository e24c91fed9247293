/- Values, and lists of them, that come in. -/
import Derived.Test.YtciodlegkoeipaaDoorSgT
import Derived.Test.YtciodlegkoeipaaDoorLaw
namespace Go.Proofs.YtciodlegkoeipaaDoor.Sg
open Go.ChangeShapes Go.WideShapes Go.ChangeAt Go.RowKit Law

theorem laidOut : laidOutB Tryd.prog = true := by kernel_rfl
theorem own : ownKnob Tryd.prog.godebug = none := by kernel_rfl
theorem cell_lt {w : World} {a : Addr} {v : Value} (h : w.cell? a = some v) : a.block < w.heap.size := by
  rcases Nat.lt_or_ge a.block w.heap.size with hl | hl
  · exact hl
  · have : w.heap[a.block]? = none := Array.getElem?_eq_none hl
    simp [World.cell?, this] at h
section
variable {H : Type} {enc : TypeId × Value → H} {w : World} {r : Reach} {b0 base : Nat} {sp : Nat → Bool} {held : Bool} {v : Value} {d : DataW H} {p : List MemPlace}
/-- A value that comes in. -/
theorem open_value (hv : Value.okWide Tryd.prog w r b0 23 v) (h : DataW.Trod enc Tryd.prog w base sp held 23 v d p) :
    ∃ (k n : Int) (s : ByteArray), v = .agg #[.int .i64 k, .int .i64 n, .string s] ∧ -9223372036854775808 ≤ n ∧ n ≤ 9223372036854775807 ∧ s.size ≤ maxLen := by
  obtain ⟨v0, v1, v2, y0, y1, y2, m, rfl, -, -, h0, h1, h2⟩ := Joins.open_agg3 Tryd.underlying23 (by kernel_rfl) (by kernel_rfl) hv h
  obtain ⟨k, e0, -, -⟩ := DataW.trod_int Tryd.underlying3 h0
  obtain ⟨n, e1, -, wf⟩ := DataW.trod_int Tryd.underlying3 h1
  obtain ⟨s, e2, -, hs⟩ := DataW.trod_string Tryd.underlying9 h2
  obtain rfl : v0 = .int .i64 k := by simpa using e0
  obtain rfl : v1 = .int .i64 n := by simpa using e1
  obtain rfl : v2 = .string s := by simpa using e2
  have bd := bounds_i64 wf
  exact ⟨k, n, s, rfl, bd.1, bd.2, hs⟩

theorem list_of (n : Nat) (Q : Nat → V → Prop) (h : ∀ i, i < n → ∃ v, Q i v) : ∃ l : List V, l.length = n ∧ ∀ i v, l[i]? = some v → Q i v := by
  induction n with
  | zero => exact ⟨[], rfl, by intro i v hv; cases hv⟩
  | succ n ih =>
    obtain ⟨l, hl, hq⟩ := ih (fun i hi => h i (by omega))
    obtain ⟨v, hv⟩ := h n (by omega)
    refine ⟨l ++ [v], by simp [hl], fun i u hu => ?_⟩
    by_cases hi : i < n
    · rw [List.getElem?_append_left (by omega)] at hu; exact hq i u hu
    · have : i = n := by
        have := (List.getElem?_eq_some_iff.1 hu).1
        simp at this; omega
      subst this
      rw [List.getElem?_append_right (by omega), hl] at hu
      simp at hu; subst hu; exact hv

/-- A list of values that comes in. -/
theorem open_values (hv : Value.okWide Tryd.prog w r b0 36 v) (h : DataW.Trod enc Tryd.prog w base sp held 36 v d p) :
    ∃ (A : Option Addr) (c : Nat) (l : List V), v = .slice A l.length c ∧ l.length ≤ maxLen ∧ VReads w A l ∧ ∀ u ∈ l, inV u := by
  obtain ⟨a0, len, cap, rfl⟩ := okWide_slice Tryd.underlying36 hv
  obtain ⟨fuel, hf⟩ := h
  rcases open_slice_fields Tryd.underlying36 Tryd.underlying23 (by kernel_rfl) (by kernel_rfl) hf with ⟨hcs, -⟩ | ⟨a, len', cap', m, D, Pl, hcs, -, hl, hm, hmm, hx, hi⟩
  · have e : (Value.slice a0 len cap) = .slice none 0 0 := by simpa [Value.cells] using hcs
    cases e
    exact ⟨none, 0, [], rfl, by decide, fun h => absurd rfl h, by simp⟩
  · have e : (Value.slice a0 len cap) = .slice (some a) len' cap' := by simpa [Value.cells] using hcs
    cases e
    have hml : len ≤ m := by rw [hmm]; split <;> omega
    have hq : ∀ i, i < len → ∃ v : V, (w.cell? (a.add (i * 3)) = some (.int .i64 v.1) ∧ w.cell? (a.add (i * 3 + 1)) = some (.int .i64 v.2.1) ∧ w.cell? (a.add (i * 3 + 2)) = some (.string v.2.2)) ∧ inV v := by
      intro i hil
      obtain ⟨ys, n, -, -, -, hfs⟩ := hi i (by omega)
      obtain ⟨v0, y0, c0, -, t0⟩ := hfs 0 _ rfl
      obtain ⟨v1, y1, c1, -, t1⟩ := hfs 1 _ rfl
      obtain ⟨v2, y2, c2, -, t2⟩ := hfs 2 _ rfl
      obtain ⟨k, e0, -, -⟩ := DataW.trod_int Tryd.underlying3 t0
      obtain ⟨n, e1, -, wf⟩ := DataW.trod_int Tryd.underlying3 t1
      obtain ⟨s, e2, -, hs⟩ := DataW.trod_string Tryd.underlying9 t2
      obtain rfl : v0 = .int .i64 k := by simpa using e0
      obtain rfl : v1 = .int .i64 n := by simpa using e1
      obtain rfl : v2 = .string s := by simpa using e2
      have bd := bounds_i64 wf
      exact ⟨(k, n, s), ⟨c0, c1, c2⟩, bd.1, bd.2, hs⟩
    obtain ⟨l, hll, hlq⟩ := list_of len _ hq
    subst hll
    refine ⟨some a, cap, l, rfl, by omega, ?_, ?_⟩
    · intro hne
      have hpos : 0 < l.length := by cases l with
        | nil => exact absurd rfl hne
        | cons => simp
      obtain ⟨v0, hc0, -⟩ := hq 0 hpos
      obtain ⟨b, off, spot⟩ := a
      have hspot : spot = none := by simpa [Addr.add] using World.cell?_spot hc0.1
      subst hspot
      have hb : b < w.heap.size := by
        have := cell_lt hc0.1
        simpa [Addr.add] using this
      refine ⟨b, off, rfl, hb, fun i v hv => ?_⟩
      obtain ⟨⟨h1, h2, h3⟩, -⟩ := hlq i v hv
      rw [Go.WideShapes.add_plain] at h1 h2 h3
      exact ⟨h1, by rw [Nat.add_assoc]; exact h2, by rw [Nat.add_assoc]; exact h3⟩
    · intro u hu
      obtain ⟨i, hi⟩ := List.mem_iff_getElem?.1 hu
      exact (hlq i u hi).2
end
end Go.Proofs.YtciodlegkoeipaaDoor.Sg
