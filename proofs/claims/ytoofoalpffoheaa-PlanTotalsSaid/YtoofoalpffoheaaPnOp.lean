/- Totals that come in. -/
import Derived.Test.YtoofoalpffoheaaPnA
import Derived.Test.YtoofoalpffoheaaLaw
namespace Go.Proofs.Ytoofoalpffoheaa.Pn
open Go.ChangeShapes Go.WideShapes Go.ChangeAt Go.RowKit Go.Deep Law Wd
set_option linter.unusedVariables false
section
variable {H : Type} {enc : TypeId × Value → H} {w : World} {r : Reach} {b0 base : Nat} {spare : Nat → Bool} {held : Bool} {v : Value} {d : DataW H} {p : List MemPlace}
theorem list_ofP {α : Type} (Q : Nat → α → Prop) (n : Nat) (h : ∀ i, i < n → ∃ x, Q i x) : ∃ l : List α, l.length = n ∧ ∀ (i : Nat) (x : α), l[i]? = some x → Q i x := by
  induction n with
  | zero => exact ⟨[], rfl, fun i x hx => by cases hx⟩
  | succ n ih =>
    obtain ⟨l, hl, hq⟩ := ih (fun i hi => h i (by omega))
    obtain ⟨x, hx⟩ := h n (by omega)
    refine ⟨l ++ [x], by simp [hl], fun i y hy => ?_⟩
    by_cases hi : i < n
    · rw [List.getElem?_append_left (by omega)] at hy; exact hq i y hy
    · rw [List.getElem?_append_right (by omega)] at hy
      have : i - l.length = 0 := by
        have := (List.getElem?_eq_some_iff.1 hy).1; simp at this; omega
      rw [this] at hy
      obtain rfl : i = n := by omega
      simpa using (Option.some.inj hy) ▸ hx
theorem fldP {P : Program} {fs : Array Field} {cs : List Value} {xs : List (DataW H × List MemPlace)} {n : Nat} (hlen : xs.length = fs.size)
    (hf : ∀ (i : Nat) (f : Field), fs[i]? = some f → DataW.trod enc P w base spare held n f.type ((cs.drop f.offset).take (P.cellsOf f.type)) = xs[i]?) (i : Nat) (t off k : Nat)
    (hi : (fs[i]?).map (fun f => (f.type, f.offset)) = some (t, off)) (hk : P.cellsOf t = k) : ∃ x, DataW.trod enc P w base spare held n t ((cs.drop off).take k) = some x := by
  obtain ⟨f, hf1, hf2⟩ := Option.map_eq_some_iff.1 hi
  simp only [Prod.mk.injEq] at hf2
  obtain ⟨rfl, rfl⟩ := hf2
  have := hf i f hf1
  rw [hk] at this
  have hil : i < xs.length := by have := (Array.getElem?_eq_some_iff.1 hf1).1; omega
  exact ⟨xs[i], by rw [this]; exact List.getElem?_eq_getElem hil⟩
theorem wide_of {v0 v1 : Value} {n : Nat} {x0 x1 : DataW H × List MemPlace} (h0 : DataW.trod enc Try.prog w base spare held n 3 [v0] = some x0) (h1 : DataW.trod enc Try.prog w base spare held n 22 [v1] = some x1) : ∃ x : W1, v0 = .int .i64 (hi x) ∧ v1 = .int .u64 (lo x) := by
  obtain ⟨k, e0, -, wf0⟩ := DataW.trod_int Try.underlying3 h0
  obtain ⟨n, e1, -, wf⟩ := DataW.trod_int Try.underlying22 h1
  obtain rfl : v0 = .int .i64 k := by simpa using e0
  obtain rfl : v1 = .int .u64 n := by simpa using e1
  have bd := bounds_i64 wf0
  have bu := bounds_u64 wf
  obtain ⟨x, rfl, rfl⟩ := parts k n bd (by omega)
  exact ⟨x, rfl, rfl⟩
set_option maxRecDepth 100000 in
theorem open_total (hv : Value.okWide Try.prog w r b0 27 v) (h : DataW.Trod enc Try.prog w base spare held 27 v d p) : ∃ c l, IsTot w v c l ∧ l.length ≤ maxLen := by
  obtain ⟨cs, rfl, hsz, -⟩ : ∃ cs, v = .agg cs ∧ cs.size = Try.prog.cellsOf 27 ∧ True := by
    have := hv
    unfold Value.okWide at this
    rw [Try.underlying27] at this
    obtain ⟨cs, h1, h2, -⟩ := this
    exact ⟨cs, h1, h2, trivial⟩
  obtain ⟨fuel, hf⟩ := h
  obtain ⟨xs, n, -, -, -, hlen, hfl⟩ := DataW.trod_struct Try.underlying27 hf
  have hc : (Value.agg cs).cells.toList = cs.toList := rfl
  rw [hc] at hfl
  have h3 : cs.toList.length = 3 := by rw [Array.length_toList, hsz]; kernel_rfl
  obtain ⟨a0, a1, a2, hl⟩ : ∃ a0 a1 a2, cs.toList = [a0, a1, a2] := by
    match cs.toList, h3 with
    | [a0, a1, a2], _ => exact ⟨_, _, _, rfl⟩
  obtain rfl : cs = #[a0, a1, a2] := by rw [← Array.toList_inj]; exact hl
  obtain ⟨x0, t0⟩ := fldP hlen hfl 0 24 0 2 (by kernel_rfl) (by kernel_rfl)
  obtain ⟨x1, t1⟩ := fldP hlen hfl 1 25 2 1 (by kernel_rfl) (by kernel_rfl)
  obtain ⟨ys, m, -, -, -, hlen2, hfl2⟩ := DataW.trod_struct Try.underlying24 t0
  obtain ⟨y0, u0⟩ := fldP hlen2 hfl2 0 3 0 1 (by kernel_rfl) (by kernel_rfl)
  obtain ⟨y1, u1⟩ := fldP hlen2 hfl2 1 22 1 1 (by kernel_rfl) (by kernel_rfl)
  obtain ⟨c, rfl, rfl⟩ := wide_of u0 u1
  have t1' : DataW.trod enc Try.prog w base spare held n 25 [a2] = some x1 := t1
  rcases open_slice_fields Try.underlying25 Try.underlying24 (by kernel_rfl) (by kernel_rfl) t1' with ⟨hcs, -⟩ | ⟨a, len', cap', m', D, Pl, hcs, -, hl', hm, hmm, -, hi'⟩
  · obtain rfl : a2 = .slice none 0 0 := by simpa using hcs
    exact ⟨c, [], ⟨none, 0, rfl, fun h => absurd rfl h⟩, by decide⟩
  · obtain rfl : a2 = .slice (some a) len' cap' := by simpa using hcs
    have hlm : len' ≤ m' := by rw [hmm]; split <;> omega
    obtain ⟨l, hll, hq⟩ := list_ofP (fun i (x : W1) => w.cell? (a.add (i * 2)) = some (.int .i64 (hi x)) ∧ w.cell? (a.add (i * 2 + 1)) = some (.int .u64 (lo x))) len' (fun i hil => by
      obtain ⟨ys, q, -, -, -, hat⟩ := hi' i (by omega)
      obtain ⟨v0, y0, c0, -, t0⟩ := hat 0 _ rfl
      obtain ⟨v1, y1, c1, -, t1⟩ := hat 1 _ rfl
      obtain ⟨x, rfl, rfl⟩ := wide_of t0 t1
      exact ⟨x, c0, c1⟩)
    subst hll
    refine ⟨c, l, ⟨some a, cap', rfl, ?_⟩, by omega⟩
    intro hne
    have hpos : 0 < l.length := List.length_pos_iff.2 hne
    obtain ⟨c0, -⟩ := hq 0 l[0] (List.getElem?_eq_getElem hpos)
    obtain ⟨b, o, spot⟩ := a
    obtain rfl : spot = none := by simpa [Addr.add] using World.cell?_spot c0
    have ha : ∀ i, (⟨b, o, none⟩ : Addr).add i = ⟨b, o + i, none⟩ := fun i => Go.WideShapes.add_plain b o i
    refine ⟨b, o, rfl, ?_, fun k x hx => ?_⟩
    · rw [ha] at c0; exact cell_lt c0
    · obtain ⟨q0, q1⟩ := hq k x hx
      rw [ha] at q0 q1
      exact ⟨q0, by rw [Nat.add_assoc]; exact q1⟩
end
end Go.Proofs.Ytoofoalpffoheaa.Pn
