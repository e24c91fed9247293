/- Texts of ours, joined. -/
import Derived.Test.YtfahgejiclgbfaaMnB
import Derived.Test.YtfahgejiclgbfaaBkAw
import Derived.ChangeArms
import Derived.Deep.Strs
import Derived.Test.YtfahgejiclgbfaaNtA
import Derived.Test.YtfahgejiclgbfaaShelf
import Derived.Test.YtfahgejiclgbfaaWkD

-- joined
section
namespace Go.Proofs.Ytfahgejiclgbfaa.Law
open Go.ChangeShapes Go.WideShapes Go.ChangeAt Go.RowKit Go.Deep Aid
variable {H : Type} {enc : TypeId × Value → H} {P : Program} {w : World} {r : Reach} {b0 base : Nat} {spare : Nat → Bool} {held : Bool} {v : Value} {d : DataW H} {p : List MemPlace}
def ckType (P : Program) (k : CK) (t : TypeId) : Prop := P.underlying t = some (match k with | .num => .int .i64 | .str => .string | .truth => .bool)
theorem ck_trod {k : CK} {t : TypeId} {fuel : Nat} {x : DataW H × List MemPlace} (ht : ckType P k t) (h : DataW.trod enc P w base spare held fuel t [v] = some x) : k.ok v := by
  cases k with
  | num => obtain ⟨n, hn, -, hw⟩ := DataW.trod_int ht h
           exact ⟨n, by simpa using hn, bounds_i64 hw⟩
  | str => obtain ⟨s, hn, -, hw⟩ := DataW.trod_string ht h
           exact ⟨s, by simpa using hn, hw⟩
  | truth => obtain ⟨b, hn, -⟩ := DataW.trod_bool ht h
             exact ⟨b, by simpa using hn⟩
/-- A slice of structs that comes in. -/
theorem open_cell_rows {t e : TypeId} {fs : Array Field} (ks : List CK) (ht : P.underlying t = some (.slice e)) (he : P.underlying e = some (.struct fs)) (hone : oneCellFields P fs = true) (hC : P.cellsOf e = fs.size) (hF : fs.size = ks.length) (h0F : 0 < ks.length)
    (hint : ∀ (j : Nat) (f : Field) (k : CK), fs[j]? = some f → ks[j]? = some k → ckType P k f.type)
    (hv : Value.okWide P w r b0 t v) (h : DataW.Trod enc P w base spare held t v d p) :
    ∃ (A : Option Addr) (m c : Nat) (z : Nat → Nat → Value), v = .slice A m c ∧ m ≤ maxLen ∧ m ≤ c ∧ c ≤ maxLen ∧ CellRows w A m ks z := by
  obtain ⟨a0, len, cap, rfl⟩ := okWide_slice ht hv
  obtain ⟨fuel, hf⟩ := h
  rcases open_slice_fields ht he hone hC hf with ⟨hcs, -⟩ | ⟨a, len', cap', m, D, Pl, hcs, -, hl, hm, hmm, -, hi⟩
  · have e : (Value.slice a0 len cap) = .slice none 0 0 := by simpa [Value.cells] using hcs
    cases e
    exact ⟨none, 0, 0, fun _ _ => undef, rfl, by decide, Nat.le_refl _, by decide, Or.inl rfl⟩
  · have e : (Value.slice a0 len cap) = .slice (some a) len' cap' := by simpa [Value.cells] using hcs
    cases e
    have hlm : len ≤ m := by rw [hmm]; split <;> omega
    have key : ∀ i, i < len → ∀ (j : Nat) (k : CK), ks[j]? = some k → ∃ n, w.cell? (a.add (i * ks.length + j)) = some n ∧ k.ok n := by
      intro i hi' j k hk
      have hj : j < fs.size := by have := (List.getElem?_eq_some_iff.1 hk).1; omega
      obtain ⟨ys, q, -, -, -, hat⟩ := hi i (by omega)
      obtain ⟨v, y, hc, -, ht'⟩ := hat j fs[j] (Array.getElem?_eq_getElem hj)
      rw [hF] at hc
      exact ⟨v, hc, ck_trod (hint j fs[j] k (Array.getElem?_eq_getElem hj) hk) ht'⟩
    let z : Nat → Nat → Value := fun i j => (w.cell? (a.add (i * ks.length + j))).getD undef
    refine ⟨some a, len, cap, z, rfl, by omega, hl, hm, ?_⟩
    by_cases h0 : len = 0
    · exact Or.inl h0
    right
    obtain ⟨n0, c0, -⟩ := key 0 (by omega) 0 ks[0] (List.getElem?_eq_getElem h0F)
    obtain ⟨b, o, spot⟩ := a
    obtain rfl : spot = none := by simpa [Addr.add] using World.cell?_spot c0
    have ha : ∀ i, (⟨b, o, none⟩ : Addr).add i = ⟨b, o + i, none⟩ := fun i => Go.WideShapes.add_plain b o i
    refine ⟨b, o, rfl, ?_, fun i hi j hj => ?_, fun i hi j k hk => ?_⟩
    · rw [ha] at c0; exact cell_lt c0
    · obtain ⟨n, hc, hw⟩ := key i hi j ks[j] (List.getElem?_eq_getElem hj)
      have : z i j = n := by show (w.cell? _).getD undef = n; rw [hc]; rfl
      rw [this, Nat.add_assoc, ← ha]; exact hc
    · obtain ⟨n, hc, hw⟩ := key i hi j k hk
      have : z i j = n := by show (w.cell? _).getD undef = n; rw [hc]; rfl
      rw [this]; exact hw
/-- A slice of strings that comes in. -/
theorem open_str_row {t e : TypeId} (ht : P.underlying t = some (.slice e)) (he : P.underlying e = some .string) (hC : P.cellsOf e = 1)
    (hv : Value.okWide P w r b0 t v) (h : DataW.Trod enc P w base spare held t v d p) :
    ∃ (A : Option Addr) (m c : Nat) (z : Nat → ByteArray), v = .slice A m c ∧ m ≤ maxLen ∧ m ≤ c ∧ c ≤ maxLen ∧ StrRow w A m z := by
  obtain ⟨a0, len, cap, rfl⟩ := okWide_slice ht hv
  obtain ⟨fuel, hf⟩ := h
  rcases open_strs ht he hC hf with ⟨hcs, -⟩ | ⟨a, len', cap', m, Sx, hcs, -, hl, hm, hmm, -, hi⟩
  · have e : (Value.slice a0 len cap) = .slice none 0 0 := by simpa [Value.cells] using hcs
    cases e
    exact ⟨none, 0, 0, fun _ => ⟨#[]⟩, rfl, by decide, Nat.le_refl _, by decide, Or.inl rfl⟩
  · have e : (Value.slice a0 len cap) = .slice (some a) len' cap' := by simpa [Value.cells] using hcs
    cases e
    have hlm : len ≤ m := by rw [hmm]; split <;> omega
    refine ⟨some a, len, cap, Sx, rfl, by omega, hl, hm, ?_⟩
    by_cases h0 : len = 0
    · exact Or.inl h0
    right
    have c0 := (hi 0 (by omega)).1
    obtain ⟨b, o, spot⟩ := a
    obtain rfl : spot = none := by simpa [Addr.add] using World.cell?_spot c0
    have ha : ∀ i, (⟨b, o, none⟩ : Addr).add i = ⟨b, o + i, none⟩ := fun i => Go.WideShapes.add_plain b o i
    refine ⟨b, o, rfl, ?_, fun i hi' => ?_⟩
    · rw [ha] at c0; exact cell_lt c0
    · rw [← ha]; exact hi i (by omega)
/-- A slice of numbers that comes in. -/
theorem open_num_row {t e : TypeId} (ht : P.underlying t = some (.slice e)) (he : P.underlying e = some (.int .i64)) (hC : P.cellsOf e = 1)
    (hv : Value.okWide P w r b0 t v) (h : DataW.Trod enc P w base spare held t v d p) :
    ∃ (A : Option Addr) (m c : Nat) (z : Nat → Int), v = .slice A m c ∧ m ≤ maxLen ∧ m ≤ c ∧ c ≤ maxLen ∧ NumRow w A m z := by
  obtain ⟨A, m, c, z, rfl, hm, h1, h2, h3⟩ := open_nums ht he hC hv h
  exact ⟨A, m, c, z, rfl, hm, h1, h2, h3.imp_right fun ⟨b, o, e, l, g, k⟩ => ⟨b, o, e, l, fun i hi => ⟨g i hi, bounds_i64 (k i hi)⟩⟩⟩
end Go.Proofs.Ytfahgejiclgbfaa.Law
end

-- joined
section
namespace Go.Proofs.Ytfahgejiclgbfaa.Law
open Go.ChangeShapes Go.WideShapes Go.ChangeAt Go.RowKit Go.Deep Aid Nt
set_option linter.unusedVariables false
variable {H : Type} {enc : TypeId × Value → H} {w : World} {r : Reach} {b0 base : Nat} {spare : Nat → Bool} {held : Bool} {v : Value} {d : DataW H} {p : List MemPlace}
theorem list_of {α : Type} (Q : Nat → α → Prop) (n : Nat) (h : ∀ i, i < n → ∃ x, Q i x) : ∃ l : List α, l.length = n ∧ ∀ (i : Nat) (x : α), l[i]? = some x → Q i x := by
  induction n with
  | zero => exact ⟨[], rfl, fun i x hx => by cases hx⟩
  | succ n ih =>
    obtain ⟨l, hl, hq⟩ := ih (fun i hi => h i (by omega))
    obtain ⟨x, hx⟩ := h n (by omega)
    refine ⟨l ++ [x], by simp [hl], fun i y hy => ?_⟩
    by_cases hi : i < n
    · rw [List.getElem?_append_left (by omega)] at hy; exact hq i y hy
    · rw [List.getElem?_append_right (by omega)] at hy
      have : i - l.length = 0 := by
        have := (List.getElem?_eq_some_iff.1 hy).1; simp at this; omega
      rw [this] at hy
      obtain rfl : i = n := by omega
      simpa using (Option.some.inj hy) ▸ hx
/-- A slice of structs of two cells, as a field. -/
theorem open_row2 {P : Program} {α : Type} (f : α → Value × Value) {t e : TypeId} {fs : Array Field} {fuel : Nat} {v : Value} {x : DataW H × List MemPlace} (ht : P.underlying t = some (.slice e)) (he : P.underlying e = some (.struct fs))
    (hone : oneCellFields P fs = true) (hC : P.cellsOf e = fs.size) (h2 : fs.size = 2) (k1 k2 : CK)
    (hint : ∀ (j : Nat) (f : Field) (k : CK), fs[j]? = some f → [k1, k2][j]? = some k → ckType P k f.type)
    (hf : ∀ a b, k1.ok a → k2.ok b → ∃ x, f x = (a, b))
    (h : DataW.trod enc P w base spare held fuel t [v] = some x) : ∃ l, Row2 f w v l := by
  rcases open_slice_fields ht he hone hC h with ⟨hcs, -⟩ | ⟨a, len', cap', m, D, Pl, hcs, -, hl, hm, hmm, -, hi⟩
  · obtain rfl : v = .slice none 0 0 := by simpa using hcs
    exact ⟨[], Row2.nil f w⟩
  · obtain rfl : v = .slice (some a) len' cap' := by simpa using hcs
    rw [h2] at hi
    have hlm : len' ≤ m := by rw [hmm]; split <;> omega
    obtain ⟨l, hll, hq⟩ := list_of (fun i (x : α) => w.cell? (a.add (i * 2 + 0)) = some (f x).1 ∧ w.cell? (a.add (i * 2 + 1)) = some (f x).2) len' (fun i hi' => by
      obtain ⟨ys, q, -, -, -, hat⟩ := hi i (by omega)
      have hfs0 : fs[0]? = some (fs[0]'(by omega)) := Array.getElem?_eq_getElem _
      have hfs1 : fs[1]? = some (fs[1]'(by omega)) := Array.getElem?_eq_getElem _
      obtain ⟨v0, y0, c0, -, t0⟩ := hat 0 _ hfs0
      obtain ⟨v1, y1, c1, -, t1⟩ := hat 1 _ hfs1
      obtain ⟨x, hx⟩ := hf v0 v1 (ck_trod (hint 0 _ k1 hfs0 rfl) t0) (ck_trod (hint 1 _ k2 hfs1 rfl) t1)
      exact ⟨x, by rw [hx]; exact c0, by rw [hx]; exact c1⟩)
    refine ⟨l, some a, cap', by rw [hll], by omega, ?_⟩
    by_cases h0 : l = []
    · exact Or.inl h0
    right
    have hpos : 0 < l.length := List.length_pos_iff.2 h0
    obtain ⟨c0, -⟩ := hq 0 l[0] (List.getElem?_eq_getElem hpos)
    obtain ⟨b, o, spot⟩ := a
    obtain rfl : spot = none := by simpa [Addr.add] using World.cell?_spot c0
    have ha : ∀ i, (⟨b, o, none⟩ : Addr).add i = ⟨b, o + i, none⟩ := fun i => Go.WideShapes.add_plain b o i
    refine ⟨b, o, rfl, ?_, fun k x hx => ?_⟩
    · rw [ha] at c0; exact cell_lt c0
    · obtain ⟨q0, q1⟩ := hq k x hx
      rw [ha, Nat.add_zero] at q0
      rw [ha] at q1
      exact ⟨q0, by rw [Nat.add_assoc]; exact q1⟩
theorem bytes_of (s : ByteArray) : ∃ l : By, s = ofL l := ⟨s.data.toList, (ofL_back s).symm⟩
theorem len11 {α : Type} {l : List α} (h : l.length = 11) : ∃ a0 a1 a2 a3 a4 a5 a6 a7 a8 a9 a10, l = [a0, a1, a2, a3, a4, a5, a6, a7, a8, a9, a10] := by
  match l, h with
  | [a0, a1, a2, a3, a4, a5, a6, a7, a8, a9, a10], _ => exact ⟨_, _, _, _, _, _, _, _, _, _, _, rfl⟩
theorem fld {P : Program} {fs : Array Field} {cs : List Value} {xs : List (DataW H × List MemPlace)} {n : Nat} (hlen : xs.length = fs.size)
    (hf : ∀ (i : Nat) (f : Field), fs[i]? = some f → DataW.trod enc P w base spare held n f.type ((cs.drop f.offset).take (P.cellsOf f.type)) = xs[i]?) (i : Nat) (t off k : Nat)
    (hi : (fs[i]?).map (fun f => (f.type, f.offset)) = some (t, off)) (hk : P.cellsOf t = k) : ∃ x, DataW.trod enc P w base spare held n t ((cs.drop off).take k) = some x := by
  obtain ⟨f, hf1, hf2⟩ := Option.map_eq_some_iff.1 hi
  simp only [Prod.mk.injEq] at hf2
  obtain ⟨rfl, rfl⟩ := hf2
  have := hf i f hf1
  rw [hk] at this
  have hil : i < xs.length := by have := (Array.getElem?_eq_some_iff.1 hf1).1; omega
  exact ⟨xs[i], by rw [this]; exact List.getElem?_eq_getElem hil⟩
end Go.Proofs.Ytfahgejiclgbfaa.Law
end

-- joined
section
namespace Go.Proofs.Ytfahgejiclgbfaa.Law
open Go.ChangeShapes Go.WideShapes Go.ChangeAt Go.RowKit Go.Deep Aid Nd
set_option linter.unusedVariables false
variable {H : Type} {enc : TypeId × Value → H} {w : World} {r : Reach} {b0 base : Nat} {spare : Nat → Bool} {held : Bool} {v : Value} {d : DataW H} {p : List MemPlace}
theorem len3 {α : Type} {l : List α} (h : l.length = 3) : ∃ a0 a1 a2, l = [a0, a1, a2] := by
  match l, h with
  | [a0, a1, a2], _ => exact ⟨_, _, _, rfl⟩
theorem len7 {α : Type} {l : List α} (h : l.length = 7) : ∃ a0 a1 a2 a3 a4 a5 a6, l = [a0, a1, a2, a3, a4, a5, a6] := by
  match l, h with
  | [a0, a1, a2, a3, a4, a5, a6], _ => exact ⟨_, _, _, _, _, _, _, rfl⟩
/-- A slice of entries, as a field. -/
theorem open_row3 {fuel : Nat} {v : Value} {x : DataW H × List MemPlace} (h : DataW.trod enc Try.prog w base spare held fuel 27 [v] = some x) : ∃ l, Row3 w v l := by
  rcases open_slice_fields Try.underlying27 Try.underlying44 (by kernel_rfl) (by kernel_rfl) h with ⟨hcs, -⟩ | ⟨a, len', cap', m, D, Pl, hcs, -, hl, hm, hmm, -, hi⟩
  · obtain rfl : v = .slice none 0 0 := by simpa using hcs
    exact ⟨[], Row3.nil w⟩
  · obtain rfl : v = .slice (some a) len' cap' := by simpa using hcs
    have hlm : len' ≤ m := by rw [hmm]; split <;> omega
    obtain ⟨l, hll, hq⟩ := list_of (fun i (x : Ent) => w.cell? (a.add (i * 3 + 0)) = some (.string (ofL x.key)) ∧ w.cell? (a.add (i * 3 + 1)) = some (.string (ofL x.val)) ∧ w.cell? (a.add (i * 3 + 2)) = some (.bool x.ghost)) len' (fun i hi' => by
      obtain ⟨ys, q, -, -, -, hat⟩ := hi i (by omega)
      obtain ⟨v0, y0, c0, -, t0⟩ := hat 0 _ rfl
      obtain ⟨v1, y1, c1, -, t1⟩ := hat 1 _ rfl
      obtain ⟨v2, y2, c2, -, t2⟩ := hat 2 _ rfl
      obtain ⟨s0, e0, -⟩ := ck_trod (k := .str) Try.underlying9 t0
      obtain ⟨s1, e1, -⟩ := ck_trod (k := .str) Try.underlying9 t1
      obtain ⟨b, e2⟩ := ck_trod (k := .truth) Try.underlying4 t2
      subst e0 e1 e2
      obtain ⟨l0, rfl⟩ := bytes_of s0
      obtain ⟨l1, rfl⟩ := bytes_of s1
      exact ⟨⟨l0, l1, b⟩, c0, c1, c2⟩)
    refine ⟨l, some a, cap', by rw [hll], by omega, ?_⟩
    by_cases h0 : l = []
    · exact Or.inl h0
    right
    have hpos : 0 < l.length := List.length_pos_iff.2 h0
    obtain ⟨c0, -⟩ := hq 0 l[0] (List.getElem?_eq_getElem hpos)
    obtain ⟨b, o, spot⟩ := a
    obtain rfl : spot = none := by simpa [Addr.add] using World.cell?_spot c0
    have ha : ∀ i, (⟨b, o, none⟩ : Addr).add i = ⟨b, o + i, none⟩ := fun i => Go.WideShapes.add_plain b o i
    refine ⟨b, o, rfl, ?_, fun k x hx => ?_⟩
    · rw [ha] at c0; exact cell_lt c0
    · obtain ⟨q0, q1, q2⟩ := hq k x hx
      rw [ha, Nat.add_zero] at q0
      rw [ha] at q1 q2
      exact ⟨q0, by rw [Nat.add_assoc]; exact q1, by rw [Nat.add_assoc]; exact q2⟩
set_option maxRecDepth 100000 in
theorem open_entry (hv : Value.okWide Try.prog w r b0 44 v) (h : DataW.Trod enc Try.prog w base spare held 44 v d p) : ∃ e, v = .agg (entCells e) := by
  obtain ⟨cs, rfl, hsz, -⟩ : ∃ cs, v = .agg cs ∧ cs.size = Try.prog.cellsOf 44 ∧ True := by
    have := hv
    unfold Value.okWide at this
    rw [Try.underlying44] at this
    obtain ⟨cs, h1, h2, -⟩ := this
    exact ⟨cs, h1, h2, trivial⟩
  obtain ⟨fuel, hf⟩ := h
  obtain ⟨xs, n, -, -, -, hlen, hfl⟩ := DataW.trod_struct Try.underlying44 hf
  have hc : (Value.agg cs).cells.toList = cs.toList := rfl
  rw [hc] at hfl
  have h3 : cs.toList.length = 3 := by rw [Array.length_toList, hsz]; kernel_rfl
  obtain ⟨a0, a1, a2, hl⟩ := len3 h3
  obtain rfl : cs = #[a0, a1, a2] := by rw [← Array.toList_inj]; exact hl
  obtain ⟨x0, t0⟩ := fld hlen hfl 0 9 0 1 (by kernel_rfl) (by kernel_rfl)
  obtain ⟨x1, t1⟩ := fld hlen hfl 1 9 1 1 (by kernel_rfl) (by kernel_rfl)
  obtain ⟨x2, t2⟩ := fld hlen hfl 2 4 2 1 (by kernel_rfl) (by kernel_rfl)
  simp only [List.drop_succ_cons, List.drop_zero, List.take_succ_cons, List.take_zero] at t0 t1 t2
  obtain ⟨s0, e0, -, -⟩ := DataW.trod_string Try.underlying9 t0
  obtain ⟨s1, e1, -, -⟩ := DataW.trod_string Try.underlying9 t1
  obtain ⟨b, e2, -⟩ := DataW.trod_bool Try.underlying4 t2
  simp only [List.cons.injEq, and_true] at e0 e1 e2
  subst e0 e1 e2
  obtain ⟨l0, rfl⟩ := bytes_of s0
  obtain ⟨l1, rfl⟩ := bytes_of s1
  exact ⟨⟨l0, l1, b⟩, rfl⟩
set_option maxRecDepth 100000 in
theorem open_node (hv : Value.okWide Try.prog w r b0 52 v) (h : DataW.Trod enc Try.prog w base spare held 52 v d p) : ∃ n, NodAt w v n := by
  obtain ⟨cs, rfl, hsz, -⟩ : ∃ cs, v = .agg cs ∧ cs.size = Try.prog.cellsOf 52 ∧ True := by
    have := hv
    unfold Value.okWide at this
    rw [Try.underlying52] at this
    obtain ⟨cs, h1, h2, -⟩ := this
    exact ⟨cs, h1, h2, trivial⟩
  obtain ⟨fuel, hf⟩ := h
  obtain ⟨xs, n, -, -, -, hlen, hfl⟩ := DataW.trod_struct Try.underlying52 hf
  have hc : (Value.agg cs).cells.toList = cs.toList := rfl
  rw [hc] at hfl
  have h7 : cs.toList.length = 7 := by rw [Array.length_toList, hsz]; kernel_rfl
  obtain ⟨a0, a1, a2, a3, a4, a5, a6, hl⟩ := len7 h7
  obtain rfl : cs = #[a0, a1, a2, a3, a4, a5, a6] := by rw [← Array.toList_inj]; exact hl
  obtain ⟨x0, t0⟩ := fld hlen hfl 0 3 0 1 (by kernel_rfl) (by kernel_rfl)
  obtain ⟨x1, t1⟩ := fld hlen hfl 1 3 1 1 (by kernel_rfl) (by kernel_rfl)
  obtain ⟨x2, t2⟩ := fld hlen hfl 2 3 2 1 (by kernel_rfl) (by kernel_rfl)
  obtain ⟨x3, t3⟩ := fld hlen hfl 3 4 3 1 (by kernel_rfl) (by kernel_rfl)
  obtain ⟨x4, t4⟩ := fld hlen hfl 4 9 4 1 (by kernel_rfl) (by kernel_rfl)
  obtain ⟨x5, t5⟩ := fld hlen hfl 5 3 5 1 (by kernel_rfl) (by kernel_rfl)
  obtain ⟨x6, t6⟩ := fld hlen hfl 6 27 6 1 (by kernel_rfl) (by kernel_rfl)
  simp only [List.drop_succ_cons, List.drop_zero, List.take_succ_cons, List.take_zero] at t0 t1 t2 t3 t4 t5 t6
  obtain ⟨n0, e0, -, -⟩ := DataW.trod_int Try.underlying3 t0
  obtain ⟨n1, e1, -, -⟩ := DataW.trod_int Try.underlying3 t1
  obtain ⟨n2, e2, -, -⟩ := DataW.trod_int Try.underlying3 t2
  obtain ⟨b3, e3, -⟩ := DataW.trod_bool Try.underlying4 t3
  obtain ⟨s4, e4, -, -⟩ := DataW.trod_string Try.underlying9 t4
  obtain ⟨n5, e5, -, -⟩ := DataW.trod_int Try.underlying3 t5
  simp only [List.cons.injEq, and_true] at e0 e1 e2 e3 e4 e5
  subst e0 e1 e2 e3 e4 e5
  obtain ⟨l4, rfl⟩ := bytes_of s4
  obtain ⟨ls, hls⟩ := open_row3 t6
  exact ⟨⟨n0, n1, n2, b3, l4, n5, ls⟩, a6, rfl, hls⟩
end Go.Proofs.Ytfahgejiclgbfaa.Law
end

-- joined
section
namespace Go.Proofs.Ytfahgejiclgbfaa.Nd
open Go.ChangeShapes Go.WideShapes Go.ChangeAt Go.RowKit Go.PlainAid Aid Nt
set_option linter.unusedVariables false
/-- A row of nodes that came in. -/
def NodRow (w : World) (A : Option Addr) (m : Nat) (L : List Nod) : Prop :=
  L.length = m ∧ ∀ (k : Nat) (n : Nod), L[k]? = some n → n.level ≤ 9223372036854775807 ∧ ∃ b o p, A = some ⟨b, o, none⟩ ∧ b < w.heap.size ∧ (∀ j v, (nodCells n p)[j]? = some v → w.cell? ⟨b, o + k * 7 + j, none⟩ = some v) ∧ Row3 w p n.list
theorem NodRow.at {w : World} {A : Option Addr} {m : Nat} {L : List Nod} (h : NodRow w A m L) (k : Nat) (hk : k < m) (w' : World) (hb : Below w.heap.size w w') :
    ∃ n b o A1 m1, L[k]? = some n ∧ n.level ≤ 9223372036854775807 ∧ A = some ⟨b, o, none⟩ ∧
      (w'.cell? ⟨b, o + k * 7, none⟩ = some (.int .i64 n.tree) ∧ w'.cell? ⟨b, o + k * 7 + 1, none⟩ = some (.int .i64 n.level) ∧ w'.cell? ⟨b, o + k * 7 + 2, none⟩ = some (.int .i64 n.stamp) ∧ w'.cell? ⟨b, o + k * 7 + 3, none⟩ = some (.bool n.has) ∧ w'.cell? ⟨b, o + k * 7 + 4, none⟩ = some (.string (ofL n.high)) ∧
      w'.cell? ⟨b, o + k * 7 + 5, none⟩ = some (.int .i64 n.right) ∧ w'.cell? ⟨b, o + k * 7 + 6, none⟩ = some (.slice A1 n.list.length m1)) ∧
      Row3 w (.slice A1 n.list.length m1) n.list := by
  obtain ⟨hl, h⟩ := h
  have hr : L[k]? = some (L[k]'(by omega)) := List.getElem?_eq_getElem _
  obtain ⟨hv, b, o, p, hA, hlt, hc, h1⟩ := h k _ hr
  obtain ⟨A1, m1, rfl, h2⟩ := id h1
  have hc' : ∀ j v, (nodCells (L[k]'(by omega)) (.slice A1 (L[k]'(by omega)).list.length m1))[j]? = some v → w'.cell? ⟨b, o + k * 7 + j, none⟩ = some v := fun j v hv => by rw [(bcell hb).1 _ _ hlt]; exact hc j v hv
  exact ⟨_, b, o, A1, m1, hr, hv, hA, ⟨hc' 0 _ rfl, hc' 1 _ rfl, hc' 2 _ rfl, hc' 3 _ rfl, hc' 4 _ rfl, hc' 5 _ rfl, hc' 6 _ rfl⟩, h1⟩
end Go.Proofs.Ytfahgejiclgbfaa.Nd
namespace Go.Proofs.Ytfahgejiclgbfaa.Law
open Go.ChangeShapes Go.WideShapes Go.ChangeAt Go.RowKit Go.Deep Aid Nt Nd
variable {H : Type} {enc : TypeId × Value → H} {w : World} {r : Reach} {b0 base : Nat} {spare : Nat → Bool} {held : Bool} {v : Value} {d : DataW H} {p : List MemPlace}
set_option maxRecDepth 100000 in
theorem open_nod_cells {cs : List Value} {fuel : Nat} {x : DataW H × List MemPlace} (h7 : cs.length = 7) (hf : DataW.trod enc Try.prog w base spare held fuel 52 cs = some x) :
    ∃ (n : Nod) (a6 : Value), n.level ≤ 9223372036854775807 ∧ cs = (nodCells n a6).toList ∧ Row3 w a6 n.list := by
  obtain ⟨xs, n, -, -, -, hlen, hfl⟩ := DataW.trod_struct Try.underlying52 hf
  obtain ⟨a0, a1, a2, a3, a4, a5, a6, hl⟩ := len7 h7
  subst hl
  obtain ⟨x0, t0⟩ := fld hlen hfl 0 3 0 1 (by kernel_rfl) (by kernel_rfl)
  obtain ⟨x1, t1⟩ := fld hlen hfl 1 3 1 1 (by kernel_rfl) (by kernel_rfl)
  obtain ⟨x2, t2⟩ := fld hlen hfl 2 3 2 1 (by kernel_rfl) (by kernel_rfl)
  obtain ⟨x3, t3⟩ := fld hlen hfl 3 4 3 1 (by kernel_rfl) (by kernel_rfl)
  obtain ⟨x4, t4⟩ := fld hlen hfl 4 9 4 1 (by kernel_rfl) (by kernel_rfl)
  obtain ⟨x5, t5⟩ := fld hlen hfl 5 3 5 1 (by kernel_rfl) (by kernel_rfl)
  obtain ⟨x6, t6⟩ := fld hlen hfl 6 27 6 1 (by kernel_rfl) (by kernel_rfl)
  simp only [List.drop_succ_cons, List.drop_zero, List.take_succ_cons, List.take_zero] at t0 t1 t2 t3 t4 t5 t6
  obtain ⟨n0, e0, -, -⟩ := DataW.trod_int Try.underlying3 t0
  obtain ⟨n1, e1, -, wf1⟩ := DataW.trod_int Try.underlying3 t1
  obtain ⟨n2, e2, -, -⟩ := DataW.trod_int Try.underlying3 t2
  obtain ⟨b3, e3, -⟩ := DataW.trod_bool Try.underlying4 t3
  obtain ⟨s4, e4, -, -⟩ := DataW.trod_string Try.underlying9 t4
  obtain ⟨n5, e5, -, -⟩ := DataW.trod_int Try.underlying3 t5
  simp only [List.cons.injEq, and_true] at e0 e1 e2 e3 e4 e5
  subst e0 e1 e2 e3 e4 e5
  obtain ⟨l4, rfl⟩ := bytes_of s4
  obtain ⟨ls, hls⟩ := open_row3 t6
  refine ⟨⟨n0, n1, n2, b3, l4, n5, ls⟩, a6, ?_, rfl, hls⟩
  show n1 ≤ _
  simp [Lit.wf, IntKind.min, IntKind.max] at wf1
  have h2 := of_decide_eq_true wf1.2
  simp [IntKind.signed, IntKind.bits] at h2
  omega
set_option maxRecDepth 100000 in
theorem open_nod_row (hv : Value.okWide Try.prog w r b0 35 v) (h : DataW.Trod enc Try.prog w base spare held 35 v d p) :
    ∃ (A : Option Addr) (m c : Nat) (L : List Nod), v = .slice A m c ∧ m ≤ maxLen ∧ NodRow w A m L := by
  have ht : Try.prog.underlying 35 = some (.slice 52) := Try.underlying35
  have hC : Try.prog.cellsOf 52 = 7 := by kernel_rfl
  obtain ⟨a0, len, cap, rfl⟩ := okWide_slice ht hv
  obtain ⟨fuel, hf⟩ := h
  rcases open_slice ht hf with ⟨hcs, -⟩ | ⟨a, len', cap', m, n, D, Pl, hcs, -, hl, hm, hmm, -, hi⟩
  · have e : (Value.slice a0 len cap) = .slice none 0 0 := by simpa [Value.cells] using hcs
    cases e
    exact ⟨none, 0, 0, [], rfl, by decide, rfl, fun k r hk => by cases hk⟩
  · have e : (Value.slice a0 len cap) = .slice (some a) len' cap' := by simpa [Value.cells] using hcs
    cases e
    rw [hC] at hi
    have hlm : len ≤ m := by rw [hmm]; split <;> omega
    obtain ⟨L, hll, hq⟩ := list_of (fun i (x : Nod) => ∃ p, x.level ≤ 9223372036854775807 ∧ (∀ j v, (nodCells x p)[j]? = some v → w.cell? (a.add (i * 7 + j)) = some v) ∧ Row3 w p x.list) len (fun i hi' => by
      obtain ⟨cs', hc, ht'⟩ := hi i (by omega)
      obtain ⟨_, hcl, hat⟩ := World.cells?_some hc
      obtain ⟨x, p, h0, rfl, h1⟩ := open_nod_cells hcl ht'
      refine ⟨x, p, h0, fun j v hj => ?_, h1⟩
      have hj7 : j < 7 := by
        have := (Array.getElem?_eq_some_iff.1 hj).1
        exact this
      have h4 := hat j hj7
      rw [← Go.Deep.add_add, h4]
      rw [Array.getElem?_toList]
      exact hj)
    refine ⟨some a, len, cap, L, rfl, by omega, hll, fun k r hk => ?_⟩
    obtain ⟨p, h0, hc, h1⟩ := hq k r hk
    have hk0 : k < L.length := (List.getElem?_eq_some_iff.1 hk).1
    obtain ⟨_, _, hc0, -⟩ := hq 0 _ (List.getElem?_eq_getElem (show 0 < L.length by omega))
    have c0 := hc0 0 _ rfl
    obtain ⟨b, o, spot⟩ := a
    obtain rfl : spot = none := by simpa [Addr.add] using World.cell?_spot c0
    have ha : ∀ i, (⟨b, o, none⟩ : Addr).add i = ⟨b, o + i, none⟩ := fun i => Go.WideShapes.add_plain b o i
    refine ⟨h0, b, o, p, rfl, by rw [ha] at c0; exact cell_lt c0, fun j v hj => ?_, h1⟩
    have := hc j v hj
    rw [ha] at this
    rw [Nat.add_assoc]
    exact this
end Go.Proofs.Ytfahgejiclgbfaa.Law
end

-- joined
section
namespace Go.Proofs.Ytfahgejiclgbfaa.Bk
open Go.ChangeShapes Go.WideShapes Go.ChangeAt Go.RowKit Go.PlainAid Aid Nt Nd Tr
set_option linter.unusedVariables false
set_option linter.unusedSimpArgs false
/-- The changes by which the first nodes come onto a shelf. -/
def chs (L : List Nod) (k : Nat) : List (Int × Nod) := (List.range k).map fun (i : Nat) => ((i : Int), L.getD i Nod.none)
theorem chs_succ (L : List Nod) (k : Nat) : chs L (k + 1) = chs L k ++ [((k : Int), L.getD k Nod.none)] := by
  unfold chs
  rw [List.range_succ, List.map_append]; rfl
theorem chs_at (L : List Nod) : ∀ k, k ≤ 256 → ∀ i, puts T0 (chs L k) i = if i < k then L.getD i Nod.none else Nod.none := by
  intro k
  induction k with
  | zero => intro _ i; rw [if_neg (by omega)]; rfl
  | succ k ih =>
    intro hk i
    rw [chs_succ, puts_snoc]
    unfold putS
    rw [if_pos ⟨by omega, by omega⟩]
    unfold up
    rw [ih (by omega), show ((k : Int)).toNat = k from rfl]
    by_cases e : i = k
    · subst e; rw [if_pos rfl, if_pos (by omega)]
    · rw [if_neg e]
      by_cases h : i < k
      · rw [if_pos h, if_pos (by omega)]
      · rw [if_neg h, if_neg (by omega)]
theorem chs_P {q : Nod → Prop} (h0 : q Nod.none) (L : List Nod) (k : Nat) (hk : k ≤ 256) (h : ∀ i, i < k → q (L.getD i Nod.none)) : ∀ p, p < 256 → q (puts T0 (chs L k) p) := by
  intro p hp
  rw [chs_at L k hk]
  split
  · rename_i x; exact h p x
  · exact h0
theorem chs_node (L : List Nod) (k : Nat) (hk : k ≤ 256) (i : Nat) (hi : i < k) : nodeR (puts T0 (chs L k)) (i : Int) = (0, L.getD i Nod.none) := by
  unfold nodeR at_
  rw [if_pos ⟨by omega, by omega⟩]
  dsimp only
  rw [chs_at L k hk, show ((i : Int)).toNat = i from rfl, if_pos hi]
end Go.Proofs.Ytfahgejiclgbfaa.Bk
end

-- joined
section
namespace Go.Proofs.Ytfahgejiclgbfaa.Wk
open Go.ChangeShapes Go.WideShapes Go.ChangeAt Go.RowKit Go.PlainAid Aid Nt Nd Tr Bk
open Ky (keyZ)
set_option linter.unusedVariables false
set_option linter.unusedSimpArgs false
set_option linter.unusedSectionVars false
theorem key11_any (n : Int) (w : World) (hn : -9223372036854775808 ≤ n) (hn2 : n ≤ 9223372036854775807) :
    Calls Try.prog 33 #[.int .i64 n] w fun e w' => e = .returned (.string (ofL (keyZ n))) ∧ Below w.heap.size w w' := by
  have h := Ky.refCode_num n ⟨#[]⟩ w (by decide) hn hn2
  go_enter Try.func33, Try.ntmps33
  go_wp2_with fail
  refine h.mono ?_
  rintro e w2 ⟨rfl, hX⟩
  have B := Lib.hid hX
  clear hX h
  go_wp2_with fail
  go_returns
  exact ⟨by unfold keyZ; rw [ofL_back]; rfl, B.out⟩
end Go.Proofs.Ytfahgejiclgbfaa.Wk
end
