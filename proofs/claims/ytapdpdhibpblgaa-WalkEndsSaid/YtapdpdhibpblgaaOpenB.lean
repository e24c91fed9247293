/- Texts of ours, joined. -/
import Derived.Test.YtapdpdhibpblgaaMnB
import Derived.Test.YtapdpdhibpblgaaBkAw
import Derived.ChangeArms
import Derived.Deep.Strs
import Derived.Test.YtapdpdhibpblgaaNtA

-- joined
section
namespace Go.Proofs.Ytapdpdhibpblgaa.Law
open Go.ChangeShapes Go.WideShapes Go.ChangeAt Go.RowKit Go.Deep Aid
variable {H : Type} {enc : TypeId × Value → H} {P : Program} {w : World} {r : Reach} {b0 base : Nat} {spare : Nat → Bool} {held : Bool} {v : Value} {d : DataW H} {p : List MemPlace}
def ckType (P : Program) (k : CK) (t : TypeId) : Prop := P.underlying t = some (match k with | .num => .int .i64 | .str => .string | .truth => .bool)
theorem ck_trod {k : CK} {t : TypeId} {fuel : Nat} {x : DataW H × List MemPlace} (ht : ckType P k t) (h : DataW.trod enc P w base spare held fuel t [v] = some x) : k.ok v := by
  cases k with
  | num => obtain ⟨n, hn, -, hw⟩ := DataW.trod_int ht h
           exact ⟨n, by simpa using hn, bounds_i64 hw⟩
  | str => obtain ⟨s, hn, -, hw⟩ := DataW.trod_string ht h
           exact ⟨s, by simpa using hn, hw⟩
  | truth => obtain ⟨b, hn, -⟩ := DataW.trod_bool ht h
             exact ⟨b, by simpa using hn⟩
/-- A slice of structs that comes in. -/
theorem open_cell_rows {t e : TypeId} {fs : Array Field} (ks : List CK) (ht : P.underlying t = some (.slice e)) (he : P.underlying e = some (.struct fs)) (hone : oneCellFields P fs = true) (hC : P.cellsOf e = fs.size) (hF : fs.size = ks.length) (h0F : 0 < ks.length)
    (hint : ∀ (j : Nat) (f : Field) (k : CK), fs[j]? = some f → ks[j]? = some k → ckType P k f.type)
    (hv : Value.okWide P w r b0 t v) (h : DataW.Trod enc P w base spare held t v d p) :
    ∃ (A : Option Addr) (m c : Nat) (z : Nat → Nat → Value), v = .slice A m c ∧ m ≤ maxLen ∧ m ≤ c ∧ c ≤ maxLen ∧ CellRows w A m ks z := by
  obtain ⟨a0, len, cap, rfl⟩ := okWide_slice ht hv
  obtain ⟨fuel, hf⟩ := h
  rcases open_slice_fields ht he hone hC hf with ⟨hcs, -⟩ | ⟨a, len', cap', m, D, Pl, hcs, -, hl, hm, hmm, -, hi⟩
  · have e : (Value.slice a0 len cap) = .slice none 0 0 := by simpa [Value.cells] using hcs
    cases e
    exact ⟨none, 0, 0, fun _ _ => undef, rfl, by decide, Nat.le_refl _, by decide, Or.inl rfl⟩
  · have e : (Value.slice a0 len cap) = .slice (some a) len' cap' := by simpa [Value.cells] using hcs
    cases e
    have hlm : len ≤ m := by rw [hmm]; split <;> omega
    have key : ∀ i, i < len → ∀ (j : Nat) (k : CK), ks[j]? = some k → ∃ n, w.cell? (a.add (i * ks.length + j)) = some n ∧ k.ok n := by
      intro i hi' j k hk
      have hj : j < fs.size := by have := (List.getElem?_eq_some_iff.1 hk).1; omega
      obtain ⟨ys, q, -, -, -, hat⟩ := hi i (by omega)
      obtain ⟨v, y, hc, -, ht'⟩ := hat j fs[j] (Array.getElem?_eq_getElem hj)
      rw [hF] at hc
      exact ⟨v, hc, ck_trod (hint j fs[j] k (Array.getElem?_eq_getElem hj) hk) ht'⟩
    let z : Nat → Nat → Value := fun i j => (w.cell? (a.add (i * ks.length + j))).getD undef
    refine ⟨some a, len, cap, z, rfl, by omega, hl, hm, ?_⟩
    by_cases h0 : len = 0
    · exact Or.inl h0
    right
    obtain ⟨n0, c0, -⟩ := key 0 (by omega) 0 ks[0] (List.getElem?_eq_getElem h0F)
    obtain ⟨b, o, spot⟩ := a
    obtain rfl : spot = none := by simpa [Addr.add] using World.cell?_spot c0
    have ha : ∀ i, (⟨b, o, none⟩ : Addr).add i = ⟨b, o + i, none⟩ := fun i => Go.WideShapes.add_plain b o i
    refine ⟨b, o, rfl, ?_, fun i hi j hj => ?_, fun i hi j k hk => ?_⟩
    · rw [ha] at c0; exact cell_lt c0
    · obtain ⟨n, hc, hw⟩ := key i hi j ks[j] (List.getElem?_eq_getElem hj)
      have : z i j = n := by show (w.cell? _).getD undef = n; rw [hc]; rfl
      rw [this, Nat.add_assoc, ← ha]; exact hc
    · obtain ⟨n, hc, hw⟩ := key i hi j k hk
      have : z i j = n := by show (w.cell? _).getD undef = n; rw [hc]; rfl
      rw [this]; exact hw
/-- A slice of strings that comes in. -/
theorem open_str_row {t e : TypeId} (ht : P.underlying t = some (.slice e)) (he : P.underlying e = some .string) (hC : P.cellsOf e = 1)
    (hv : Value.okWide P w r b0 t v) (h : DataW.Trod enc P w base spare held t v d p) :
    ∃ (A : Option Addr) (m c : Nat) (z : Nat → ByteArray), v = .slice A m c ∧ m ≤ maxLen ∧ m ≤ c ∧ c ≤ maxLen ∧ StrRow w A m z := by
  obtain ⟨a0, len, cap, rfl⟩ := okWide_slice ht hv
  obtain ⟨fuel, hf⟩ := h
  rcases open_strs ht he hC hf with ⟨hcs, -⟩ | ⟨a, len', cap', m, Sx, hcs, -, hl, hm, hmm, -, hi⟩
  · have e : (Value.slice a0 len cap) = .slice none 0 0 := by simpa [Value.cells] using hcs
    cases e
    exact ⟨none, 0, 0, fun _ => ⟨#[]⟩, rfl, by decide, Nat.le_refl _, by decide, Or.inl rfl⟩
  · have e : (Value.slice a0 len cap) = .slice (some a) len' cap' := by simpa [Value.cells] using hcs
    cases e
    have hlm : len ≤ m := by rw [hmm]; split <;> omega
    refine ⟨some a, len, cap, Sx, rfl, by omega, hl, hm, ?_⟩
    by_cases h0 : len = 0
    · exact Or.inl h0
    right
    have c0 := (hi 0 (by omega)).1
    obtain ⟨b, o, spot⟩ := a
    obtain rfl : spot = none := by simpa [Addr.add] using World.cell?_spot c0
    have ha : ∀ i, (⟨b, o, none⟩ : Addr).add i = ⟨b, o + i, none⟩ := fun i => Go.WideShapes.add_plain b o i
    refine ⟨b, o, rfl, ?_, fun i hi' => ?_⟩
    · rw [ha] at c0; exact cell_lt c0
    · rw [← ha]; exact hi i (by omega)
/-- A slice of numbers that comes in. -/
theorem open_num_row {t e : TypeId} (ht : P.underlying t = some (.slice e)) (he : P.underlying e = some (.int .i64)) (hC : P.cellsOf e = 1)
    (hv : Value.okWide P w r b0 t v) (h : DataW.Trod enc P w base spare held t v d p) :
    ∃ (A : Option Addr) (m c : Nat) (z : Nat → Int), v = .slice A m c ∧ m ≤ maxLen ∧ m ≤ c ∧ c ≤ maxLen ∧ NumRow w A m z := by
  obtain ⟨A, m, c, z, rfl, hm, h1, h2, h3⟩ := open_nums ht he hC hv h
  exact ⟨A, m, c, z, rfl, hm, h1, h2, h3.imp_right fun ⟨b, o, e, l, g, k⟩ => ⟨b, o, e, l, fun i hi => ⟨g i hi, bounds_i64 (k i hi)⟩⟩⟩
end Go.Proofs.Ytapdpdhibpblgaa.Law
end

-- joined
section
namespace Go.Proofs.Ytapdpdhibpblgaa.Law
open Go.ChangeShapes Go.WideShapes Go.ChangeAt Go.RowKit Go.Deep Aid Nt
set_option linter.unusedVariables false
variable {H : Type} {enc : TypeId × Value → H} {w : World} {r : Reach} {b0 base : Nat} {spare : Nat → Bool} {held : Bool} {v : Value} {d : DataW H} {p : List MemPlace}
theorem list_of {α : Type} (Q : Nat → α → Prop) (n : Nat) (h : ∀ i, i < n → ∃ x, Q i x) : ∃ l : List α, l.length = n ∧ ∀ (i : Nat) (x : α), l[i]? = some x → Q i x := by
  induction n with
  | zero => exact ⟨[], rfl, fun i x hx => by cases hx⟩
  | succ n ih =>
    obtain ⟨l, hl, hq⟩ := ih (fun i hi => h i (by omega))
    obtain ⟨x, hx⟩ := h n (by omega)
    refine ⟨l ++ [x], by simp [hl], fun i y hy => ?_⟩
    by_cases hi : i < n
    · rw [List.getElem?_append_left (by omega)] at hy; exact hq i y hy
    · rw [List.getElem?_append_right (by omega)] at hy
      have : i - l.length = 0 := by
        have := (List.getElem?_eq_some_iff.1 hy).1; simp at this; omega
      rw [this] at hy
      obtain rfl : i = n := by omega
      simpa using (Option.some.inj hy) ▸ hx
/-- A slice of structs of two cells, as a field. -/
theorem open_row2 {P : Program} {α : Type} (f : α → Value × Value) {t e : TypeId} {fs : Array Field} {fuel : Nat} {v : Value} {x : DataW H × List MemPlace} (ht : P.underlying t = some (.slice e)) (he : P.underlying e = some (.struct fs))
    (hone : oneCellFields P fs = true) (hC : P.cellsOf e = fs.size) (h2 : fs.size = 2) (k1 k2 : CK)
    (hint : ∀ (j : Nat) (f : Field) (k : CK), fs[j]? = some f → [k1, k2][j]? = some k → ckType P k f.type)
    (hf : ∀ a b, k1.ok a → k2.ok b → ∃ x, f x = (a, b))
    (h : DataW.trod enc P w base spare held fuel t [v] = some x) : ∃ l, Row2 f w v l := by
  rcases open_slice_fields ht he hone hC h with ⟨hcs, -⟩ | ⟨a, len', cap', m, D, Pl, hcs, -, hl, hm, hmm, -, hi⟩
  · obtain rfl : v = .slice none 0 0 := by simpa using hcs
    exact ⟨[], Row2.nil f w⟩
  · obtain rfl : v = .slice (some a) len' cap' := by simpa using hcs
    rw [h2] at hi
    have hlm : len' ≤ m := by rw [hmm]; split <;> omega
    obtain ⟨l, hll, hq⟩ := list_of (fun i (x : α) => w.cell? (a.add (i * 2 + 0)) = some (f x).1 ∧ w.cell? (a.add (i * 2 + 1)) = some (f x).2) len' (fun i hi' => by
      obtain ⟨ys, q, -, -, -, hat⟩ := hi i (by omega)
      have hfs0 : fs[0]? = some (fs[0]'(by omega)) := Array.getElem?_eq_getElem _
      have hfs1 : fs[1]? = some (fs[1]'(by omega)) := Array.getElem?_eq_getElem _
      obtain ⟨v0, y0, c0, -, t0⟩ := hat 0 _ hfs0
      obtain ⟨v1, y1, c1, -, t1⟩ := hat 1 _ hfs1
      obtain ⟨x, hx⟩ := hf v0 v1 (ck_trod (hint 0 _ k1 hfs0 rfl) t0) (ck_trod (hint 1 _ k2 hfs1 rfl) t1)
      exact ⟨x, by rw [hx]; exact c0, by rw [hx]; exact c1⟩)
    refine ⟨l, some a, cap', by rw [hll], by omega, ?_⟩
    by_cases h0 : l = []
    · exact Or.inl h0
    right
    have hpos : 0 < l.length := List.length_pos_iff.2 h0
    obtain ⟨c0, -⟩ := hq 0 l[0] (List.getElem?_eq_getElem hpos)
    obtain ⟨b, o, spot⟩ := a
    obtain rfl : spot = none := by simpa [Addr.add] using World.cell?_spot c0
    have ha : ∀ i, (⟨b, o, none⟩ : Addr).add i = ⟨b, o + i, none⟩ := fun i => Go.WideShapes.add_plain b o i
    refine ⟨b, o, rfl, ?_, fun k x hx => ?_⟩
    · rw [ha] at c0; exact cell_lt c0
    · obtain ⟨q0, q1⟩ := hq k x hx
      rw [ha, Nat.add_zero] at q0
      rw [ha] at q1
      exact ⟨q0, by rw [Nat.add_assoc]; exact q1⟩
theorem bytes_of (s : ByteArray) : ∃ l : By, s = ofL l := ⟨s.data.toList, (ofL_back s).symm⟩
theorem len11 {α : Type} {l : List α} (h : l.length = 11) : ∃ a0 a1 a2 a3 a4 a5 a6 a7 a8 a9 a10, l = [a0, a1, a2, a3, a4, a5, a6, a7, a8, a9, a10] := by
  match l, h with
  | [a0, a1, a2, a3, a4, a5, a6, a7, a8, a9, a10], _ => exact ⟨_, _, _, _, _, _, _, _, _, _, _, rfl⟩
theorem fld {P : Program} {fs : Array Field} {cs : List Value} {xs : List (DataW H × List MemPlace)} {n : Nat} (hlen : xs.length = fs.size)
    (hf : ∀ (i : Nat) (f : Field), fs[i]? = some f → DataW.trod enc P w base spare held n f.type ((cs.drop f.offset).take (P.cellsOf f.type)) = xs[i]?) (i : Nat) (t off k : Nat)
    (hi : (fs[i]?).map (fun f => (f.type, f.offset)) = some (t, off)) (hk : P.cellsOf t = k) : ∃ x, DataW.trod enc P w base spare held n t ((cs.drop off).take k) = some x := by
  obtain ⟨f, hf1, hf2⟩ := Option.map_eq_some_iff.1 hi
  simp only [Prod.mk.injEq] at hf2
  obtain ⟨rfl, rfl⟩ := hf2
  have := hf i f hf1
  rw [hk] at this
  have hil : i < xs.length := by have := (Array.getElem?_eq_some_iff.1 hf1).1; omega
  exact ⟨xs[i], by rw [this]; exact List.getElem?_eq_getElem hil⟩
end Go.Proofs.Ytapdpdhibpblgaa.Law
end
