/- Openers of a law's arguments: slices of structs, of strings, of numbers. -/
import Derived.Test.YtaacinhmgmmcaaaDoorArgs
import Derived.Test.YtaacinhmgmmcaaaDoorLaw
import Derived.ChangeArms
import Derived.Deep.Strs
namespace Go.Proofs.YtaacinhmgmmcaaaDoor.Law
open Go.ChangeShapes Go.WideShapes Go.ChangeAt Go.RowKit Go.Deep Aid
variable {H : Type} {enc : TypeId × Value → H} {P : Program} {w : World} {r : Reach} {b0 base : Nat} {spare : Nat → Bool} {held : Bool} {v : Value} {d : DataW H} {p : List MemPlace}
def ckType (P : Program) (k : CK) (t : TypeId) : Prop := P.underlying t = some (match k with | .num => .int .i64 | .str => .string | .truth => .bool)
theorem ck_trod {k : CK} {t : TypeId} {fuel : Nat} {x : DataW H × List MemPlace} (ht : ckType P k t) (h : DataW.trod enc P w base spare held fuel t [v] = some x) : k.ok v := by
  cases k with
  | num => obtain ⟨n, hn, -, hw⟩ := DataW.trod_int ht h
           exact ⟨n, by simpa using hn, bounds_i64 hw⟩
  | str => obtain ⟨s, hn, -, hw⟩ := DataW.trod_string ht h
           exact ⟨s, by simpa using hn, hw⟩
  | truth => obtain ⟨b, hn, -⟩ := DataW.trod_bool ht h
             exact ⟨b, by simpa using hn⟩
/-- A slice of structs that comes in. -/
theorem open_cell_rows {t e : TypeId} {fs : Array Field} (ks : List CK) (ht : P.underlying t = some (.slice e)) (he : P.underlying e = some (.struct fs)) (hone : oneCellFields P fs = true) (hC : P.cellsOf e = fs.size) (hF : fs.size = ks.length) (h0F : 0 < ks.length)
    (hint : ∀ (j : Nat) (f : Field) (k : CK), fs[j]? = some f → ks[j]? = some k → ckType P k f.type)
    (hv : Value.okWide P w r b0 t v) (h : DataW.Trod enc P w base spare held t v d p) :
    ∃ (A : Option Addr) (m c : Nat) (z : Nat → Nat → Value), v = .slice A m c ∧ m ≤ maxLen ∧ m ≤ c ∧ c ≤ maxLen ∧ CellRows w A m ks z := by
  obtain ⟨a0, len, cap, rfl⟩ := okWide_slice ht hv
  obtain ⟨fuel, hf⟩ := h
  rcases open_slice_fields ht he hone hC hf with ⟨hcs, -⟩ | ⟨a, len', cap', m, D, Pl, hcs, -, hl, hm, hmm, -, hi⟩
  · have e : (Value.slice a0 len cap) = .slice none 0 0 := by simpa [Value.cells] using hcs
    cases e
    exact ⟨none, 0, 0, fun _ _ => undef, rfl, by decide, Nat.le_refl _, by decide, Or.inl rfl⟩
  · have e : (Value.slice a0 len cap) = .slice (some a) len' cap' := by simpa [Value.cells] using hcs
    cases e
    have hlm : len ≤ m := by rw [hmm]; split <;> omega
    have key : ∀ i, i < len → ∀ (j : Nat) (k : CK), ks[j]? = some k → ∃ n, w.cell? (a.add (i * ks.length + j)) = some n ∧ k.ok n := by
      intro i hi' j k hk
      have hj : j < fs.size := by have := (List.getElem?_eq_some_iff.1 hk).1; omega
      obtain ⟨ys, q, -, -, -, hat⟩ := hi i (by omega)
      obtain ⟨v, y, hc, -, ht'⟩ := hat j fs[j] (Array.getElem?_eq_getElem hj)
      rw [hF] at hc
      exact ⟨v, hc, ck_trod (hint j fs[j] k (Array.getElem?_eq_getElem hj) hk) ht'⟩
    let z : Nat → Nat → Value := fun i j => (w.cell? (a.add (i * ks.length + j))).getD undef
    refine ⟨some a, len, cap, z, rfl, by omega, hl, hm, ?_⟩
    by_cases h0 : len = 0
    · exact Or.inl h0
    right
    obtain ⟨n0, c0, -⟩ := key 0 (by omega) 0 ks[0] (List.getElem?_eq_getElem h0F)
    obtain ⟨b, o, spot⟩ := a
    obtain rfl : spot = none := by simpa [Addr.add] using World.cell?_spot c0
    have ha : ∀ i, (⟨b, o, none⟩ : Addr).add i = ⟨b, o + i, none⟩ := fun i => Go.WideShapes.add_plain b o i
    refine ⟨b, o, rfl, ?_, fun i hi j hj => ?_, fun i hi j k hk => ?_⟩
    · rw [ha] at c0; exact cell_lt c0
    · obtain ⟨n, hc, hw⟩ := key i hi j ks[j] (List.getElem?_eq_getElem hj)
      have : z i j = n := by show (w.cell? _).getD undef = n; rw [hc]; rfl
      rw [this, Nat.add_assoc, ← ha]; exact hc
    · obtain ⟨n, hc, hw⟩ := key i hi j k hk
      have : z i j = n := by show (w.cell? _).getD undef = n; rw [hc]; rfl
      rw [this]; exact hw
/-- A slice of strings that comes in. -/
theorem open_str_row {t e : TypeId} (ht : P.underlying t = some (.slice e)) (he : P.underlying e = some .string) (hC : P.cellsOf e = 1)
    (hv : Value.okWide P w r b0 t v) (h : DataW.Trod enc P w base spare held t v d p) :
    ∃ (A : Option Addr) (m c : Nat) (z : Nat → ByteArray), v = .slice A m c ∧ m ≤ maxLen ∧ m ≤ c ∧ c ≤ maxLen ∧ StrRow w A m z := by
  obtain ⟨a0, len, cap, rfl⟩ := okWide_slice ht hv
  obtain ⟨fuel, hf⟩ := h
  rcases open_strs ht he hC hf with ⟨hcs, -⟩ | ⟨a, len', cap', m, Sx, hcs, -, hl, hm, hmm, -, hi⟩
  · have e : (Value.slice a0 len cap) = .slice none 0 0 := by simpa [Value.cells] using hcs
    cases e
    exact ⟨none, 0, 0, fun _ => ⟨#[]⟩, rfl, by decide, Nat.le_refl _, by decide, Or.inl rfl⟩
  · have e : (Value.slice a0 len cap) = .slice (some a) len' cap' := by simpa [Value.cells] using hcs
    cases e
    have hlm : len ≤ m := by rw [hmm]; split <;> omega
    refine ⟨some a, len, cap, Sx, rfl, by omega, hl, hm, ?_⟩
    by_cases h0 : len = 0
    · exact Or.inl h0
    right
    have c0 := (hi 0 (by omega)).1
    obtain ⟨b, o, spot⟩ := a
    obtain rfl : spot = none := by simpa [Addr.add] using World.cell?_spot c0
    have ha : ∀ i, (⟨b, o, none⟩ : Addr).add i = ⟨b, o + i, none⟩ := fun i => Go.WideShapes.add_plain b o i
    refine ⟨b, o, rfl, ?_, fun i hi' => ?_⟩
    · rw [ha] at c0; exact cell_lt c0
    · rw [← ha]; exact hi i (by omega)
/-- A slice of numbers that comes in. -/
theorem open_num_row {t e : TypeId} (ht : P.underlying t = some (.slice e)) (he : P.underlying e = some (.int .i64)) (hC : P.cellsOf e = 1)
    (hv : Value.okWide P w r b0 t v) (h : DataW.Trod enc P w base spare held t v d p) :
    ∃ (A : Option Addr) (m c : Nat) (z : Nat → Int), v = .slice A m c ∧ m ≤ maxLen ∧ m ≤ c ∧ c ≤ maxLen ∧ NumRow w A m z := by
  obtain ⟨A, m, c, z, rfl, hm, h1, h2, h3⟩ := open_nums ht he hC hv h
  exact ⟨A, m, c, z, rfl, hm, h1, h2, h3.imp_right fun ⟨b, o, e, l, g, k⟩ => ⟨b, o, e, l, fun i hi => ⟨g i hi, bounds_i64 (k i hi)⟩⟩⟩
end Go.Proofs.YtaacinhmgmmcaaaDoor.Law
