/- Openers of a law's arguments. -/
import Derived.Test.YtalaipmhihokjaaArgs
import Derived.Test.YtalaipmhihokjaaLaw
import Derived.ChangeArms
namespace Go.Proofs.Ytalaipmhihokjaa.Law
open Go.ChangeShapes Go.WideShapes Go.ChangeAt Go.RowKit Go.Deep Aid
variable {H : Type} {enc : TypeId × Value → H} {P : Program} {w : World} {r : Reach} {b0 base : Nat} {spare : Nat → Bool} {held : Bool} {v : Value} {d : DataW H} {p : List MemPlace}
/-- A slice of structs of numbers that comes in. -/
theorem open_int_rows {t e : TypeId} {fs : Array Field} (F : Nat) (ht : P.underlying t = some (.slice e)) (he : P.underlying e = some (.struct fs)) (hone : oneCellFields P fs = true) (hC : P.cellsOf e = fs.size) (hF : fs.size = F) (h0F : 0 < F)
    (hint : ∀ (j : Nat) (f : Field), fs[j]? = some f → P.underlying f.type = some (.int .i64))
    (hv : Value.okWide P w r b0 t v) (h : DataW.Trod enc P w base spare held t v d p) :
    ∃ (A : Option Addr) (m c : Nat) (z : Nat → Nat → Int), v = .slice A m c ∧ m ≤ maxLen ∧ m ≤ c ∧ c ≤ maxLen ∧ IntRows w A m F z := by
  subst hF
  obtain ⟨a0, len, cap, rfl⟩ := okWide_slice ht hv
  obtain ⟨fuel, hf⟩ := h
  rcases open_slice_fields ht he hone hC hf with ⟨hcs, -⟩ | ⟨a, len', cap', m, D, Pl, hcs, -, hl, hm, hmm, -, hi⟩
  · have e : (Value.slice a0 len cap) = .slice none 0 0 := by simpa [Value.cells] using hcs
    cases e
    exact ⟨none, 0, 0, fun _ _ => 0, rfl, by decide, Nat.le_refl _, by decide, Or.inl rfl⟩
  · have e : (Value.slice a0 len cap) = .slice (some a) len' cap' := by simpa [Value.cells] using hcs
    cases e
    have hlm : len ≤ m := by rw [hmm]; split <;> omega
    have key : ∀ i, i < len → ∀ j, j < fs.size → ∃ n, w.cell? (a.add (i * fs.size + j)) = some (.int .i64 n) ∧ (Lit.int .i64 n).wf = true := by
      intro i hi' j hj
      obtain ⟨ys, k, -, -, -, hat⟩ := hi i (by omega)
      obtain ⟨v, y, hc, -, ht'⟩ := hat j fs[j] (Array.getElem?_eq_getElem hj)
      obtain ⟨n, hn, -, hw⟩ := DataW.trod_int (hint j fs[j] (Array.getElem?_eq_getElem hj)) ht'
      obtain rfl : v = .int .i64 n := by simpa using hn
      exact ⟨n, hc, hw⟩
    let z : Nat → Nat → Int := fun i j => match w.cell? (a.add (i * fs.size + j)) with | some (.int _ n) => n | _ => 0
    refine ⟨some a, len, cap, z, rfl, by omega, hl, hm, ?_⟩
    by_cases h0 : len = 0
    · exact Or.inl h0
    right
    obtain ⟨n0, c0, -⟩ := key 0 (by omega) 0 (by omega)
    obtain ⟨b, o, spot⟩ := a
    obtain rfl : spot = none := by simpa [Addr.add] using World.cell?_spot c0
    have ha : ∀ i, (⟨b, o, none⟩ : Addr).add i = ⟨b, o + i, none⟩ := fun i => Go.WideShapes.add_plain b o i
    refine ⟨b, o, rfl, ?_, fun i hi j hj => ?_, fun i hi j hj => ?_⟩
    · rw [ha] at c0; exact cell_lt c0
    · obtain ⟨n, hc, hw⟩ := key i hi j hj
      have : z i j = n := by show (match w.cell? _ with | some (.int _ n) => n | _ => 0) = n; rw [hc]
      rw [this, Nat.add_assoc, ← ha]; exact hc
    · obtain ⟨n, hc, hw⟩ := key i hi j hj
      have : z i j = n := by show (match w.cell? _ with | some (.int _ n) => n | _ => 0) = n; rw [hc]
      rw [this]; exact bounds_i64 hw
end Go.Proofs.Ytalaipmhihokjaa.Law
