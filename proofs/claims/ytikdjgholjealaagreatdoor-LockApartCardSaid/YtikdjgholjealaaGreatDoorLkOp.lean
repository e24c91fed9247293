/- A row of deeds that came in. -/
import Derived.Test.YtikdjgholjealaaGreatDoorLkAp
import Derived.Test.YtikdjgholjealaaGreatDoorLaw
namespace Go.Proofs.YtikdjgholjealaaGreatDoor.Law
open Go.ChangeShapes Go.WideShapes Go.ChangeAt Go.RowKit Go.Deep Aid Lk
variable {H : Type} {enc : TypeId × Value → H} {w : World} {r : Reach} {b0 base : Nat} {spare : Nat → Bool} {held : Bool} {v : Value} {d : DataW H} {p : List MemPlace}
theorem lk_list {α : Type} (Q : Nat → α → Prop) (n : Nat) (h : ∀ i, i < n → ∃ x, Q i x) : ∃ l : List α, l.length = n ∧ ∀ (i : Nat) (x : α), l[i]? = some x → Q i x := by
  induction n with
  | zero => exact ⟨[], rfl, fun i x hx => by cases hx⟩
  | succ n ih =>
    obtain ⟨l, hl, hq⟩ := ih (fun i hi => h i (by omega))
    obtain ⟨x, hx⟩ := h n (by omega)
    refine ⟨l ++ [x], by simp [hl], fun i y hy => ?_⟩
    by_cases hi : i < n
    · rw [List.getElem?_append_left (by omega)] at hy; exact hq i y hy
    · rw [List.getElem?_append_right (by omega)] at hy
      have : i - l.length = 0 := by
        have := (List.getElem?_eq_some_iff.1 hy).1; simp at this; omega
      rw [this] at hy
      obtain rfl : i = n := by omega
      simpa using (Option.some.inj hy) ▸ hx
theorem lk_fld {P : Program} {fs : Array Field} {cs : List Value} {xs : List (DataW H × List MemPlace)} {n : Nat} (hlen : xs.length = fs.size)
    (hf : ∀ (i : Nat) (f : Field), fs[i]? = some f → DataW.trod enc P w base spare held n f.type ((cs.drop f.offset).take (P.cellsOf f.type)) = xs[i]?) (i : Nat) (t off k : Nat)
    (hi : (fs[i]?).map (fun f => (f.type, f.offset)) = some (t, off)) (hk : P.cellsOf t = k) : ∃ x, DataW.trod enc P w base spare held n t ((cs.drop off).take k) = some x := by
  obtain ⟨f, hf1, hf2⟩ := Option.map_eq_some_iff.1 hi
  simp only [Prod.mk.injEq] at hf2
  obtain ⟨rfl, rfl⟩ := hf2
  have := hf i f hf1
  rw [hk] at this
  have hil : i < xs.length := by have := (Array.getElem?_eq_some_iff.1 hf1).1; omega
  exact ⟨xs[i], by rw [this]; exact List.getElem?_eq_getElem hil⟩
theorem len5 {α : Type} {l : List α} (h : l.length = 5) : ∃ a0 a1 a2 a3 a4, l = [a0, a1, a2, a3, a4] := by
  match l, h with
  | [a0, a1, a2, a3, a4], _ => exact ⟨_, _, _, _, _, rfl⟩
set_option maxRecDepth 100000 in
theorem open_ac_row (hv : Value.okWide Tryz.prog w r b0 22 v) (h : DataW.Trod enc Tryz.prog w base spare held 22 v d p) :
    ∃ (A : Option Addr) (m c : Nat) (L : List Ac), v = .slice A m c ∧ m ≤ maxLen ∧ AcRow w A m L := by
  have ht : Tryz.prog.underlying 22 = some (.slice 27) := Tryz.underlying22
  have hC : Tryz.prog.cellsOf 27 = 5 := by kernel_rfl
  obtain ⟨a0, len, cap, rfl⟩ := okWide_slice ht hv
  obtain ⟨fuel, hf⟩ := h
  rcases open_slice ht hf with ⟨hcs, -⟩ | ⟨a, len', cap', m, n, D, Pl, hcs, -, hl, hm, hmm, -, hi⟩
  · have e : (Value.slice a0 len cap) = .slice none 0 0 := by simpa [Value.cells] using hcs
    cases e
    exact ⟨none, 0, 0, [], rfl, by decide, rfl, fun k r hk => by cases hk⟩
  · have e : (Value.slice a0 len cap) = .slice (some a) len' cap' := by simpa [Value.cells] using hcs
    cases e
    rw [hC] at hi
    have hlm : len ≤ m := by rw [hmm]; split <;> omega
    obtain ⟨L, hll, hq⟩ := lk_list (fun i (x : Ac) => I64w x.id ∧ (∀ j v, (acCells x)[j]? = some v → w.cell? (a.add (i * 5 + j)) = some v)) len (fun i hi' => by
      obtain ⟨cs', hc, ht'⟩ := hi i (by omega)
      obtain ⟨_, hcl, hat⟩ := World.cells?_some hc
      obtain ⟨xs, n', -, -, -, hlen, hfl⟩ := DataW.trod_struct Tryz.underlying27 ht'
      obtain ⟨x0, t0⟩ := lk_fld hlen hfl 0 3 0 1 (by kernel_rfl) (by kernel_rfl)
      obtain ⟨x1, t1⟩ := lk_fld hlen hfl 1 3 1 1 (by kernel_rfl) (by kernel_rfl)
      obtain ⟨x2, t2⟩ := lk_fld hlen hfl 2 9 2 1 (by kernel_rfl) (by kernel_rfl)
      obtain ⟨x3, t3⟩ := lk_fld hlen hfl 3 9 3 1 (by kernel_rfl) (by kernel_rfl)
      obtain ⟨x4, t4⟩ := lk_fld hlen hfl 4 3 4 1 (by kernel_rfl) (by kernel_rfl)
      obtain ⟨a0, a1, a2, a3, a4, hl5⟩ := len5 hcl
      subst hl5
      simp only [List.drop_succ_cons, List.drop_zero, List.take_succ_cons, List.take_zero] at t0 t1 t2 t3 t4
      obtain ⟨n0, e0, -, -⟩ := DataW.trod_int Tryz.underlying3 t0
      obtain ⟨n1, e1, -, hw1⟩ := DataW.trod_int Tryz.underlying3 t1
      obtain ⟨n4, e4, -, -⟩ := DataW.trod_int Tryz.underlying3 t4
      obtain ⟨s2, e2, -, -⟩ := DataW.trod_string Tryz.underlying9 t2
      obtain ⟨s3, e3, -, -⟩ := DataW.trod_string Tryz.underlying9 t3
      simp only [List.cons.injEq, and_true] at e0 e1 e2 e3 e4
      subst e0 e1 e2 e3 e4
      obtain ⟨s2, rfl⟩ : ∃ l : By, s2 = ofL l := ⟨s2.data.toList, (ofL_back s2).symm⟩
      obtain ⟨s3, rfl⟩ : ∃ l : By, s3 = ofL l := ⟨s3.data.toList, (ofL_back s3).symm⟩
      refine ⟨⟨n0, n1, s2, s3, n4⟩, hw1, fun j v hj => ?_⟩
      have hj5 : j < 5 := (Array.getElem?_eq_some_iff.1 hj).1
      have h4 := hat j hj5
      rw [← Go.Deep.add_add, h4]
      rw [← Array.getElem?_toList] at hj
      exact hj)
    refine ⟨some a, len, cap, L, rfl, by omega, hll, fun k r hk => ?_⟩
    obtain ⟨hi64, hc⟩ := hq k r hk
    have hk0 : k < L.length := (List.getElem?_eq_some_iff.1 hk).1
    obtain ⟨-, hc0⟩ := hq 0 _ (List.getElem?_eq_getElem (show 0 < L.length by omega))
    have c0 := hc0 0 _ rfl
    obtain ⟨b, o, spot⟩ := a
    obtain rfl : spot = none := by simpa [Addr.add] using World.cell?_spot c0
    have ha : ∀ i, (⟨b, o, none⟩ : Addr).add i = ⟨b, o + i, none⟩ := fun i => Go.WideShapes.add_plain b o i
    refine ⟨hi64, b, o, rfl, by rw [ha] at c0; exact cell_lt c0, fun j v hj => ?_⟩
    have := hc j v hj
    rw [ha] at this
    rw [Nat.add_assoc]
    exact this
end Go.Proofs.YtikdjgholjealaaGreatDoor.Law
