/- A row of pairs that came in. -/
import Derived.Test.YtbcemognghkmcaaKtP
import Derived.Test.YtbcemognghkmcaaLaw
import Derived.OpenShut
namespace Go.Proofs.Ytbcemognghkmcaa.Law
open Go.ChangeShapes Go.WideShapes Go.ChangeAt Go.RowKit Go.Deep Aid Kt
variable {H : Type} {enc : TypeId × Value → H} {w : World} {r : Reach} {b0 base : Nat} {spare : Nat → Bool} {held : Bool} {v : Value} {d : DataW H} {p : List MemPlace}
theorem kt_list {α : Type} (Q : Nat → α → Prop) (n : Nat) (h : ∀ i, i < n → ∃ x, Q i x) : ∃ l : List α, l.length = n ∧ ∀ (i : Nat) (x : α), l[i]? = some x → Q i x := by
  induction n with
  | zero => exact ⟨[], rfl, fun i x hx => by cases hx⟩
  | succ n ih =>
    obtain ⟨l, hl, hq⟩ := ih (fun i hi => h i (by omega))
    obtain ⟨x, hx⟩ := h n (by omega)
    refine ⟨l ++ [x], by simp [hl], fun i y hy => ?_⟩
    by_cases hi : i < n
    · rw [List.getElem?_append_left (by omega)] at hy; exact hq i y hy
    · rw [List.getElem?_append_right (by omega)] at hy
      have : i - l.length = 0 := by
        have := (List.getElem?_eq_some_iff.1 hy).1; simp at this; omega
      rw [this] at hy
      obtain rfl : i = n := by omega
      simpa using (Option.some.inj hy) ▸ hx
theorem len2 {α : Type} {l : List α} (h : l.length = 2) : ∃ a0 a1, l = [a0, a1] := by
  match l, h with
  | [a0, a1], _ => exact ⟨_, _, rfl⟩
set_option maxRecDepth 100000 in
theorem open_pairs (hv : Value.okWide Try.prog w r b0 22 v) (h : DataW.Trod enc Try.prog w base spare held 22 v d p) :
    ∃ (A : Option Addr) (c : Nat) (es : List Edg), v = .slice A es.length c ∧ es.length ≤ maxLen ∧ Prs w A es ∧ Wf es := by
  have ht : Try.prog.underlying 22 = some (.slice 30) := Try.underlying22
  have hC : Try.prog.cellsOf 30 = 2 := by kernel_rfl
  have hC1 : Try.prog.cellsOf 3 = 1 := by kernel_rfl
  obtain ⟨a0, len, cap, rfl⟩ := okWide_slice ht hv
  obtain ⟨fuel, hf⟩ := h
  rcases open_slice ht hf with ⟨hcs, -⟩ | ⟨a, len', cap', m, n, D, Pl, hcs, -, hl, hm, hmm, -, hi⟩
  · have e : (Value.slice a0 len cap) = .slice none 0 0 := by simpa [Value.cells] using hcs
    cases e
    exact ⟨none, 0, [], rfl, by decide, Or.inl rfl, fun e he => by cases he⟩
  · have e : (Value.slice a0 len cap) = .slice (some a) len' cap' := by simpa [Value.cells] using hcs
    cases e
    rw [hC] at hi
    have hlm : len ≤ m := by rw [hmm]; split <;> omega
    obtain ⟨L, hll, hq⟩ := kt_list (fun i (x : Edg) => (I64w x.1 ∧ I64w x.2) ∧ w.cell? (a.add (i * 2)) = some (.int .i64 x.1) ∧ w.cell? (a.add (i * 2 + 1)) = some (.int .i64 x.2)) len (fun i hi' => by
      obtain ⟨cs', hc, ht'⟩ := hi i (by omega)
      obtain ⟨_, hcl, hat⟩ := World.cells?_some hc
      obtain ⟨xs, n', -, -, -, hlen, hfl⟩ := DataW.trod_array Try.underlying30 ht'
      rw [hC1] at hfl
      have t0 := hfl 0 (by decide)
      have t1 := hfl 1 (by decide)
      obtain ⟨a0, a1, hl2⟩ := len2 hcl
      subst hl2
      have x0 : ∃ x, xs[0]? = some x := ⟨_, List.getElem?_eq_getElem (by omega)⟩
      have x1 : ∃ x, xs[1]? = some x := ⟨_, List.getElem?_eq_getElem (by omega)⟩
      obtain ⟨y0, hy0⟩ := x0
      obtain ⟨y1, hy1⟩ := x1
      rw [hy0] at t0
      rw [hy1] at t1
      simp only [List.drop_succ_cons, List.drop_zero, List.take_succ_cons, List.take_zero, Nat.zero_mul, Nat.one_mul] at t0 t1
      obtain ⟨n0, e0, -, hw0⟩ := DataW.trod_int Try.underlying3 t0
      obtain ⟨n1, e1, -, hw1⟩ := DataW.trod_int Try.underlying3 t1
      simp only [List.cons.injEq, and_true] at e0 e1
      subst e0 e1
      refine ⟨(n0, n1), ⟨hw0, hw1⟩, ?_, ?_⟩
      · have h4 := hat 0 (by decide)
        rw [Go.Deep.add_add, Nat.add_zero] at h4
        simpa using h4
      · have h4 := hat 1 (by decide)
        rw [← Go.Deep.add_add]
        simpa using h4)
    subst hll
    refine ⟨some a, cap, L, rfl, by omega, ?_, fun e he => ?_⟩
    · by_cases h0 : L = []
      · exact Or.inl h0
      · have hp : 0 < L.length := List.length_pos_iff.2 h0
        obtain ⟨-, c0, -⟩ := hq 0 _ (List.getElem?_eq_getElem hp)
        obtain ⟨b, o, spot⟩ := a
        obtain rfl : spot = none := by simpa [Addr.add] using World.cell?_spot c0
        have ha : ∀ i, (⟨b, o, none⟩ : Addr).add i = ⟨b, o + i, none⟩ := fun i => Go.WideShapes.add_plain b o i
        refine Or.inr ⟨b, o, rfl, by rw [ha] at c0; exact cell_lt c0, fun k x hx => ?_⟩
        obtain ⟨-, d0, d1⟩ := hq k x hx
        rw [ha] at d0 d1
        exact ⟨d0, by rw [Nat.add_assoc]; exact d1⟩
    · obtain ⟨i, hi, rfl⟩ := List.mem_iff_getElem.1 he
      exact (hq i _ (List.getElem?_eq_getElem hi)).1
end Go.Proofs.Ytbcemognghkmcaa.Law
