/- Opener of a row of deeds that comes in: two numbers and a record each. -/
import Derived.Test.YtaacinhmgmmcaaaDoorDyOpen
namespace Go.Proofs.YtaacinhmgmmcaaaDoor.Nt
open Go.ChangeShapes Go.WideShapes Go.ChangeAt Go.RowKit Go.PlainAid Aid
set_option linter.unusedVariables false
/-- A deed: its kind, its number, its record. -/
structure Dd where
  kind : Int
  n : Int
  rd : Rec
def ddCells (x : Dd) (p q d : Value) : Array Value := #[.int .i64 x.kind, .int .i64 x.n, .int .i64 x.rd.kind, .int .i64 x.rd.deal, .int .i64 x.rd.prev, .int .i64 x.rd.next, p, .int .i64 x.rd.und.kind, .int .i64 x.rd.und.tree, .string (ofL x.rd.und.key), .string (ofL x.rd.und.val), q, d]
/-- A row of deeds that came in. -/
def ActRow (w : World) (A : Option Addr) (m : Nat) (L : List Dd) : Prop :=
  L.length = m ∧ ∀ (k : Nat) (x : Dd), L[k]? = some x → I64 x.n ∧ ∃ b o p q d, A = some ⟨b, o, none⟩ ∧ b < w.heap.size ∧ (∀ j v, (ddCells x p q d)[j]? = some v → w.cell? ⟨b, o + k * 13 + j, none⟩ = some v) ∧ Row2 fImg w p x.rd.pages ∧ Row2 fNum w q x.rd.opn ∧ Row2 fNum w d x.rd.dty
theorem ActRow.at {w : World} {A : Option Addr} {m : Nat} {L : List Dd} (h : ActRow w A m L) (k : Nat) (hk : k < m) (w' : World) (hb : Below w.heap.size w w') :
    ∃ x b o A1 m1 A2 m2 A3 m3, L[k]? = some x ∧ I64 x.n ∧ A = some ⟨b, o, none⟩ ∧ b < w.heap.size ∧
      (w'.cell? ⟨b, o + k * 13, none⟩ = some (.int .i64 x.kind) ∧ w'.cell? ⟨b, o + k * 13 + 1, none⟩ = some (.int .i64 x.n) ∧ w'.cell? ⟨b, o + k * 13 + 2, none⟩ = some (.int .i64 x.rd.kind) ∧ w'.cell? ⟨b, o + k * 13 + 3, none⟩ = some (.int .i64 x.rd.deal) ∧ w'.cell? ⟨b, o + k * 13 + 4, none⟩ = some (.int .i64 x.rd.prev) ∧ w'.cell? ⟨b, o + k * 13 + 5, none⟩ = some (.int .i64 x.rd.next) ∧ w'.cell? ⟨b, o + k * 13 + 6, none⟩ = some (.slice A1 x.rd.pages.length m1) ∧
      w'.cell? ⟨b, o + k * 13 + 7, none⟩ = some (.int .i64 x.rd.und.kind) ∧ w'.cell? ⟨b, o + k * 13 + 8, none⟩ = some (.int .i64 x.rd.und.tree) ∧ w'.cell? ⟨b, o + k * 13 + 9, none⟩ = some (.string (ofL x.rd.und.key)) ∧ w'.cell? ⟨b, o + k * 13 + 10, none⟩ = some (.string (ofL x.rd.und.val)) ∧ w'.cell? ⟨b, o + k * 13 + 11, none⟩ = some (.slice A2 x.rd.opn.length m2) ∧ w'.cell? ⟨b, o + k * 13 + 12, none⟩ = some (.slice A3 x.rd.dty.length m3)) ∧
      RecAt w (.agg (recCells x.rd (.slice A1 x.rd.pages.length m1) (.slice A2 x.rd.opn.length m2) (.slice A3 x.rd.dty.length m3))) x.rd := by
  obtain ⟨hl, h⟩ := h
  have hr : L[k]? = some (L[k]'(by omega)) := List.getElem?_eq_getElem _
  obtain ⟨hi, b, o, p, q, d, hA, hlt, hc, h1, h2, h3⟩ := h k _ hr
  obtain ⟨A1, m1, rfl⟩ := h1.slice
  obtain ⟨A2, m2, rfl⟩ := h2.slice
  obtain ⟨A3, m3, rfl⟩ := h3.slice
  have hc' : ∀ j v, (ddCells (L[k]'(by omega)) (.slice A1 (L[k]'(by omega)).rd.pages.length m1) (.slice A2 (L[k]'(by omega)).rd.opn.length m2) (.slice A3 (L[k]'(by omega)).rd.dty.length m3))[j]? = some v → w'.cell? ⟨b, o + k * 13 + j, none⟩ = some v := fun j v hv => by rw [(bcell hb).1 _ _ hlt]; exact hc j v hv
  exact ⟨_, b, o, A1, m1, A2, m2, A3, m3, hr, hi, hA, hlt, ⟨hc' 0 _ rfl, hc' 1 _ rfl, hc' 2 _ rfl, hc' 3 _ rfl, hc' 4 _ rfl, hc' 5 _ rfl, hc' 6 _ rfl, hc' 7 _ rfl, hc' 8 _ rfl, hc' 9 _ rfl, hc' 10 _ rfl, hc' 11 _ rfl, hc' 12 _ rfl⟩, _, _, _, rfl, h1, h2, h3⟩
end Go.Proofs.YtaacinhmgmmcaaaDoor.Nt
namespace Go.Proofs.YtaacinhmgmmcaaaDoor.Law
open Go.ChangeShapes Go.WideShapes Go.ChangeAt Go.RowKit Go.Deep Aid Nt
variable {H : Type} {enc : TypeId × Value → H} {w : World} {r : Reach} {b0 base : Nat} {spare : Nat → Bool} {held : Bool} {v : Value} {d : DataW H} {p : List MemPlace}
theorem len13 {α : Type} {l : List α} (h : l.length = 13) : ∃ a0 a1 a2 a3 a4 a5 a6 a7 a8 a9 a10 a11 a12, l = [a0, a1, a2, a3, a4, a5, a6, a7, a8, a9, a10, a11, a12] := by
  match l, h with
  | [a0, a1, a2, a3, a4, a5, a6, a7, a8, a9, a10, a11, a12], _ => exact ⟨_, _, _, _, _, _, _, _, _, _, _, _, _, rfl⟩
set_option maxRecDepth 100000 in
theorem open_act_row (hv : Value.okWide Tryd.prog w r b0 22 v) (h : DataW.Trod enc Tryd.prog w base spare held 22 v d p) :
    ∃ (A : Option Addr) (m c : Nat) (L : List Dd), v = .slice A m c ∧ m ≤ maxLen ∧ ActRow w A m L := by
  have ht : Tryd.prog.underlying 22 = some (.slice 47) := Tryd.underlying22
  have hC : Tryd.prog.cellsOf 47 = 13 := by kernel_rfl
  obtain ⟨a0, len, cap, rfl⟩ := okWide_slice ht hv
  obtain ⟨fuel, hf⟩ := h
  rcases open_slice ht hf with ⟨hcs, -⟩ | ⟨a, len', cap', m, n, D, Pl, hcs, -, hl, hm, hmm, -, hi⟩
  · have e : (Value.slice a0 len cap) = .slice none 0 0 := by simpa [Value.cells] using hcs
    cases e
    exact ⟨none, 0, 0, [], rfl, by decide, rfl, fun k r hk => by cases hk⟩
  · have e : (Value.slice a0 len cap) = .slice (some a) len' cap' := by simpa [Value.cells] using hcs
    cases e
    rw [hC] at hi
    have hlm : len ≤ m := by rw [hmm]; split <;> omega
    obtain ⟨L, hll, hq⟩ := list_of (fun i (x : Dd) => I64 x.n ∧ ∃ p q d, (∀ j v, (ddCells x p q d)[j]? = some v → w.cell? (a.add (i * 13 + j)) = some v) ∧ Row2 fImg w p x.rd.pages ∧ Row2 fNum w q x.rd.opn ∧ Row2 fNum w d x.rd.dty) len (fun i hi' => by
      obtain ⟨cs', hc, ht'⟩ := hi i (by omega)
      obtain ⟨_, hcl, hat⟩ := World.cells?_some hc
      obtain ⟨xs, n', -, -, -, hlen, hfl⟩ := DataW.trod_struct Tryd.underlying47 ht'
      obtain ⟨x0, t0⟩ := fld hlen hfl 0 3 0 1 (by kernel_rfl) (by kernel_rfl)
      obtain ⟨x1, t1⟩ := fld hlen hfl 1 3 1 1 (by kernel_rfl) (by kernel_rfl)
      obtain ⟨x2, t2⟩ := fld hlen hfl 2 45 2 11 (by kernel_rfl) (by kernel_rfl)
      obtain ⟨a0, a1, a2, a3, a4, a5, a6, a7, a8, a9, a10, a11, a12, hl13⟩ := len13 hcl
      subst hl13
      simp only [List.drop_succ_cons, List.drop_zero, List.take_succ_cons, List.take_zero] at t0 t1 t2
      obtain ⟨x, p, q, d, hx, h1, h2, h3⟩ := open_rec_cells rfl t2
      obtain ⟨n0, e0, -, -⟩ := DataW.trod_int Tryd.underlying3 t0
      obtain ⟨n1, e1, -, hw1⟩ := DataW.trod_int Tryd.underlying3 t1
      simp only [List.cons.injEq, and_true] at e0 e1
      subst e0 e1
      have hall : ∀ (j : Nat) (v : Value), (ddCells ⟨n0, n1, x⟩ p q d)[j]? = some v → [Value.int .i64 n0, .int .i64 n1, a2, a3, a4, a5, a6, a7, a8, a9, a10, a11, a12][j]? = some v := by
        intro j v hj
        rw [show [Value.int .i64 n0, .int .i64 n1, a2, a3, a4, a5, a6, a7, a8, a9, a10, a11, a12] = .int .i64 n0 :: .int .i64 n1 :: [a2, a3, a4, a5, a6, a7, a8, a9, a10, a11, a12] from rfl, hx]
        rw [← Array.getElem?_toList] at hj
        exact hj
      refine ⟨⟨n0, n1, x⟩, bounds_i64 hw1, p, q, d, fun j v hj => ?_, h1, h2, h3⟩
      have hj13 : j < 13 := (Array.getElem?_eq_some_iff.1 hj).1
      have h4 := hat j hj13
      rw [← Go.Deep.add_add, h4]
      exact hall j v hj)
    refine ⟨some a, len, cap, L, rfl, by omega, hll, fun k r hk => ?_⟩
    obtain ⟨hi64, p, q, d, hc, h1, h2, h3⟩ := hq k r hk
    have hk0 : k < L.length := (List.getElem?_eq_some_iff.1 hk).1
    obtain ⟨-, _, _, _, hc0, -⟩ := hq 0 _ (List.getElem?_eq_getElem (show 0 < L.length by omega))
    have c0 := hc0 0 _ rfl
    obtain ⟨b, o, spot⟩ := a
    obtain rfl : spot = none := by simpa [Addr.add] using World.cell?_spot c0
    have ha : ∀ i, (⟨b, o, none⟩ : Addr).add i = ⟨b, o + i, none⟩ := fun i => Go.WideShapes.add_plain b o i
    refine ⟨hi64, b, o, p, q, d, rfl, by rw [ha] at c0; exact cell_lt c0, fun j v hj => ?_, h1, h2, h3⟩
    have := hc j v hj
    rw [ha] at this
    rw [Nat.add_assoc]
    exact this
end Go.Proofs.YtaacinhmgmmcaaaDoor.Law
