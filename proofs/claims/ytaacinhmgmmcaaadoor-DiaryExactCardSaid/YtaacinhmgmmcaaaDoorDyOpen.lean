/- Opener of a row of records that comes in. -/
import Derived.Test.YtaacinhmgmmcaaaDoorNtOpen
namespace Go.Proofs.YtaacinhmgmmcaaaDoor.Nt
open Go.ChangeShapes Go.WideShapes Go.ChangeAt Go.RowKit Go.PlainAid Aid
set_option linter.unusedVariables false
/-- A row of records that came in. -/
def RecRow (w : World) (A : Option Addr) (m : Nat) (L : List Rec) : Prop :=
  L.length = m ∧ ∀ (k : Nat) (r : Rec), L[k]? = some r → ∃ b o p q d, A = some ⟨b, o, none⟩ ∧ b < w.heap.size ∧ (∀ j v, (recCells r p q d)[j]? = some v → w.cell? ⟨b, o + k * 11 + j, none⟩ = some v) ∧ Row2 fImg w p r.pages ∧ Row2 fNum w q r.opn ∧ Row2 fNum w d r.dty
theorem RecRow.at {w : World} {A : Option Addr} {m : Nat} {L : List Rec} (h : RecRow w A m L) (k : Nat) (hk : k < m) (w' : World) (hb : Below w.heap.size w w') :
    ∃ r b o A1 m1 A2 m2 A3 m3, L[k]? = some r ∧ A = some ⟨b, o, none⟩ ∧
      (w'.cell? ⟨b, o + k * 11, none⟩ = some (.int .i64 r.kind) ∧ w'.cell? ⟨b, o + k * 11 + 1, none⟩ = some (.int .i64 r.deal) ∧ w'.cell? ⟨b, o + k * 11 + 2, none⟩ = some (.int .i64 r.prev) ∧ w'.cell? ⟨b, o + k * 11 + 3, none⟩ = some (.int .i64 r.next) ∧ w'.cell? ⟨b, o + k * 11 + 4, none⟩ = some (.slice A1 r.pages.length m1) ∧
      w'.cell? ⟨b, o + k * 11 + 5, none⟩ = some (.int .i64 r.und.kind) ∧ w'.cell? ⟨b, o + k * 11 + 6, none⟩ = some (.int .i64 r.und.tree) ∧ w'.cell? ⟨b, o + k * 11 + 7, none⟩ = some (.string (ofL r.und.key)) ∧ w'.cell? ⟨b, o + k * 11 + 8, none⟩ = some (.string (ofL r.und.val)) ∧ w'.cell? ⟨b, o + k * 11 + 9, none⟩ = some (.slice A2 r.opn.length m2) ∧ w'.cell? ⟨b, o + k * 11 + 10, none⟩ = some (.slice A3 r.dty.length m3)) ∧
      RecAt w (.agg (recCells r (.slice A1 r.pages.length m1) (.slice A2 r.opn.length m2) (.slice A3 r.dty.length m3))) r := by
  obtain ⟨hl, h⟩ := h
  have hr : L[k]? = some (L[k]'(by omega)) := List.getElem?_eq_getElem _
  obtain ⟨b, o, p, q, d, hA, hlt, hc, h1, h2, h3⟩ := h k _ hr
  obtain ⟨A1, m1, rfl⟩ := h1.slice
  obtain ⟨A2, m2, rfl⟩ := h2.slice
  obtain ⟨A3, m3, rfl⟩ := h3.slice
  have hc' : ∀ j v, (recCells (L[k]'(by omega)) (.slice A1 (L[k]'(by omega)).pages.length m1) (.slice A2 (L[k]'(by omega)).opn.length m2) (.slice A3 (L[k]'(by omega)).dty.length m3))[j]? = some v → w'.cell? ⟨b, o + k * 11 + j, none⟩ = some v := fun j v hv => by rw [(bcell hb).1 _ _ hlt]; exact hc j v hv
  exact ⟨_, b, o, A1, m1, A2, m2, A3, m3, hr, hA, ⟨hc' 0 _ rfl, hc' 1 _ rfl, hc' 2 _ rfl, hc' 3 _ rfl, hc' 4 _ rfl, hc' 5 _ rfl, hc' 6 _ rfl, hc' 7 _ rfl, hc' 8 _ rfl, hc' 9 _ rfl, hc' 10 _ rfl⟩, _, _, _, rfl, h1, h2, h3⟩
end Go.Proofs.YtaacinhmgmmcaaaDoor.Nt
namespace Go.Proofs.YtaacinhmgmmcaaaDoor.Law
open Go.ChangeShapes Go.WideShapes Go.ChangeAt Go.RowKit Go.Deep Aid Nt
variable {H : Type} {enc : TypeId × Value → H} {w : World} {r : Reach} {b0 base : Nat} {spare : Nat → Bool} {held : Bool} {v : Value} {d : DataW H} {p : List MemPlace}
set_option maxRecDepth 100000 in
theorem open_rec_cells {cs : List Value} {fuel : Nat} {x : DataW H × List MemPlace} (h11 : cs.length = 11) (hf : DataW.trod enc Tryd.prog w base spare held fuel 45 cs = some x) :
    ∃ (q : Rec) (a4 a9 a10 : Value), cs = (recCells q a4 a9 a10).toList ∧ Row2 fImg w a4 q.pages ∧ Row2 fNum w a9 q.opn ∧ Row2 fNum w a10 q.dty := by
  obtain ⟨xs, n, -, -, -, hlen, hfl⟩ := DataW.trod_struct Tryd.underlying45 hf
  obtain ⟨a0, a1, a2, a3, a4, a5, a6, a7, a8, a9, a10, hl⟩ := len11 h11
  subst hl
  obtain ⟨x0, t0⟩ := fld hlen hfl 0 3 0 1 (by kernel_rfl) (by kernel_rfl)
  obtain ⟨x1, t1⟩ := fld hlen hfl 1 3 1 1 (by kernel_rfl) (by kernel_rfl)
  obtain ⟨x2, t2⟩ := fld hlen hfl 2 3 2 1 (by kernel_rfl) (by kernel_rfl)
  obtain ⟨x3, t3⟩ := fld hlen hfl 3 3 3 1 (by kernel_rfl) (by kernel_rfl)
  obtain ⟨x4, t4⟩ := fld hlen hfl 4 39 4 1 (by kernel_rfl) (by kernel_rfl)
  obtain ⟨x5, t5⟩ := fld hlen hfl 5 41 5 4 (by kernel_rfl) (by kernel_rfl)
  obtain ⟨x6, t6⟩ := fld hlen hfl 6 42 9 1 (by kernel_rfl) (by kernel_rfl)
  obtain ⟨x7, t7⟩ := fld hlen hfl 7 43 10 1 (by kernel_rfl) (by kernel_rfl)
  simp only [List.drop_succ_cons, List.drop_zero, List.take_succ_cons, List.take_zero] at t0 t1 t2 t3 t4 t5 t6 t7
  obtain ⟨ys, n', -, -, -, hlen', hfl'⟩ := DataW.trod_struct Tryd.underlying41 t5
  obtain ⟨y0, u0⟩ := fld hlen' hfl' 0 3 0 1 (by kernel_rfl) (by kernel_rfl)
  obtain ⟨y1, u1⟩ := fld hlen' hfl' 1 3 1 1 (by kernel_rfl) (by kernel_rfl)
  obtain ⟨y2, u2⟩ := fld hlen' hfl' 2 9 2 1 (by kernel_rfl) (by kernel_rfl)
  obtain ⟨y3, u3⟩ := fld hlen' hfl' 3 9 3 1 (by kernel_rfl) (by kernel_rfl)
  simp only [List.drop_succ_cons, List.drop_zero, List.take_succ_cons, List.take_zero] at u0 u1 u2 u3
  obtain ⟨n0, e0, -, -⟩ := DataW.trod_int Tryd.underlying3 t0
  obtain ⟨n1, e1, -, -⟩ := DataW.trod_int Tryd.underlying3 t1
  obtain ⟨n2, e2, -, -⟩ := DataW.trod_int Tryd.underlying3 t2
  obtain ⟨n3, e3, -, -⟩ := DataW.trod_int Tryd.underlying3 t3
  obtain ⟨m0, e5, -, -⟩ := DataW.trod_int Tryd.underlying3 u0
  obtain ⟨m1, e6, -, -⟩ := DataW.trod_int Tryd.underlying3 u1
  obtain ⟨s2, e7, -, -⟩ := DataW.trod_string Tryd.underlying9 u2
  obtain ⟨s3, e8, -, -⟩ := DataW.trod_string Tryd.underlying9 u3
  simp only [List.cons.injEq, and_true] at e0 e1 e2 e3 e5 e6 e7 e8
  subst e0 e1 e2 e3 e5 e6 e7 e8
  obtain ⟨l2, rfl⟩ := bytes_of s2
  obtain ⟨l3, rfl⟩ := bytes_of s3
  obtain ⟨pg, hpg⟩ := open_row2 fImg Tryd.underlying39 Tryd.underlying75 (by kernel_rfl) (by kernel_rfl) rfl .num .str (by intro j f k hj hk; match j, hj, hk with | 0, hj, hk => (obtain rfl := Option.some.inj hj; obtain rfl := Option.some.inj hk; exact Tryd.underlying3) | 1, hj, hk => (obtain rfl := Option.some.inj hj; obtain rfl := Option.some.inj hk; exact Tryd.underlying9) | j + 2, hj, hk => cases hj) (by rintro a b ⟨n, rfl, -⟩ ⟨s, rfl, -⟩; obtain ⟨l, rfl⟩ := bytes_of s; exact ⟨(n, l), rfl⟩) t4
  obtain ⟨op, hop⟩ := open_row2 fNum Tryd.underlying42 Tryd.underlying83 (by kernel_rfl) (by kernel_rfl) rfl .num .num (by intro j f k hj hk; match j, hj, hk with | 0, hj, hk | 1, hj, hk => (obtain rfl := Option.some.inj hj; obtain rfl := Option.some.inj hk; exact Tryd.underlying3) | j + 2, hj, hk => cases hj) (by rintro a b ⟨n, rfl, -⟩ ⟨s, rfl, -⟩; exact ⟨(n, s), rfl⟩) t6
  obtain ⟨dt, hdt⟩ := open_row2 fNum Tryd.underlying43 Tryd.underlying85 (by kernel_rfl) (by kernel_rfl) rfl .num .num (by intro j f k hj hk; match j, hj, hk with | 0, hj, hk | 1, hj, hk => (obtain rfl := Option.some.inj hj; obtain rfl := Option.some.inj hk; exact Tryd.underlying3) | j + 2, hj, hk => cases hj) (by rintro a b ⟨n, rfl, -⟩ ⟨s, rfl, -⟩; exact ⟨(n, s), rfl⟩) t7
  exact ⟨⟨n0, n1, n2, n3, pg, ⟨m0, m1, l2, l3⟩, op, dt⟩, a4, a9, a10, rfl, hpg, hop, hdt⟩
set_option maxRecDepth 100000 in
theorem open_rec_row (hv : Value.okWide Tryd.prog w r b0 35 v) (h : DataW.Trod enc Tryd.prog w base spare held 35 v d p) :
    ∃ (A : Option Addr) (m c : Nat) (L : List Rec), v = .slice A m c ∧ m ≤ maxLen ∧ RecRow w A m L := by
  have ht : Tryd.prog.underlying 35 = some (.slice 45) := Tryd.underlying35
  have hC : Tryd.prog.cellsOf 45 = 11 := by kernel_rfl
  obtain ⟨a0, len, cap, rfl⟩ := okWide_slice ht hv
  obtain ⟨fuel, hf⟩ := h
  rcases open_slice ht hf with ⟨hcs, -⟩ | ⟨a, len', cap', m, n, D, Pl, hcs, -, hl, hm, hmm, -, hi⟩
  · have e : (Value.slice a0 len cap) = .slice none 0 0 := by simpa [Value.cells] using hcs
    cases e
    exact ⟨none, 0, 0, [], rfl, by decide, rfl, fun k r hk => by cases hk⟩
  · have e : (Value.slice a0 len cap) = .slice (some a) len' cap' := by simpa [Value.cells] using hcs
    cases e
    rw [hC] at hi
    have hlm : len ≤ m := by rw [hmm]; split <;> omega
    obtain ⟨L, hll, hq⟩ := list_of (fun i (x : Rec) => ∃ p q d, (∀ j v, (recCells x p q d)[j]? = some v → w.cell? (a.add (i * 11 + j)) = some v) ∧ Row2 fImg w p x.pages ∧ Row2 fNum w q x.opn ∧ Row2 fNum w d x.dty) len (fun i hi' => by
      obtain ⟨cs', hc, ht'⟩ := hi i (by omega)
      obtain ⟨_, hcl, hat⟩ := World.cells?_some hc
      obtain ⟨x, p, q, d, rfl, h1, h2, h3⟩ := open_rec_cells hcl ht'
      refine ⟨x, p, q, d, fun j v hj => ?_, h1, h2, h3⟩
      have hj11 : j < 11 := by
        have := (Array.getElem?_eq_some_iff.1 hj).1
        exact this
      have h4 := hat j hj11
      rw [← Go.Deep.add_add, h4]
      rw [Array.getElem?_toList]
      exact hj)
    refine ⟨some a, len, cap, L, rfl, by omega, hll, fun k r hk => ?_⟩
    obtain ⟨p, q, d, hc, h1, h2, h3⟩ := hq k r hk
    have hk0 : k < L.length := (List.getElem?_eq_some_iff.1 hk).1
    obtain ⟨_, _, _, hc0, -⟩ := hq 0 _ (List.getElem?_eq_getElem (show 0 < L.length by omega))
    have c0 := hc0 0 _ rfl
    obtain ⟨b, o, spot⟩ := a
    obtain rfl : spot = none := by simpa [Addr.add] using World.cell?_spot c0
    have ha : ∀ i, (⟨b, o, none⟩ : Addr).add i = ⟨b, o + i, none⟩ := fun i => Go.WideShapes.add_plain b o i
    refine ⟨b, o, p, q, d, rfl, by rw [ha] at c0; exact cell_lt c0, fun j v hj => ?_, h1, h2, h3⟩
    have := hc j v hj
    rw [ha] at this
    rw [Nat.add_assoc]
    exact this
end Go.Proofs.YtaacinhmgmmcaaaDoor.Law
