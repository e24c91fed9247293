/- Openers of an entry and of a node that come in. -/
import Derived.Test.YtmbakcphmblobaaDoorNdA
import Derived.Test.YtmbakcphmblobaaDoorNtOpen
namespace Go.Proofs.YtmbakcphmblobaaDoor.Law
open Go.ChangeShapes Go.WideShapes Go.ChangeAt Go.RowKit Go.Deep Aid Nd
set_option linter.unusedVariables false
variable {H : Type} {enc : TypeId × Value → H} {w : World} {r : Reach} {b0 base : Nat} {spare : Nat → Bool} {held : Bool} {v : Value} {d : DataW H} {p : List MemPlace}
theorem len3 {α : Type} {l : List α} (h : l.length = 3) : ∃ a0 a1 a2, l = [a0, a1, a2] := by
  match l, h with
  | [a0, a1, a2], _ => exact ⟨_, _, _, rfl⟩
theorem len7 {α : Type} {l : List α} (h : l.length = 7) : ∃ a0 a1 a2 a3 a4 a5 a6, l = [a0, a1, a2, a3, a4, a5, a6] := by
  match l, h with
  | [a0, a1, a2, a3, a4, a5, a6], _ => exact ⟨_, _, _, _, _, _, _, rfl⟩
/-- A slice of entries, as a field. -/
theorem open_row3 {fuel : Nat} {v : Value} {x : DataW H × List MemPlace} (h : DataW.trod enc Tryd.prog w base spare held fuel 62 [v] = some x) : ∃ l, Row3 w v l := by
  rcases open_slice_fields Tryd.underlying62 Tryd.underlying111 (by kernel_rfl) (by kernel_rfl) h with ⟨hcs, -⟩ | ⟨a, len', cap', m, D, Pl, hcs, -, hl, hm, hmm, -, hi⟩
  · obtain rfl : v = .slice none 0 0 := by simpa using hcs
    exact ⟨[], Row3.nil w⟩
  · obtain rfl : v = .slice (some a) len' cap' := by simpa using hcs
    have hlm : len' ≤ m := by rw [hmm]; split <;> omega
    obtain ⟨l, hll, hq⟩ := list_of (fun i (x : Ent) => w.cell? (a.add (i * 3 + 0)) = some (.string (ofL x.key)) ∧ w.cell? (a.add (i * 3 + 1)) = some (.string (ofL x.val)) ∧ w.cell? (a.add (i * 3 + 2)) = some (.bool x.ghost)) len' (fun i hi' => by
      obtain ⟨ys, q, -, -, -, hat⟩ := hi i (by omega)
      obtain ⟨v0, y0, c0, -, t0⟩ := hat 0 _ rfl
      obtain ⟨v1, y1, c1, -, t1⟩ := hat 1 _ rfl
      obtain ⟨v2, y2, c2, -, t2⟩ := hat 2 _ rfl
      obtain ⟨s0, e0, -⟩ := ck_trod (k := .str) Tryd.underlying9 t0
      obtain ⟨s1, e1, -⟩ := ck_trod (k := .str) Tryd.underlying9 t1
      obtain ⟨b, e2⟩ := ck_trod (k := .truth) Tryd.underlying4 t2
      subst e0 e1 e2
      obtain ⟨l0, rfl⟩ := bytes_of s0
      obtain ⟨l1, rfl⟩ := bytes_of s1
      exact ⟨⟨l0, l1, b⟩, c0, c1, c2⟩)
    refine ⟨l, some a, cap', by rw [hll], by omega, ?_⟩
    by_cases h0 : l = []
    · exact Or.inl h0
    right
    have hpos : 0 < l.length := List.length_pos_iff.2 h0
    obtain ⟨c0, -⟩ := hq 0 l[0] (List.getElem?_eq_getElem hpos)
    obtain ⟨b, o, spot⟩ := a
    obtain rfl : spot = none := by simpa [Addr.add] using World.cell?_spot c0
    have ha : ∀ i, (⟨b, o, none⟩ : Addr).add i = ⟨b, o + i, none⟩ := fun i => Go.WideShapes.add_plain b o i
    refine ⟨b, o, rfl, ?_, fun k x hx => ?_⟩
    · rw [ha] at c0; exact cell_lt c0
    · obtain ⟨q0, q1, q2⟩ := hq k x hx
      rw [ha, Nat.add_zero] at q0
      rw [ha] at q1 q2
      exact ⟨q0, by rw [Nat.add_assoc]; exact q1, by rw [Nat.add_assoc]; exact q2⟩
set_option maxRecDepth 100000 in
theorem open_entry (hv : Value.okWide Tryd.prog w r b0 111 v) (h : DataW.Trod enc Tryd.prog w base spare held 111 v d p) : ∃ e, v = .agg (entCells e) := by
  obtain ⟨cs, rfl, hsz, -⟩ : ∃ cs, v = .agg cs ∧ cs.size = Tryd.prog.cellsOf 111 ∧ True := by
    have := hv
    unfold Value.okWide at this
    rw [Tryd.underlying111] at this
    obtain ⟨cs, h1, h2, -⟩ := this
    exact ⟨cs, h1, h2, trivial⟩
  obtain ⟨fuel, hf⟩ := h
  obtain ⟨xs, n, -, -, -, hlen, hfl⟩ := DataW.trod_struct Tryd.underlying111 hf
  have hc : (Value.agg cs).cells.toList = cs.toList := rfl
  rw [hc] at hfl
  have h3 : cs.toList.length = 3 := by rw [Array.length_toList, hsz]; kernel_rfl
  obtain ⟨a0, a1, a2, hl⟩ := len3 h3
  obtain rfl : cs = #[a0, a1, a2] := by rw [← Array.toList_inj]; exact hl
  obtain ⟨x0, t0⟩ := fld hlen hfl 0 9 0 1 (by kernel_rfl) (by kernel_rfl)
  obtain ⟨x1, t1⟩ := fld hlen hfl 1 9 1 1 (by kernel_rfl) (by kernel_rfl)
  obtain ⟨x2, t2⟩ := fld hlen hfl 2 4 2 1 (by kernel_rfl) (by kernel_rfl)
  simp only [List.drop_succ_cons, List.drop_zero, List.take_succ_cons, List.take_zero] at t0 t1 t2
  obtain ⟨s0, e0, -, -⟩ := DataW.trod_string Tryd.underlying9 t0
  obtain ⟨s1, e1, -, -⟩ := DataW.trod_string Tryd.underlying9 t1
  obtain ⟨b, e2, -⟩ := DataW.trod_bool Tryd.underlying4 t2
  simp only [List.cons.injEq, and_true] at e0 e1 e2
  subst e0 e1 e2
  obtain ⟨l0, rfl⟩ := bytes_of s0
  obtain ⟨l1, rfl⟩ := bytes_of s1
  exact ⟨⟨l0, l1, b⟩, rfl⟩
set_option maxRecDepth 100000 in
theorem open_node (hv : Value.okWide Tryd.prog w r b0 64 v) (h : DataW.Trod enc Tryd.prog w base spare held 64 v d p) : ∃ n, NodAt w v n := by
  obtain ⟨cs, rfl, hsz, -⟩ : ∃ cs, v = .agg cs ∧ cs.size = Tryd.prog.cellsOf 64 ∧ True := by
    have := hv
    unfold Value.okWide at this
    rw [Tryd.underlying64] at this
    obtain ⟨cs, h1, h2, -⟩ := this
    exact ⟨cs, h1, h2, trivial⟩
  obtain ⟨fuel, hf⟩ := h
  obtain ⟨xs, n, -, -, -, hlen, hfl⟩ := DataW.trod_struct Tryd.underlying64 hf
  have hc : (Value.agg cs).cells.toList = cs.toList := rfl
  rw [hc] at hfl
  have h7 : cs.toList.length = 7 := by rw [Array.length_toList, hsz]; kernel_rfl
  obtain ⟨a0, a1, a2, a3, a4, a5, a6, hl⟩ := len7 h7
  obtain rfl : cs = #[a0, a1, a2, a3, a4, a5, a6] := by rw [← Array.toList_inj]; exact hl
  obtain ⟨x0, t0⟩ := fld hlen hfl 0 3 0 1 (by kernel_rfl) (by kernel_rfl)
  obtain ⟨x1, t1⟩ := fld hlen hfl 1 3 1 1 (by kernel_rfl) (by kernel_rfl)
  obtain ⟨x2, t2⟩ := fld hlen hfl 2 3 2 1 (by kernel_rfl) (by kernel_rfl)
  obtain ⟨x3, t3⟩ := fld hlen hfl 3 4 3 1 (by kernel_rfl) (by kernel_rfl)
  obtain ⟨x4, t4⟩ := fld hlen hfl 4 9 4 1 (by kernel_rfl) (by kernel_rfl)
  obtain ⟨x5, t5⟩ := fld hlen hfl 5 3 5 1 (by kernel_rfl) (by kernel_rfl)
  obtain ⟨x6, t6⟩ := fld hlen hfl 6 62 6 1 (by kernel_rfl) (by kernel_rfl)
  simp only [List.drop_succ_cons, List.drop_zero, List.take_succ_cons, List.take_zero] at t0 t1 t2 t3 t4 t5 t6
  obtain ⟨n0, e0, -, -⟩ := DataW.trod_int Tryd.underlying3 t0
  obtain ⟨n1, e1, -, -⟩ := DataW.trod_int Tryd.underlying3 t1
  obtain ⟨n2, e2, -, -⟩ := DataW.trod_int Tryd.underlying3 t2
  obtain ⟨b3, e3, -⟩ := DataW.trod_bool Tryd.underlying4 t3
  obtain ⟨s4, e4, -, -⟩ := DataW.trod_string Tryd.underlying9 t4
  obtain ⟨n5, e5, -, -⟩ := DataW.trod_int Tryd.underlying3 t5
  simp only [List.cons.injEq, and_true] at e0 e1 e2 e3 e4 e5
  subst e0 e1 e2 e3 e4 e5
  obtain ⟨l4, rfl⟩ := bytes_of s4
  obtain ⟨ls, hls⟩ := open_row3 t6
  exact ⟨⟨n0, n1, n2, b3, l4, n5, ls⟩, a6, rfl, hls⟩
end Go.Proofs.YtmbakcphmblobaaDoor.Law
