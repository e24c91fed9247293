/- Texts of ours, joined. -/
import Derived.Test.YtapdpdhibpblgaaShelf
import Derived.Test.YtapdpdhibpblgaaOpenB
import Derived.Test.YtapdpdhibpblgaaBkAw

-- joined
section
namespace Go.Proofs.Ytapdpdhibpblgaa.Law
open Go.ChangeShapes Go.WideShapes Go.ChangeAt Go.RowKit Go.Deep Aid Nd
set_option linter.unusedVariables false
variable {H : Type} {enc : TypeId × Value → H} {w : World} {r : Reach} {b0 base : Nat} {spare : Nat → Bool} {held : Bool} {v : Value} {d : DataW H} {p : List MemPlace}
theorem len3 {α : Type} {l : List α} (h : l.length = 3) : ∃ a0 a1 a2, l = [a0, a1, a2] := by
  match l, h with
  | [a0, a1, a2], _ => exact ⟨_, _, _, rfl⟩
theorem len7 {α : Type} {l : List α} (h : l.length = 7) : ∃ a0 a1 a2 a3 a4 a5 a6, l = [a0, a1, a2, a3, a4, a5, a6] := by
  match l, h with
  | [a0, a1, a2, a3, a4, a5, a6], _ => exact ⟨_, _, _, _, _, _, _, rfl⟩
/-- A slice of entries, as a field. -/
theorem open_row3 {fuel : Nat} {v : Value} {x : DataW H × List MemPlace} (h : DataW.trod enc Try.prog w base spare held fuel 27 [v] = some x) : ∃ l, Row3 w v l := by
  rcases open_slice_fields Try.underlying27 Try.underlying44 (by kernel_rfl) (by kernel_rfl) h with ⟨hcs, -⟩ | ⟨a, len', cap', m, D, Pl, hcs, -, hl, hm, hmm, -, hi⟩
  · obtain rfl : v = .slice none 0 0 := by simpa using hcs
    exact ⟨[], Row3.nil w⟩
  · obtain rfl : v = .slice (some a) len' cap' := by simpa using hcs
    have hlm : len' ≤ m := by rw [hmm]; split <;> omega
    obtain ⟨l, hll, hq⟩ := list_of (fun i (x : Ent) => w.cell? (a.add (i * 3 + 0)) = some (.string (ofL x.key)) ∧ w.cell? (a.add (i * 3 + 1)) = some (.string (ofL x.val)) ∧ w.cell? (a.add (i * 3 + 2)) = some (.bool x.ghost)) len' (fun i hi' => by
      obtain ⟨ys, q, -, -, -, hat⟩ := hi i (by omega)
      obtain ⟨v0, y0, c0, -, t0⟩ := hat 0 _ rfl
      obtain ⟨v1, y1, c1, -, t1⟩ := hat 1 _ rfl
      obtain ⟨v2, y2, c2, -, t2⟩ := hat 2 _ rfl
      obtain ⟨s0, e0, -⟩ := ck_trod (k := .str) Try.underlying9 t0
      obtain ⟨s1, e1, -⟩ := ck_trod (k := .str) Try.underlying9 t1
      obtain ⟨b, e2⟩ := ck_trod (k := .truth) Try.underlying4 t2
      subst e0 e1 e2
      obtain ⟨l0, rfl⟩ := bytes_of s0
      obtain ⟨l1, rfl⟩ := bytes_of s1
      exact ⟨⟨l0, l1, b⟩, c0, c1, c2⟩)
    refine ⟨l, some a, cap', by rw [hll], by omega, ?_⟩
    by_cases h0 : l = []
    · exact Or.inl h0
    right
    have hpos : 0 < l.length := List.length_pos_iff.2 h0
    obtain ⟨c0, -⟩ := hq 0 l[0] (List.getElem?_eq_getElem hpos)
    obtain ⟨b, o, spot⟩ := a
    obtain rfl : spot = none := by simpa [Addr.add] using World.cell?_spot c0
    have ha : ∀ i, (⟨b, o, none⟩ : Addr).add i = ⟨b, o + i, none⟩ := fun i => Go.WideShapes.add_plain b o i
    refine ⟨b, o, rfl, ?_, fun k x hx => ?_⟩
    · rw [ha] at c0; exact cell_lt c0
    · obtain ⟨q0, q1, q2⟩ := hq k x hx
      rw [ha, Nat.add_zero] at q0
      rw [ha] at q1 q2
      exact ⟨q0, by rw [Nat.add_assoc]; exact q1, by rw [Nat.add_assoc]; exact q2⟩
set_option maxRecDepth 100000 in
theorem open_entry (hv : Value.okWide Try.prog w r b0 44 v) (h : DataW.Trod enc Try.prog w base spare held 44 v d p) : ∃ e, v = .agg (entCells e) := by
  obtain ⟨cs, rfl, hsz, -⟩ : ∃ cs, v = .agg cs ∧ cs.size = Try.prog.cellsOf 44 ∧ True := by
    have := hv
    unfold Value.okWide at this
    rw [Try.underlying44] at this
    obtain ⟨cs, h1, h2, -⟩ := this
    exact ⟨cs, h1, h2, trivial⟩
  obtain ⟨fuel, hf⟩ := h
  obtain ⟨xs, n, -, -, -, hlen, hfl⟩ := DataW.trod_struct Try.underlying44 hf
  have hc : (Value.agg cs).cells.toList = cs.toList := rfl
  rw [hc] at hfl
  have h3 : cs.toList.length = 3 := by rw [Array.length_toList, hsz]; kernel_rfl
  obtain ⟨a0, a1, a2, hl⟩ := len3 h3
  obtain rfl : cs = #[a0, a1, a2] := by rw [← Array.toList_inj]; exact hl
  obtain ⟨x0, t0⟩ := fld hlen hfl 0 9 0 1 (by kernel_rfl) (by kernel_rfl)
  obtain ⟨x1, t1⟩ := fld hlen hfl 1 9 1 1 (by kernel_rfl) (by kernel_rfl)
  obtain ⟨x2, t2⟩ := fld hlen hfl 2 4 2 1 (by kernel_rfl) (by kernel_rfl)
  simp only [List.drop_succ_cons, List.drop_zero, List.take_succ_cons, List.take_zero] at t0 t1 t2
  obtain ⟨s0, e0, -, -⟩ := DataW.trod_string Try.underlying9 t0
  obtain ⟨s1, e1, -, -⟩ := DataW.trod_string Try.underlying9 t1
  obtain ⟨b, e2, -⟩ := DataW.trod_bool Try.underlying4 t2
  simp only [List.cons.injEq, and_true] at e0 e1 e2
  subst e0 e1 e2
  obtain ⟨l0, rfl⟩ := bytes_of s0
  obtain ⟨l1, rfl⟩ := bytes_of s1
  exact ⟨⟨l0, l1, b⟩, rfl⟩
set_option maxRecDepth 100000 in
theorem open_node (hv : Value.okWide Try.prog w r b0 52 v) (h : DataW.Trod enc Try.prog w base spare held 52 v d p) : ∃ n, NodAt w v n := by
  obtain ⟨cs, rfl, hsz, -⟩ : ∃ cs, v = .agg cs ∧ cs.size = Try.prog.cellsOf 52 ∧ True := by
    have := hv
    unfold Value.okWide at this
    rw [Try.underlying52] at this
    obtain ⟨cs, h1, h2, -⟩ := this
    exact ⟨cs, h1, h2, trivial⟩
  obtain ⟨fuel, hf⟩ := h
  obtain ⟨xs, n, -, -, -, hlen, hfl⟩ := DataW.trod_struct Try.underlying52 hf
  have hc : (Value.agg cs).cells.toList = cs.toList := rfl
  rw [hc] at hfl
  have h7 : cs.toList.length = 7 := by rw [Array.length_toList, hsz]; kernel_rfl
  obtain ⟨a0, a1, a2, a3, a4, a5, a6, hl⟩ := len7 h7
  obtain rfl : cs = #[a0, a1, a2, a3, a4, a5, a6] := by rw [← Array.toList_inj]; exact hl
  obtain ⟨x0, t0⟩ := fld hlen hfl 0 3 0 1 (by kernel_rfl) (by kernel_rfl)
  obtain ⟨x1, t1⟩ := fld hlen hfl 1 3 1 1 (by kernel_rfl) (by kernel_rfl)
  obtain ⟨x2, t2⟩ := fld hlen hfl 2 3 2 1 (by kernel_rfl) (by kernel_rfl)
  obtain ⟨x3, t3⟩ := fld hlen hfl 3 4 3 1 (by kernel_rfl) (by kernel_rfl)
  obtain ⟨x4, t4⟩ := fld hlen hfl 4 9 4 1 (by kernel_rfl) (by kernel_rfl)
  obtain ⟨x5, t5⟩ := fld hlen hfl 5 3 5 1 (by kernel_rfl) (by kernel_rfl)
  obtain ⟨x6, t6⟩ := fld hlen hfl 6 27 6 1 (by kernel_rfl) (by kernel_rfl)
  simp only [List.drop_succ_cons, List.drop_zero, List.take_succ_cons, List.take_zero] at t0 t1 t2 t3 t4 t5 t6
  obtain ⟨n0, e0, -, -⟩ := DataW.trod_int Try.underlying3 t0
  obtain ⟨n1, e1, -, -⟩ := DataW.trod_int Try.underlying3 t1
  obtain ⟨n2, e2, -, -⟩ := DataW.trod_int Try.underlying3 t2
  obtain ⟨b3, e3, -⟩ := DataW.trod_bool Try.underlying4 t3
  obtain ⟨s4, e4, -, -⟩ := DataW.trod_string Try.underlying9 t4
  obtain ⟨n5, e5, -, -⟩ := DataW.trod_int Try.underlying3 t5
  simp only [List.cons.injEq, and_true] at e0 e1 e2 e3 e4 e5
  subst e0 e1 e2 e3 e4 e5
  obtain ⟨l4, rfl⟩ := bytes_of s4
  obtain ⟨ls, hls⟩ := open_row3 t6
  exact ⟨⟨n0, n1, n2, b3, l4, n5, ls⟩, a6, rfl, hls⟩
end Go.Proofs.Ytapdpdhibpblgaa.Law
end

-- joined
section
namespace Go.Proofs.Ytapdpdhibpblgaa.Nd
open Go.ChangeShapes Go.WideShapes Go.ChangeAt Go.RowKit Go.PlainAid Aid Nt
set_option linter.unusedVariables false
/-- A row of nodes that came in. -/
def NodRow (w : World) (A : Option Addr) (m : Nat) (L : List Nod) : Prop :=
  L.length = m ∧ ∀ (k : Nat) (n : Nod), L[k]? = some n → n.level ≤ 9223372036854775807 ∧ ∃ b o p, A = some ⟨b, o, none⟩ ∧ b < w.heap.size ∧ (∀ j v, (nodCells n p)[j]? = some v → w.cell? ⟨b, o + k * 7 + j, none⟩ = some v) ∧ Row3 w p n.list
theorem NodRow.at {w : World} {A : Option Addr} {m : Nat} {L : List Nod} (h : NodRow w A m L) (k : Nat) (hk : k < m) (w' : World) (hb : Below w.heap.size w w') :
    ∃ n b o A1 m1, L[k]? = some n ∧ n.level ≤ 9223372036854775807 ∧ A = some ⟨b, o, none⟩ ∧
      (w'.cell? ⟨b, o + k * 7, none⟩ = some (.int .i64 n.tree) ∧ w'.cell? ⟨b, o + k * 7 + 1, none⟩ = some (.int .i64 n.level) ∧ w'.cell? ⟨b, o + k * 7 + 2, none⟩ = some (.int .i64 n.stamp) ∧ w'.cell? ⟨b, o + k * 7 + 3, none⟩ = some (.bool n.has) ∧ w'.cell? ⟨b, o + k * 7 + 4, none⟩ = some (.string (ofL n.high)) ∧
      w'.cell? ⟨b, o + k * 7 + 5, none⟩ = some (.int .i64 n.right) ∧ w'.cell? ⟨b, o + k * 7 + 6, none⟩ = some (.slice A1 n.list.length m1)) ∧
      Row3 w (.slice A1 n.list.length m1) n.list := by
  obtain ⟨hl, h⟩ := h
  have hr : L[k]? = some (L[k]'(by omega)) := List.getElem?_eq_getElem _
  obtain ⟨hv, b, o, p, hA, hlt, hc, h1⟩ := h k _ hr
  obtain ⟨A1, m1, rfl, h2⟩ := id h1
  have hc' : ∀ j v, (nodCells (L[k]'(by omega)) (.slice A1 (L[k]'(by omega)).list.length m1))[j]? = some v → w'.cell? ⟨b, o + k * 7 + j, none⟩ = some v := fun j v hv => by rw [(bcell hb).1 _ _ hlt]; exact hc j v hv
  exact ⟨_, b, o, A1, m1, hr, hv, hA, ⟨hc' 0 _ rfl, hc' 1 _ rfl, hc' 2 _ rfl, hc' 3 _ rfl, hc' 4 _ rfl, hc' 5 _ rfl, hc' 6 _ rfl⟩, h1⟩
end Go.Proofs.Ytapdpdhibpblgaa.Nd
namespace Go.Proofs.Ytapdpdhibpblgaa.Law
open Go.ChangeShapes Go.WideShapes Go.ChangeAt Go.RowKit Go.Deep Aid Nt Nd
variable {H : Type} {enc : TypeId × Value → H} {w : World} {r : Reach} {b0 base : Nat} {spare : Nat → Bool} {held : Bool} {v : Value} {d : DataW H} {p : List MemPlace}
set_option maxRecDepth 100000 in
theorem open_nod_cells {cs : List Value} {fuel : Nat} {x : DataW H × List MemPlace} (h7 : cs.length = 7) (hf : DataW.trod enc Try.prog w base spare held fuel 52 cs = some x) :
    ∃ (n : Nod) (a6 : Value), n.level ≤ 9223372036854775807 ∧ cs = (nodCells n a6).toList ∧ Row3 w a6 n.list := by
  obtain ⟨xs, n, -, -, -, hlen, hfl⟩ := DataW.trod_struct Try.underlying52 hf
  obtain ⟨a0, a1, a2, a3, a4, a5, a6, hl⟩ := len7 h7
  subst hl
  obtain ⟨x0, t0⟩ := fld hlen hfl 0 3 0 1 (by kernel_rfl) (by kernel_rfl)
  obtain ⟨x1, t1⟩ := fld hlen hfl 1 3 1 1 (by kernel_rfl) (by kernel_rfl)
  obtain ⟨x2, t2⟩ := fld hlen hfl 2 3 2 1 (by kernel_rfl) (by kernel_rfl)
  obtain ⟨x3, t3⟩ := fld hlen hfl 3 4 3 1 (by kernel_rfl) (by kernel_rfl)
  obtain ⟨x4, t4⟩ := fld hlen hfl 4 9 4 1 (by kernel_rfl) (by kernel_rfl)
  obtain ⟨x5, t5⟩ := fld hlen hfl 5 3 5 1 (by kernel_rfl) (by kernel_rfl)
  obtain ⟨x6, t6⟩ := fld hlen hfl 6 27 6 1 (by kernel_rfl) (by kernel_rfl)
  simp only [List.drop_succ_cons, List.drop_zero, List.take_succ_cons, List.take_zero] at t0 t1 t2 t3 t4 t5 t6
  obtain ⟨n0, e0, -, -⟩ := DataW.trod_int Try.underlying3 t0
  obtain ⟨n1, e1, -, wf1⟩ := DataW.trod_int Try.underlying3 t1
  obtain ⟨n2, e2, -, -⟩ := DataW.trod_int Try.underlying3 t2
  obtain ⟨b3, e3, -⟩ := DataW.trod_bool Try.underlying4 t3
  obtain ⟨s4, e4, -, -⟩ := DataW.trod_string Try.underlying9 t4
  obtain ⟨n5, e5, -, -⟩ := DataW.trod_int Try.underlying3 t5
  simp only [List.cons.injEq, and_true] at e0 e1 e2 e3 e4 e5
  subst e0 e1 e2 e3 e4 e5
  obtain ⟨l4, rfl⟩ := bytes_of s4
  obtain ⟨ls, hls⟩ := open_row3 t6
  refine ⟨⟨n0, n1, n2, b3, l4, n5, ls⟩, a6, ?_, rfl, hls⟩
  show n1 ≤ _
  simp [Lit.wf, IntKind.min, IntKind.max] at wf1
  have h2 := of_decide_eq_true wf1.2
  simp [IntKind.signed, IntKind.bits] at h2
  omega
set_option maxRecDepth 100000 in
theorem open_nod_row (hv : Value.okWide Try.prog w r b0 35 v) (h : DataW.Trod enc Try.prog w base spare held 35 v d p) :
    ∃ (A : Option Addr) (m c : Nat) (L : List Nod), v = .slice A m c ∧ m ≤ maxLen ∧ NodRow w A m L := by
  have ht : Try.prog.underlying 35 = some (.slice 52) := Try.underlying35
  have hC : Try.prog.cellsOf 52 = 7 := by kernel_rfl
  obtain ⟨a0, len, cap, rfl⟩ := okWide_slice ht hv
  obtain ⟨fuel, hf⟩ := h
  rcases open_slice ht hf with ⟨hcs, -⟩ | ⟨a, len', cap', m, n, D, Pl, hcs, -, hl, hm, hmm, -, hi⟩
  · have e : (Value.slice a0 len cap) = .slice none 0 0 := by simpa [Value.cells] using hcs
    cases e
    exact ⟨none, 0, 0, [], rfl, by decide, rfl, fun k r hk => by cases hk⟩
  · have e : (Value.slice a0 len cap) = .slice (some a) len' cap' := by simpa [Value.cells] using hcs
    cases e
    rw [hC] at hi
    have hlm : len ≤ m := by rw [hmm]; split <;> omega
    obtain ⟨L, hll, hq⟩ := list_of (fun i (x : Nod) => ∃ p, x.level ≤ 9223372036854775807 ∧ (∀ j v, (nodCells x p)[j]? = some v → w.cell? (a.add (i * 7 + j)) = some v) ∧ Row3 w p x.list) len (fun i hi' => by
      obtain ⟨cs', hc, ht'⟩ := hi i (by omega)
      obtain ⟨_, hcl, hat⟩ := World.cells?_some hc
      obtain ⟨x, p, h0, rfl, h1⟩ := open_nod_cells hcl ht'
      refine ⟨x, p, h0, fun j v hj => ?_, h1⟩
      have hj7 : j < 7 := by
        have := (Array.getElem?_eq_some_iff.1 hj).1
        exact this
      have h4 := hat j hj7
      rw [← Go.Deep.add_add, h4]
      rw [Array.getElem?_toList]
      exact hj)
    refine ⟨some a, len, cap, L, rfl, by omega, hll, fun k r hk => ?_⟩
    obtain ⟨p, h0, hc, h1⟩ := hq k r hk
    have hk0 : k < L.length := (List.getElem?_eq_some_iff.1 hk).1
    obtain ⟨_, _, hc0, -⟩ := hq 0 _ (List.getElem?_eq_getElem (show 0 < L.length by omega))
    have c0 := hc0 0 _ rfl
    obtain ⟨b, o, spot⟩ := a
    obtain rfl : spot = none := by simpa [Addr.add] using World.cell?_spot c0
    have ha : ∀ i, (⟨b, o, none⟩ : Addr).add i = ⟨b, o + i, none⟩ := fun i => Go.WideShapes.add_plain b o i
    refine ⟨h0, b, o, p, rfl, by rw [ha] at c0; exact cell_lt c0, fun j v hj => ?_, h1⟩
    have := hc j v hj
    rw [ha] at this
    rw [Nat.add_assoc]
    exact this
end Go.Proofs.Ytapdpdhibpblgaa.Law
end

-- joined
section
namespace Go.Proofs.Ytapdpdhibpblgaa.Bk
open Go.ChangeShapes Go.WideShapes Go.ChangeAt Go.RowKit Go.PlainAid Aid Nt Nd Tr
set_option linter.unusedVariables false
set_option linter.unusedSimpArgs false
/-- The changes by which the first nodes come onto a shelf. -/
def chs (L : List Nod) (k : Nat) : List (Int × Nod) := (List.range k).map fun (i : Nat) => ((i : Int), L.getD i Nod.none)
theorem chs_succ (L : List Nod) (k : Nat) : chs L (k + 1) = chs L k ++ [((k : Int), L.getD k Nod.none)] := by
  unfold chs
  rw [List.range_succ, List.map_append]; rfl
theorem chs_at (L : List Nod) : ∀ k, k ≤ 256 → ∀ i, puts T0 (chs L k) i = if i < k then L.getD i Nod.none else Nod.none := by
  intro k
  induction k with
  | zero => intro _ i; rw [if_neg (by omega)]; rfl
  | succ k ih =>
    intro hk i
    rw [chs_succ, puts_snoc]
    unfold putS
    rw [if_pos ⟨by omega, by omega⟩]
    unfold up
    rw [ih (by omega), show ((k : Int)).toNat = k from rfl]
    by_cases e : i = k
    · subst e; rw [if_pos rfl, if_pos (by omega)]
    · rw [if_neg e]
      by_cases h : i < k
      · rw [if_pos h, if_pos (by omega)]
      · rw [if_neg h, if_neg (by omega)]
theorem chs_P {q : Nod → Prop} (h0 : q Nod.none) (L : List Nod) (k : Nat) (hk : k ≤ 256) (h : ∀ i, i < k → q (L.getD i Nod.none)) : ∀ p, p < 256 → q (puts T0 (chs L k) p) := by
  intro p hp
  rw [chs_at L k hk]
  split
  · rename_i x; exact h p x
  · exact h0
theorem chs_node (L : List Nod) (k : Nat) (hk : k ≤ 256) (i : Nat) (hi : i < k) : nodeR (puts T0 (chs L k)) (i : Int) = (0, L.getD i Nod.none) := by
  unfold nodeR at_
  rw [if_pos ⟨by omega, by omega⟩]
  dsimp only
  rw [chs_at L k hk, show ((i : Int)).toNat = i from rfl, if_pos hi]
end Go.Proofs.Ytapdpdhibpblgaa.Bk
end
