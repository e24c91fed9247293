/- Texts of ours, joined. -/
import Derived.Test.YtapdpdhibpblgaaGreatDoorArgs
import Derived.ChangeArms
import Derived.Deep.Strs
import Derived.Test.YtapdpdhibpblgaaGreatDoorNtA
import Derived.Test.YtapdpdhibpblgaaGreatDoorCrC

-- joined
section
namespace Go.Proofs.YtapdpdhibpblgaaGreatDoor.Law
open Go.ChangeShapes Go.WideShapes Go.ChangeAt Go.RowKit Go.Deep Aid
variable {H : Type} {enc : TypeId × Value → H} {P : Program} {w : World} {r : Reach} {b0 base : Nat} {spare : Nat → Bool} {held : Bool} {v : Value} {d : DataW H} {p : List MemPlace}
def ckType (P : Program) (k : CK) (t : TypeId) : Prop := P.underlying t = some (match k with | .num => .int .i64 | .str => .string | .truth => .bool)
theorem ck_trod {k : CK} {t : TypeId} {fuel : Nat} {x : DataW H × List MemPlace} (ht : ckType P k t) (h : DataW.trod enc P w base spare held fuel t [v] = some x) : k.ok v := by
  cases k with
  | num => obtain ⟨n, hn, -, hw⟩ := DataW.trod_int ht h
           exact ⟨n, by simpa using hn, bounds_i64 hw⟩
  | str => obtain ⟨s, hn, -, hw⟩ := DataW.trod_string ht h
           exact ⟨s, by simpa using hn, hw⟩
  | truth => obtain ⟨b, hn, -⟩ := DataW.trod_bool ht h
             exact ⟨b, by simpa using hn⟩
/-- A slice of structs that comes in. -/
theorem open_cell_rows {t e : TypeId} {fs : Array Field} (ks : List CK) (ht : P.underlying t = some (.slice e)) (he : P.underlying e = some (.struct fs)) (hone : oneCellFields P fs = true) (hC : P.cellsOf e = fs.size) (hF : fs.size = ks.length) (h0F : 0 < ks.length)
    (hint : ∀ (j : Nat) (f : Field) (k : CK), fs[j]? = some f → ks[j]? = some k → ckType P k f.type)
    (hv : Value.okWide P w r b0 t v) (h : DataW.Trod enc P w base spare held t v d p) :
    ∃ (A : Option Addr) (m c : Nat) (z : Nat → Nat → Value), v = .slice A m c ∧ m ≤ maxLen ∧ m ≤ c ∧ c ≤ maxLen ∧ CellRows w A m ks z := by
  obtain ⟨a0, len, cap, rfl⟩ := okWide_slice ht hv
  obtain ⟨fuel, hf⟩ := h
  rcases open_slice_fields ht he hone hC hf with ⟨hcs, -⟩ | ⟨a, len', cap', m, D, Pl, hcs, -, hl, hm, hmm, -, hi⟩
  · have e : (Value.slice a0 len cap) = .slice none 0 0 := by simpa [Value.cells] using hcs
    cases e
    exact ⟨none, 0, 0, fun _ _ => undef, rfl, by decide, Nat.le_refl _, by decide, Or.inl rfl⟩
  · have e : (Value.slice a0 len cap) = .slice (some a) len' cap' := by simpa [Value.cells] using hcs
    cases e
    have hlm : len ≤ m := by rw [hmm]; split <;> omega
    have key : ∀ i, i < len → ∀ (j : Nat) (k : CK), ks[j]? = some k → ∃ n, w.cell? (a.add (i * ks.length + j)) = some n ∧ k.ok n := by
      intro i hi' j k hk
      have hj : j < fs.size := by have := (List.getElem?_eq_some_iff.1 hk).1; omega
      obtain ⟨ys, q, -, -, -, hat⟩ := hi i (by omega)
      obtain ⟨v, y, hc, -, ht'⟩ := hat j fs[j] (Array.getElem?_eq_getElem hj)
      rw [hF] at hc
      exact ⟨v, hc, ck_trod (hint j fs[j] k (Array.getElem?_eq_getElem hj) hk) ht'⟩
    let z : Nat → Nat → Value := fun i j => (w.cell? (a.add (i * ks.length + j))).getD undef
    refine ⟨some a, len, cap, z, rfl, by omega, hl, hm, ?_⟩
    by_cases h0 : len = 0
    · exact Or.inl h0
    right
    obtain ⟨n0, c0, -⟩ := key 0 (by omega) 0 ks[0] (List.getElem?_eq_getElem h0F)
    obtain ⟨b, o, spot⟩ := a
    obtain rfl : spot = none := by simpa [Addr.add] using World.cell?_spot c0
    have ha : ∀ i, (⟨b, o, none⟩ : Addr).add i = ⟨b, o + i, none⟩ := fun i => Go.WideShapes.add_plain b o i
    refine ⟨b, o, rfl, ?_, fun i hi j hj => ?_, fun i hi j k hk => ?_⟩
    · rw [ha] at c0; exact cell_lt c0
    · obtain ⟨n, hc, hw⟩ := key i hi j ks[j] (List.getElem?_eq_getElem hj)
      have : z i j = n := by show (w.cell? _).getD undef = n; rw [hc]; rfl
      rw [this, Nat.add_assoc, ← ha]; exact hc
    · obtain ⟨n, hc, hw⟩ := key i hi j k hk
      have : z i j = n := by show (w.cell? _).getD undef = n; rw [hc]; rfl
      rw [this]; exact hw
/-- A slice of strings that comes in. -/
theorem open_str_row {t e : TypeId} (ht : P.underlying t = some (.slice e)) (he : P.underlying e = some .string) (hC : P.cellsOf e = 1)
    (hv : Value.okWide P w r b0 t v) (h : DataW.Trod enc P w base spare held t v d p) :
    ∃ (A : Option Addr) (m c : Nat) (z : Nat → ByteArray), v = .slice A m c ∧ m ≤ maxLen ∧ m ≤ c ∧ c ≤ maxLen ∧ StrRow w A m z := by
  obtain ⟨a0, len, cap, rfl⟩ := okWide_slice ht hv
  obtain ⟨fuel, hf⟩ := h
  rcases open_strs ht he hC hf with ⟨hcs, -⟩ | ⟨a, len', cap', m, Sx, hcs, -, hl, hm, hmm, -, hi⟩
  · have e : (Value.slice a0 len cap) = .slice none 0 0 := by simpa [Value.cells] using hcs
    cases e
    exact ⟨none, 0, 0, fun _ => ⟨#[]⟩, rfl, by decide, Nat.le_refl _, by decide, Or.inl rfl⟩
  · have e : (Value.slice a0 len cap) = .slice (some a) len' cap' := by simpa [Value.cells] using hcs
    cases e
    have hlm : len ≤ m := by rw [hmm]; split <;> omega
    refine ⟨some a, len, cap, Sx, rfl, by omega, hl, hm, ?_⟩
    by_cases h0 : len = 0
    · exact Or.inl h0
    right
    have c0 := (hi 0 (by omega)).1
    obtain ⟨b, o, spot⟩ := a
    obtain rfl : spot = none := by simpa [Addr.add] using World.cell?_spot c0
    have ha : ∀ i, (⟨b, o, none⟩ : Addr).add i = ⟨b, o + i, none⟩ := fun i => Go.WideShapes.add_plain b o i
    refine ⟨b, o, rfl, ?_, fun i hi' => ?_⟩
    · rw [ha] at c0; exact cell_lt c0
    · rw [← ha]; exact hi i (by omega)
/-- A slice of numbers that comes in. -/
theorem open_num_row {t e : TypeId} (ht : P.underlying t = some (.slice e)) (he : P.underlying e = some (.int .i64)) (hC : P.cellsOf e = 1)
    (hv : Value.okWide P w r b0 t v) (h : DataW.Trod enc P w base spare held t v d p) :
    ∃ (A : Option Addr) (m c : Nat) (z : Nat → Int), v = .slice A m c ∧ m ≤ maxLen ∧ m ≤ c ∧ c ≤ maxLen ∧ NumRow w A m z := by
  obtain ⟨A, m, c, z, rfl, hm, h1, h2, h3⟩ := open_nums ht he hC hv h
  exact ⟨A, m, c, z, rfl, hm, h1, h2, h3.imp_right fun ⟨b, o, e, l, g, k⟩ => ⟨b, o, e, l, fun i hi => ⟨g i hi, bounds_i64 (k i hi)⟩⟩⟩
end Go.Proofs.YtapdpdhibpblgaaGreatDoor.Law
end

-- joined
section
namespace Go.Proofs.YtapdpdhibpblgaaGreatDoor.Law
open Go.ChangeShapes Go.WideShapes Go.ChangeAt Go.RowKit Go.Deep Aid Nt
set_option linter.unusedVariables false
variable {H : Type} {enc : TypeId × Value → H} {w : World} {r : Reach} {b0 base : Nat} {spare : Nat → Bool} {held : Bool} {v : Value} {d : DataW H} {p : List MemPlace}
theorem list_of {α : Type} (Q : Nat → α → Prop) (n : Nat) (h : ∀ i, i < n → ∃ x, Q i x) : ∃ l : List α, l.length = n ∧ ∀ (i : Nat) (x : α), l[i]? = some x → Q i x := by
  induction n with
  | zero => exact ⟨[], rfl, fun i x hx => by cases hx⟩
  | succ n ih =>
    obtain ⟨l, hl, hq⟩ := ih (fun i hi => h i (by omega))
    obtain ⟨x, hx⟩ := h n (by omega)
    refine ⟨l ++ [x], by simp [hl], fun i y hy => ?_⟩
    by_cases hi : i < n
    · rw [List.getElem?_append_left (by omega)] at hy; exact hq i y hy
    · rw [List.getElem?_append_right (by omega)] at hy
      have : i - l.length = 0 := by
        have := (List.getElem?_eq_some_iff.1 hy).1; simp at this; omega
      rw [this] at hy
      obtain rfl : i = n := by omega
      simpa using (Option.some.inj hy) ▸ hx
/-- A slice of structs of two cells, as a field. -/
theorem open_row2 {P : Program} {α : Type} (f : α → Value × Value) {t e : TypeId} {fs : Array Field} {fuel : Nat} {v : Value} {x : DataW H × List MemPlace} (ht : P.underlying t = some (.slice e)) (he : P.underlying e = some (.struct fs))
    (hone : oneCellFields P fs = true) (hC : P.cellsOf e = fs.size) (h2 : fs.size = 2) (k1 k2 : CK)
    (hint : ∀ (j : Nat) (f : Field) (k : CK), fs[j]? = some f → [k1, k2][j]? = some k → ckType P k f.type)
    (hf : ∀ a b, k1.ok a → k2.ok b → ∃ x, f x = (a, b))
    (h : DataW.trod enc P w base spare held fuel t [v] = some x) : ∃ l, Row2 f w v l := by
  rcases open_slice_fields ht he hone hC h with ⟨hcs, -⟩ | ⟨a, len', cap', m, D, Pl, hcs, -, hl, hm, hmm, -, hi⟩
  · obtain rfl : v = .slice none 0 0 := by simpa using hcs
    exact ⟨[], Row2.nil f w⟩
  · obtain rfl : v = .slice (some a) len' cap' := by simpa using hcs
    rw [h2] at hi
    have hlm : len' ≤ m := by rw [hmm]; split <;> omega
    obtain ⟨l, hll, hq⟩ := list_of (fun i (x : α) => w.cell? (a.add (i * 2 + 0)) = some (f x).1 ∧ w.cell? (a.add (i * 2 + 1)) = some (f x).2) len' (fun i hi' => by
      obtain ⟨ys, q, -, -, -, hat⟩ := hi i (by omega)
      have hfs0 : fs[0]? = some (fs[0]'(by omega)) := Array.getElem?_eq_getElem _
      have hfs1 : fs[1]? = some (fs[1]'(by omega)) := Array.getElem?_eq_getElem _
      obtain ⟨v0, y0, c0, -, t0⟩ := hat 0 _ hfs0
      obtain ⟨v1, y1, c1, -, t1⟩ := hat 1 _ hfs1
      obtain ⟨x, hx⟩ := hf v0 v1 (ck_trod (hint 0 _ k1 hfs0 rfl) t0) (ck_trod (hint 1 _ k2 hfs1 rfl) t1)
      exact ⟨x, by rw [hx]; exact c0, by rw [hx]; exact c1⟩)
    refine ⟨l, some a, cap', by rw [hll], by omega, ?_⟩
    by_cases h0 : l = []
    · exact Or.inl h0
    right
    have hpos : 0 < l.length := List.length_pos_iff.2 h0
    obtain ⟨c0, -⟩ := hq 0 l[0] (List.getElem?_eq_getElem hpos)
    obtain ⟨b, o, spot⟩ := a
    obtain rfl : spot = none := by simpa [Addr.add] using World.cell?_spot c0
    have ha : ∀ i, (⟨b, o, none⟩ : Addr).add i = ⟨b, o + i, none⟩ := fun i => Go.WideShapes.add_plain b o i
    refine ⟨b, o, rfl, ?_, fun k x hx => ?_⟩
    · rw [ha] at c0; exact cell_lt c0
    · obtain ⟨q0, q1⟩ := hq k x hx
      rw [ha, Nat.add_zero] at q0
      rw [ha] at q1
      exact ⟨q0, by rw [Nat.add_assoc]; exact q1⟩
theorem bytes_of (s : ByteArray) : ∃ l : By, s = ofL l := ⟨s.data.toList, (ofL_back s).symm⟩
theorem len11 {α : Type} {l : List α} (h : l.length = 11) : ∃ a0 a1 a2 a3 a4 a5 a6 a7 a8 a9 a10, l = [a0, a1, a2, a3, a4, a5, a6, a7, a8, a9, a10] := by
  match l, h with
  | [a0, a1, a2, a3, a4, a5, a6, a7, a8, a9, a10], _ => exact ⟨_, _, _, _, _, _, _, _, _, _, _, rfl⟩
theorem fld {P : Program} {fs : Array Field} {cs : List Value} {xs : List (DataW H × List MemPlace)} {n : Nat} (hlen : xs.length = fs.size)
    (hf : ∀ (i : Nat) (f : Field), fs[i]? = some f → DataW.trod enc P w base spare held n f.type ((cs.drop f.offset).take (P.cellsOf f.type)) = xs[i]?) (i : Nat) (t off k : Nat)
    (hi : (fs[i]?).map (fun f => (f.type, f.offset)) = some (t, off)) (hk : P.cellsOf t = k) : ∃ x, DataW.trod enc P w base spare held n t ((cs.drop off).take k) = some x := by
  obtain ⟨f, hf1, hf2⟩ := Option.map_eq_some_iff.1 hi
  simp only [Prod.mk.injEq] at hf2
  obtain ⟨rfl, rfl⟩ := hf2
  have := hf i f hf1
  rw [hk] at this
  have hil : i < xs.length := by have := (Array.getElem?_eq_some_iff.1 hf1).1; omega
  exact ⟨xs[i], by rw [this]; exact List.getElem?_eq_getElem hil⟩
set_option maxRecDepth 100000 in
theorem open_record (hv : Value.okWide Tryz.prog w r b0 50 v) (h : DataW.Trod enc Tryz.prog w base spare held 50 v d p) : ∃ q, RecAt w v q := by
  obtain ⟨cs, rfl, hsz, -⟩ : ∃ cs, v = .agg cs ∧ cs.size = Tryz.prog.cellsOf 50 ∧ True := by
    have := hv
    unfold Value.okWide at this
    rw [Tryz.underlying50] at this
    obtain ⟨cs, h1, h2, -⟩ := this
    exact ⟨cs, h1, h2, trivial⟩
  obtain ⟨fuel, hf⟩ := h
  obtain ⟨xs, n, -, -, -, hlen, hfl⟩ := DataW.trod_struct Tryz.underlying50 hf
  have hc : (Value.agg cs).cells.toList = cs.toList := rfl
  rw [hc] at hfl
  have h11 : cs.toList.length = 11 := by rw [Array.length_toList, hsz]; kernel_rfl
  obtain ⟨a0, a1, a2, a3, a4, a5, a6, a7, a8, a9, a10, hl⟩ := len11 h11
  obtain rfl : cs = #[a0, a1, a2, a3, a4, a5, a6, a7, a8, a9, a10] := by rw [← Array.toList_inj]; exact hl
  obtain ⟨x0, t0⟩ := fld hlen hfl 0 3 0 1 (by kernel_rfl) (by kernel_rfl)
  obtain ⟨x1, t1⟩ := fld hlen hfl 1 3 1 1 (by kernel_rfl) (by kernel_rfl)
  obtain ⟨x2, t2⟩ := fld hlen hfl 2 3 2 1 (by kernel_rfl) (by kernel_rfl)
  obtain ⟨x3, t3⟩ := fld hlen hfl 3 3 3 1 (by kernel_rfl) (by kernel_rfl)
  obtain ⟨x4, t4⟩ := fld hlen hfl 4 44 4 1 (by kernel_rfl) (by kernel_rfl)
  obtain ⟨x5, t5⟩ := fld hlen hfl 5 46 5 4 (by kernel_rfl) (by kernel_rfl)
  obtain ⟨x6, t6⟩ := fld hlen hfl 6 47 9 1 (by kernel_rfl) (by kernel_rfl)
  obtain ⟨x7, t7⟩ := fld hlen hfl 7 48 10 1 (by kernel_rfl) (by kernel_rfl)
  simp only [List.drop_succ_cons, List.drop_zero, List.take_succ_cons, List.take_zero] at t0 t1 t2 t3 t4 t5 t6 t7
  obtain ⟨ys, n', -, -, -, hlen', hfl'⟩ := DataW.trod_struct Tryz.underlying46 t5
  obtain ⟨y0, u0⟩ := fld hlen' hfl' 0 3 0 1 (by kernel_rfl) (by kernel_rfl)
  obtain ⟨y1, u1⟩ := fld hlen' hfl' 1 3 1 1 (by kernel_rfl) (by kernel_rfl)
  obtain ⟨y2, u2⟩ := fld hlen' hfl' 2 9 2 1 (by kernel_rfl) (by kernel_rfl)
  obtain ⟨y3, u3⟩ := fld hlen' hfl' 3 9 3 1 (by kernel_rfl) (by kernel_rfl)
  simp only [List.drop_succ_cons, List.drop_zero, List.take_succ_cons, List.take_zero] at u0 u1 u2 u3
  obtain ⟨n0, e0, -, -⟩ := DataW.trod_int Tryz.underlying3 t0
  obtain ⟨n1, e1, -, -⟩ := DataW.trod_int Tryz.underlying3 t1
  obtain ⟨n2, e2, -, -⟩ := DataW.trod_int Tryz.underlying3 t2
  obtain ⟨n3, e3, -, -⟩ := DataW.trod_int Tryz.underlying3 t3
  obtain ⟨m0, e5, -, -⟩ := DataW.trod_int Tryz.underlying3 u0
  obtain ⟨m1, e6, -, -⟩ := DataW.trod_int Tryz.underlying3 u1
  obtain ⟨s2, e7, -, -⟩ := DataW.trod_string Tryz.underlying9 u2
  obtain ⟨s3, e8, -, -⟩ := DataW.trod_string Tryz.underlying9 u3
  simp only [List.cons.injEq, and_true] at e0 e1 e2 e3 e5 e6 e7 e8
  subst e0 e1 e2 e3 e5 e6 e7 e8
  obtain ⟨l2, rfl⟩ := bytes_of s2
  obtain ⟨l3, rfl⟩ := bytes_of s3
  obtain ⟨pg, hpg⟩ := open_row2 fImg Tryz.underlying44 Tryz.underlying181 (by kernel_rfl) (by kernel_rfl) rfl .num .str (by intro j f k hj hk; match j, hj, hk with | 0, hj, hk => (obtain rfl := Option.some.inj hj; obtain rfl := Option.some.inj hk; exact Tryz.underlying3) | 1, hj, hk => (obtain rfl := Option.some.inj hj; obtain rfl := Option.some.inj hk; exact Tryz.underlying9) | j + 2, hj, hk => cases hj) (by rintro a b ⟨n, rfl, -⟩ ⟨s, rfl, -⟩; obtain ⟨l, rfl⟩ := bytes_of s; exact ⟨(n, l), rfl⟩) t4
  obtain ⟨op, hop⟩ := open_row2 fNum Tryz.underlying47 Tryz.underlying185 (by kernel_rfl) (by kernel_rfl) rfl .num .num (by intro j f k hj hk; match j, hj, hk with | 0, hj, hk | 1, hj, hk => (obtain rfl := Option.some.inj hj; obtain rfl := Option.some.inj hk; exact Tryz.underlying3) | j + 2, hj, hk => cases hj) (by rintro a b ⟨n, rfl, -⟩ ⟨s, rfl, -⟩; exact ⟨(n, s), rfl⟩) t6
  obtain ⟨dt, hdt⟩ := open_row2 fNum Tryz.underlying48 Tryz.underlying72 (by kernel_rfl) (by kernel_rfl) rfl .num .num (by intro j f k hj hk; match j, hj, hk with | 0, hj, hk | 1, hj, hk => (obtain rfl := Option.some.inj hj; obtain rfl := Option.some.inj hk; exact Tryz.underlying3) | j + 2, hj, hk => cases hj) (by rintro a b ⟨n, rfl, -⟩ ⟨s, rfl, -⟩; exact ⟨(n, s), rfl⟩) t7
  exact ⟨⟨n0, n1, n2, n3, pg, ⟨m0, m1, l2, l3⟩, op, dt⟩, a4, a9, a10, rfl, hpg, hop, hdt⟩
end Go.Proofs.YtapdpdhibpblgaaGreatDoor.Law
end

-- joined
section
namespace Go.Proofs.YtapdpdhibpblgaaGreatDoor.Law
open Go.ChangeShapes Go.WideShapes Go.ChangeAt Go.RowKit Go.Deep Aid Nd
set_option linter.unusedVariables false
variable {H : Type} {enc : TypeId × Value → H} {w : World} {r : Reach} {b0 base : Nat} {spare : Nat → Bool} {held : Bool} {v : Value} {d : DataW H} {p : List MemPlace}
theorem len3 {α : Type} {l : List α} (h : l.length = 3) : ∃ a0 a1 a2, l = [a0, a1, a2] := by
  match l, h with
  | [a0, a1, a2], _ => exact ⟨_, _, _, rfl⟩
theorem len7 {α : Type} {l : List α} (h : l.length = 7) : ∃ a0 a1 a2 a3 a4 a5 a6, l = [a0, a1, a2, a3, a4, a5, a6] := by
  match l, h with
  | [a0, a1, a2, a3, a4, a5, a6], _ => exact ⟨_, _, _, _, _, _, _, rfl⟩
/-- A slice of entries, as a field. -/
theorem open_row3 {fuel : Nat} {v : Value} {x : DataW H × List MemPlace} (h : DataW.trod enc Tryz.prog w base spare held fuel 29 [v] = some x) : ∃ l, Row3 w v l := by
  rcases open_slice_fields Tryz.underlying29 Tryz.underlying83 (by kernel_rfl) (by kernel_rfl) h with ⟨hcs, -⟩ | ⟨a, len', cap', m, D, Pl, hcs, -, hl, hm, hmm, -, hi⟩
  · obtain rfl : v = .slice none 0 0 := by simpa using hcs
    exact ⟨[], Row3.nil w⟩
  · obtain rfl : v = .slice (some a) len' cap' := by simpa using hcs
    have hlm : len' ≤ m := by rw [hmm]; split <;> omega
    obtain ⟨l, hll, hq⟩ := list_of (fun i (x : Ent) => w.cell? (a.add (i * 3 + 0)) = some (.string (ofL x.key)) ∧ w.cell? (a.add (i * 3 + 1)) = some (.string (ofL x.val)) ∧ w.cell? (a.add (i * 3 + 2)) = some (.bool x.ghost)) len' (fun i hi' => by
      obtain ⟨ys, q, -, -, -, hat⟩ := hi i (by omega)
      obtain ⟨v0, y0, c0, -, t0⟩ := hat 0 _ rfl
      obtain ⟨v1, y1, c1, -, t1⟩ := hat 1 _ rfl
      obtain ⟨v2, y2, c2, -, t2⟩ := hat 2 _ rfl
      obtain ⟨s0, e0, -⟩ := ck_trod (k := .str) Tryz.underlying9 t0
      obtain ⟨s1, e1, -⟩ := ck_trod (k := .str) Tryz.underlying9 t1
      obtain ⟨b, e2⟩ := ck_trod (k := .truth) Tryz.underlying4 t2
      subst e0 e1 e2
      obtain ⟨l0, rfl⟩ := bytes_of s0
      obtain ⟨l1, rfl⟩ := bytes_of s1
      exact ⟨⟨l0, l1, b⟩, c0, c1, c2⟩)
    refine ⟨l, some a, cap', by rw [hll], by omega, ?_⟩
    by_cases h0 : l = []
    · exact Or.inl h0
    right
    have hpos : 0 < l.length := List.length_pos_iff.2 h0
    obtain ⟨c0, -⟩ := hq 0 l[0] (List.getElem?_eq_getElem hpos)
    obtain ⟨b, o, spot⟩ := a
    obtain rfl : spot = none := by simpa [Addr.add] using World.cell?_spot c0
    have ha : ∀ i, (⟨b, o, none⟩ : Addr).add i = ⟨b, o + i, none⟩ := fun i => Go.WideShapes.add_plain b o i
    refine ⟨b, o, rfl, ?_, fun k x hx => ?_⟩
    · rw [ha] at c0; exact cell_lt c0
    · obtain ⟨q0, q1, q2⟩ := hq k x hx
      rw [ha, Nat.add_zero] at q0
      rw [ha] at q1 q2
      exact ⟨q0, by rw [Nat.add_assoc]; exact q1, by rw [Nat.add_assoc]; exact q2⟩
set_option maxRecDepth 100000 in
theorem open_entry (hv : Value.okWide Tryz.prog w r b0 83 v) (h : DataW.Trod enc Tryz.prog w base spare held 83 v d p) : ∃ e, v = .agg (entCells e) := by
  obtain ⟨cs, rfl, hsz, -⟩ : ∃ cs, v = .agg cs ∧ cs.size = Tryz.prog.cellsOf 83 ∧ True := by
    have := hv
    unfold Value.okWide at this
    rw [Tryz.underlying83] at this
    obtain ⟨cs, h1, h2, -⟩ := this
    exact ⟨cs, h1, h2, trivial⟩
  obtain ⟨fuel, hf⟩ := h
  obtain ⟨xs, n, -, -, -, hlen, hfl⟩ := DataW.trod_struct Tryz.underlying83 hf
  have hc : (Value.agg cs).cells.toList = cs.toList := rfl
  rw [hc] at hfl
  have h3 : cs.toList.length = 3 := by rw [Array.length_toList, hsz]; kernel_rfl
  obtain ⟨a0, a1, a2, hl⟩ := len3 h3
  obtain rfl : cs = #[a0, a1, a2] := by rw [← Array.toList_inj]; exact hl
  obtain ⟨x0, t0⟩ := fld hlen hfl 0 9 0 1 (by kernel_rfl) (by kernel_rfl)
  obtain ⟨x1, t1⟩ := fld hlen hfl 1 9 1 1 (by kernel_rfl) (by kernel_rfl)
  obtain ⟨x2, t2⟩ := fld hlen hfl 2 4 2 1 (by kernel_rfl) (by kernel_rfl)
  simp only [List.drop_succ_cons, List.drop_zero, List.take_succ_cons, List.take_zero] at t0 t1 t2
  obtain ⟨s0, e0, -, -⟩ := DataW.trod_string Tryz.underlying9 t0
  obtain ⟨s1, e1, -, -⟩ := DataW.trod_string Tryz.underlying9 t1
  obtain ⟨b, e2, -⟩ := DataW.trod_bool Tryz.underlying4 t2
  simp only [List.cons.injEq, and_true] at e0 e1 e2
  subst e0 e1 e2
  obtain ⟨l0, rfl⟩ := bytes_of s0
  obtain ⟨l1, rfl⟩ := bytes_of s1
  exact ⟨⟨l0, l1, b⟩, rfl⟩
set_option maxRecDepth 100000 in
theorem open_node (hv : Value.okWide Tryz.prog w r b0 31 v) (h : DataW.Trod enc Tryz.prog w base spare held 31 v d p) : ∃ n, NodAt w v n := by
  obtain ⟨cs, rfl, hsz, -⟩ : ∃ cs, v = .agg cs ∧ cs.size = Tryz.prog.cellsOf 31 ∧ True := by
    have := hv
    unfold Value.okWide at this
    rw [Tryz.underlying31] at this
    obtain ⟨cs, h1, h2, -⟩ := this
    exact ⟨cs, h1, h2, trivial⟩
  obtain ⟨fuel, hf⟩ := h
  obtain ⟨xs, n, -, -, -, hlen, hfl⟩ := DataW.trod_struct Tryz.underlying31 hf
  have hc : (Value.agg cs).cells.toList = cs.toList := rfl
  rw [hc] at hfl
  have h7 : cs.toList.length = 7 := by rw [Array.length_toList, hsz]; kernel_rfl
  obtain ⟨a0, a1, a2, a3, a4, a5, a6, hl⟩ := len7 h7
  obtain rfl : cs = #[a0, a1, a2, a3, a4, a5, a6] := by rw [← Array.toList_inj]; exact hl
  obtain ⟨x0, t0⟩ := fld hlen hfl 0 3 0 1 (by kernel_rfl) (by kernel_rfl)
  obtain ⟨x1, t1⟩ := fld hlen hfl 1 3 1 1 (by kernel_rfl) (by kernel_rfl)
  obtain ⟨x2, t2⟩ := fld hlen hfl 2 3 2 1 (by kernel_rfl) (by kernel_rfl)
  obtain ⟨x3, t3⟩ := fld hlen hfl 3 4 3 1 (by kernel_rfl) (by kernel_rfl)
  obtain ⟨x4, t4⟩ := fld hlen hfl 4 9 4 1 (by kernel_rfl) (by kernel_rfl)
  obtain ⟨x5, t5⟩ := fld hlen hfl 5 3 5 1 (by kernel_rfl) (by kernel_rfl)
  obtain ⟨x6, t6⟩ := fld hlen hfl 6 29 6 1 (by kernel_rfl) (by kernel_rfl)
  simp only [List.drop_succ_cons, List.drop_zero, List.take_succ_cons, List.take_zero] at t0 t1 t2 t3 t4 t5 t6
  obtain ⟨n0, e0, -, -⟩ := DataW.trod_int Tryz.underlying3 t0
  obtain ⟨n1, e1, -, -⟩ := DataW.trod_int Tryz.underlying3 t1
  obtain ⟨n2, e2, -, -⟩ := DataW.trod_int Tryz.underlying3 t2
  obtain ⟨b3, e3, -⟩ := DataW.trod_bool Tryz.underlying4 t3
  obtain ⟨s4, e4, -, -⟩ := DataW.trod_string Tryz.underlying9 t4
  obtain ⟨n5, e5, -, -⟩ := DataW.trod_int Tryz.underlying3 t5
  simp only [List.cons.injEq, and_true] at e0 e1 e2 e3 e4 e5
  subst e0 e1 e2 e3 e4 e5
  obtain ⟨l4, rfl⟩ := bytes_of s4
  obtain ⟨ls, hls⟩ := open_row3 t6
  exact ⟨⟨n0, n1, n2, b3, l4, n5, ls⟩, a6, rfl, hls⟩
end Go.Proofs.YtapdpdhibpblgaaGreatDoor.Law
end
