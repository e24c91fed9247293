/- Texts of ours, joined. -/
import Derived.Test.YthoaangmekkcmaaDyB
import Derived.Test.YthoaangmekkcmaaNdH
import Derived.Test.YthoaangmekkcmaaSep
import Derived.Test.YthoaangmekkcmaaNdV
import Derived.Deep.MidRow

-- joined
section
namespace Go.Proofs.Ythoaangmekkcmaa.Nd
open Go.ChangeShapes Go.WideShapes Go.ChangeAt Go.RowKit Go.PlainAid Aid Cr Nt
set_option linter.unusedVariables false
set_option linter.unusedSimpArgs false
end Go.Proofs.Ythoaangmekkcmaa.Nd
end

-- joined
section
namespace Go.Proofs.Ythoaangmekkcmaa.Aid
open Go.ChangeShapes Go.WideShapes Go.ChangeAt Go.RowKit Go.PlainAid
set_option linter.unusedVariables false
theorem Asn.same {A B : Asn} (h : ∀ w O, A.P w O ↔ B.P w O) : A = B := by
  obtain ⟨P, a, b⟩ := A
  obtain ⟨Q, c, d⟩ := B
  have e : P = Q := by funext w O; exact propext (h w O)
  subst e
  rfl
theorem Asn.comm (A B : Asn) : A * B = B * A := Asn.same fun w O => ⟨sep_comm, sep_comm⟩
theorem Asn.assoc (A B C : Asn) : A * B * C = A * (B * C) := Asn.same fun w O => ⟨sep_assoc, sep_assoc'⟩
instance : Std.Commutative (α := Asn) (· * ·) := ⟨Asn.comm⟩
instance : Std.Associative (α := Asn) (· * ·) := ⟨Asn.assoc⟩
section
variable {w0 w : World} {O0 : Nat → Prop} {A B C D E F : Asn}
theorem Own.re (h : Own w0 O0 w A) (e : A = B) : Own w0 O0 w B := e ▸ h
end
end Go.Proofs.Ythoaangmekkcmaa.Aid
end

-- joined
section
namespace Go.Proofs.Ythoaangmekkcmaa.Bk
open Go.ChangeShapes Go.WideShapes Go.ChangeAt Go.RowKit Go.PlainAid Aid Nt Nd Tr
set_option linter.unusedVariables false
set_option linter.unusedSimpArgs false
set_option linter.unusedSectionVars false
/-- Nodes in a row, each with the value that is its list. -/
def nws (k : Nat) (S : Sf) (V : Nat → Value) : List Value := (List.range k).flatMap fun p => (nodCells (S p) (V p)).toList
theorem flat7_len (l : List Nat) (f : Nat → List Value) (hf : ∀ p, (f p).length = 7) : (l.flatMap f).length = l.length * 7 := by
  induction l with
  | nil => rfl
  | cons a l ih => rw [List.flatMap_cons, List.length_append, ih, hf, List.length_cons]; omega
theorem nws_len (k : Nat) (S : Sf) (V : Nat → Value) : (nws k S V).length = k * 7 := by unfold nws; rw [flat7_len _ _ (fun _ => rfl), List.length_range]
theorem flatMap_at {α β : Type} (f : α → List β) (n : Nat) (hf : ∀ x, (f x).length = n) : ∀ (M : List α) (q j : Nat) (x : α), M[q]? = some x → j < n → (M.flatMap f)[q * n + j]? = (f x)[j]?
  | a :: M, 0, j, x, h, hj => by
    simp only [List.getElem?_cons_zero, Option.some.injEq] at h
    subst h
    rw [List.flatMap_cons, Nat.zero_mul, Nat.zero_add, List.getElem?_append_left (by rw [hf]; exact hj)]
  | a :: M, q + 1, j, x, h, hj => by
    rw [List.flatMap_cons, List.getElem?_append_right (by rw [hf, Nat.add_mul]; omega), hf, show (q + 1) * n + j - n = q * n + j by rw [Nat.add_mul]; omega]
    exact flatMap_at f n hf M q j x (by simpa using h) hj
theorem nws_at (k : Nat) (S : Sf) (V : Nat → Value) (p j : Nat) (hp : p < k) (hj : j < 7) : (nws k S V)[p * 7 + j]? = (nodCells (S p) (V p))[j]? := by
  unfold nws
  rw [flatMap_at _ 7 (fun _ => rfl) (List.range k) p j p (by rw [List.getElem?_range hp]) hj, Array.getElem?_toList]
/-- Another node of a page. -/
def up {α : Type} (f : Nat → α) (p : Nat) (a : α) : Nat → α := fun q => if q = p then a else f q
theorem up_same {α : Type} (f : Nat → α) (p : Nat) (a : α) : up f p a p = a := if_pos rfl
theorem up_other {α : Type} (f : Nat → α) (p q : Nat) (a : α) (h : q ≠ p) : up f p a q = f q := if_neg h
/-- The lists of the pages, each somebody's. -/
def aRows (S : Sf) (V : Nat → Value) : Asn :=
  ⟨fun w O => (∀ p, p < 256 → Vec w 44 3 (V p) (S p).list.length (cells3 (S p).list) ∧ ∀ k, VB (V p) k → O k) ∧ ∀ k, O k → k < w.heap.size,
   fun w O h => h.2,
   fun w w' O T h hc hS => ⟨fun p hp => ⟨(h.1 p hp).1.keep hc (fun k hk => hS k ((h.1 p hp).2 k hk)), (h.1 p hp).2⟩, fun k hk => Nat.lt_of_lt_of_le (h.2 k hk) hc.size⟩⟩
/-- The shelf. -/
def aSf (gs : Nat) (S : Sf) (V : Nat → Value) : Asn := Asn.vec 120 7 (.slice (some ⟨gs, 0, none⟩) 256 256) 256 (nws 256 S V) * aRows S V
def sPtr (g : Nat) : Value := .pointer (some ⟨g, 0, none⟩)
theorem sf_seven {w0 w : World} {O0 : Nat → Prop} {gs : Nat} {S : Sf} {V : Nat → Value} {C : Asn} (h : Own w0 O0 w (aSf gs S V * C)) (p : Nat) (hp : p < 256) :
    w.cell? ⟨gs, p * 7, none⟩ = some (.int .i64 (S p).tree) ∧ w.cell? ⟨gs, p * 7 + 1, none⟩ = some (.int .i64 (S p).level) ∧ w.cell? ⟨gs, p * 7 + 2, none⟩ = some (.int .i64 (S p).stamp) ∧ w.cell? ⟨gs, p * 7 + 3, none⟩ = some (.bool (S p).has) ∧ w.cell? ⟨gs, p * 7 + 4, none⟩ = some (.string (ofL (S p).high)) ∧ w.cell? ⟨gs, p * 7 + 5, none⟩ = some (.int .i64 (S p).right) ∧ w.cell? ⟨gs, p * 7 + 6, none⟩ = some (V p) := by
  have hv := (h.re (show _ = Asn.vec 120 7 (.slice (some ⟨gs, 0, none⟩) 256 256) 256 (nws 256 S V) * (aRows S V * C) by unfold aSf; ac_rfl)).vec
  have ha := fun j hj => nws_at 256 S V p j hp hj
  exact ⟨hv.cell (j := p * 7 + 0) (ha 0 (by decide)), hv.cell (ha 1 (by decide)), hv.cell (ha 2 (by decide)), hv.cell (ha 3 (by decide)), hv.cell (ha 4 (by decide)), hv.cell (ha 5 (by decide)), hv.cell (ha 6 (by decide))⟩
theorem sf_row {w0 w : World} {O0 : Nat → Prop} {gs : Nat} {S : Sf} {V : Nat → Value} {C : Asn} (h : Own w0 O0 w (aSf gs S V * C)) (p : Nat) (hp : p < 256) : Row3 w (V p) (S p).list := by
  obtain ⟨O, ⟨X, Y, ⟨X1, X2, h1, h2, -⟩, -⟩, -⟩ := h.ex
  exact Row3.of_vec (h2.1 p hp).1
set_option maxRecDepth 100000 in
set_option maxHeartbeats 2000000 in
theorem alone_any (n : Nod) (p : Value) (w : World) (h : Row3 w p n.list) (hl : n.list.length ≤ 100000) :
    Calls Try.prog 51 #[.agg (nodCells n p)] w fun e w' => ∃ p', e = .returned (.agg (nodCells n p')) ∧ Own w No w' (Asn.vec 44 3 p' n.list.length (cells3 n.list)) := by
  have S := Lib.hid ((Own.none w).alloc (nodCells n p) 52)
  have HC := Lib.hid (fun W (hb : Below w.heap.size w W) => clone_ents p n.list W (h.keep hb) hl)
  unfold nodCells at *
  clear h
  go_enter Try.func51, Try.ntmps51
  have S2 := Lib.hid (S.out.alloc #[.int .i64 0, .int .i64 0, .int .i64 0, .bool false, .string ⟨#[]⟩, .int .i64 0, .slice none 0 0] 52)
  clear S
  go_wp2_with fail
  refine (HC.out _ S2.out.bel).mono ?_
  rintro e w3 ⟨p', rfl, hX⟩
  have T := Lib.hid (own_join S2.out hX)
  clear hX S2 HC
  obtain ⟨A', c', rfl⟩ := T.out.vec.slice
  have hsz : (w.alloc (.cells #[.int .i64 n.tree, .int .i64 n.level, .int .i64 n.stamp, .bool n.has, .string (ofL n.high), .int .i64 n.right, p] 52)).heap.size = w.heap.size + 1 := by simp
  rw [hsz] at T
  clear hsz
  generalize w.heap.size = g at *
  obtain ⟨⟨c0, c1, c2, c3, c4, c5, c6⟩, f0, f1, f2, f3, f4, f5, f6⟩ := seven7 (T.out.has (Has.r (Has.r (Has.l (has_blk _ _ _)))))
  obtain ⟨⟨d0, d1, d2, d3, d4, d5, d6⟩, k0, k1, k2, k3, k4, k5, k6⟩ := seven7 (T.out.has (Has.r (Has.l (has_blk _ _ _))))
  go_wp2_with fail
  have T2 := Lib.hid (own_seven (own_front (T.out.set (Sets.r (Sets.r (Sets.l (sets_blk g 52 _ 6 (.slice A' n.list.length c'))))))) (.int .i64 n.tree) (.int .i64 n.level) (.int .i64 n.stamp) (.bool n.has) (.string (ofL n.high)) (.int .i64 n.right) (.slice A' n.list.length c'))
  clear T c0 c1 c2 c3 c4 c5 c6 d0 d1 d2 d3 d4 d5 d6 f0 f1 f2 f3 f4 f5 f6 k0 k1 k2 k3 k4 k5 k6
  generalize World.setCell (World.setCell (World.setCell (World.setCell (World.setCell (World.setCell (World.setCell (World.setCell w3 _ _) _ _) _ _) _ _) _ _) _ _) _ _) _ _ = w4 at *
  obtain ⟨⟨c0, c1, c2, c3, c4, c5, c6⟩, -⟩ := seven7 (T2.out.has (Has.l (has_blk _ _ _)))
  exact bodyPost_ret (v := .agg #[.int .i64 n.tree, .int .i64 n.level, .int .i64 n.stamp, .bool n.has, .string (ofL n.high), .int .i64 n.right, .slice A' n.list.length c']) (by simp [results, Try.results51, go_sem, c0, c1, c2, c3, c4, c5, c6]) rfl ⟨_, rfl, T2.out.right.left⟩
end Go.Proofs.Ythoaangmekkcmaa.Bk
end

-- joined
section
namespace Go.Proofs.Ythoaangmekkcmaa.Bk
open Go.ChangeShapes Go.WideShapes Go.ChangeAt Go.RowKit Go.PlainAid Aid Nt Nd Tr
set_option linter.unusedVariables false
set_option linter.unusedSimpArgs false
set_option linter.unusedSectionVars false
def Small (S : Sf) : Prop := ∀ p, p < 256 → (S p).list.length ≤ 100000
section
variable (gs : Nat) (S : Sf) (V : Nat → Value)
theorem own_7 {w0 w : World} {O0 : Nat → Prop} {A : Asn} {g : Nat} {T : TypeId} {a0 a1 a2 a3 a4 a5 a6 : Value} (h : Own w0 O0 w (Asn.blk g T #[a0, a1, a2, a3, a4, a5, a6] * A)) (b0 b1 b2 b3 b4 b5 b6 : Value) :
    Own w0 O0 (((((((w.setCell ⟨g, 0, none⟩ b0).setCell ⟨g, 1, none⟩ b1).setCell ⟨g, 2, none⟩ b2).setCell ⟨g, 3, none⟩ b3).setCell ⟨g, 4, none⟩ b4).setCell ⟨g, 5, none⟩ b5).setCell ⟨g, 6, none⟩ b6) (Asn.blk g T #[b0, b1, b2, b3, b4, b5, b6] * A) := by
  have := ((((((h.set (Sets.l (sets_blk g T _ 0 b0))).set (Sets.l (sets_blk g T _ 1 b1))).set (Sets.l (sets_blk g T _ 2 b2))).set (Sets.l (sets_blk g T _ 3 b3))).set (Sets.l (sets_blk g T _ 4 b4))).set (Sets.l (sets_blk g T _ 5 b5))).set (Sets.l (sets_blk g T _ 6 b6))
  simpa only [List.setIfInBounds_toArray, List.set_cons_zero, List.set_cons_succ] using this
set_option maxRecDepth 100000 in
set_option maxHeartbeats 8000000 in
theorem store7 {w : World} {g : Nat} {a0 a1 a2 a3 a4 a5 a6 : Value} (h : Blk w g 52 #[a0, a1, a2, a3, a4, a5, a6]) (b0 b1 b2 b5 : Int) (b3 : Bool) (b4 : ByteArray) (A : Option Addr) (m c : Nat) :
    (Instr.storeAt 52 (.pointer (some ⟨g, 0, none⟩)) (.agg #[.int .i64 b0, .int .i64 b1, .int .i64 b2, .bool b3, .string b4, .int .i64 b5, .slice A m c])).run Try.prog w =
      .ok () (((((((w.setCell ⟨g, 0, none⟩ (.int .i64 b0)).setCell ⟨g, 1, none⟩ (.int .i64 b1)).setCell ⟨g, 2, none⟩ (.int .i64 b2)).setCell ⟨g, 3, none⟩ (.bool b3)).setCell ⟨g, 4, none⟩ (.string b4)).setCell ⟨g, 5, none⟩ (.int .i64 b5)).setCell ⟨g, 6, none⟩ (.slice A m c)) := by
  obtain ⟨⟨d0, d1, d2, d3, d4, d5, d6⟩, f0, f1, f2, f3, f4, f5, f6⟩ := seven h
  clear h
  go_simp
set_option maxRecDepth 100000 in
set_option maxHeartbeats 8000000 in
theorem res7 {fn : Func} {x y : Nat} {tm : Array Value} {w : World} {g : Nat} {a0 a1 a2 a3 a4 a5 a6 v1 : Value} (hf : fn.results = #[.cell x 52, .tmp y]) (hx : tm[x]?.getD undef = .pointer (some ⟨g, 0, none⟩)) (hy : tm[y]?.getD undef = v1)
    (hB : Blk w g 52 #[a0, a1, a2, a3, a4, a5, a6]) : (results fn tm).run Try.prog w = .ok (.tuple #[.agg #[a0, a1, a2, a3, a4, a5, a6], v1]) w := by
  obtain ⟨⟨c0, c1, c2, c3, c4, c5, c6⟩, -⟩ := seven hB
  clear hB
  unfold results
  rw [hf]
  simp [go_sem, hx, hy, c0, c1, c2, c3, c4, c5, c6]
theorem step_store {P : Program} {ops : Array Oper} {rest : List Oper} {o : Oper} {a : Act} {Q : Exit → Act → World → Prop} {w : World} (hgd : o.guard = none) (hd : o.dst = none) (p x : Operand) (t : TypeId) (ho : o.op = .store t p x)
    (pv xv : Value) (hp : a.eval p = pv) (hx : a.eval x = xv) (w' : World) (hr : (Instr.storeAt t pv xv).run P w = .ok () w') (h : wpList P ops Q rest a w') : wpList P ops Q (o :: rest) a w := by
  refine wpList_plain hgd fun K hK => ?_
  unfold Oper.wp execOp
  subst hp hx
  simp only [ho, Sem.run_bind, Sem.run_pure, Result.andThen_ok, hr]
  rw [Oper.upon_skip, hd]
  exact hK _ _ h
/-- What Node answers. -/
def nodeR (p : Int) : Nat × Nod := match at_ S p with
  | some n => (0, n)
  | none => (1, Nod.none)
set_option maxRecDepth 100000 in
set_option maxHeartbeats 4000000 in
theorem Node_any (hs : Small S) (p : Int) (w0 w : World) (C : Asn) (hS : Own w0 No w (aSf gs S V * C)) :
    Calls Try.prog 34 #[sPtr gs, .int .i64 p] w fun e w' => ∃ v, e = .returned (.tuple #[.agg (nodCells (nodeR S p).2 v), .int .i64 (nodeR S p).1]) ∧ Own w0 No w' (aEnts (nodeR S p).2 v * (aSf gs S V * C)) := by
  have S0 := Lib.hid (hS.alloc zero7 52)
  by_cases hp : 0 ≤ p ∧ p < 256
  · obtain ⟨q, rfl, hq⟩ : ∃ q : Nat, p = q ∧ q < 256 := ⟨p.toNat, by omega, by omega⟩
    have hr : nodeR S (q : Int) = (0, S q) := by unfold nodeR at_; rw [if_pos hp]; rfl
    rw [hr]
    dsimp only
    have hi1 : (q : Int) < 256 := by omega
    obtain ⟨q0, q1, q2, q3, q4, q5, q6⟩ := sf_seven hS q hq
    have hrow := sf_row hS q hq
    obtain ⟨AV, cV, hV⟩ := hrow.slice
    have HA := Lib.hid (fun W (hb : Below w.heap.size w W) => alone_any (S q) (V q) W (hrow.keep hb) (hs q hq))
    have hsl := fun W (hW : Own w0 No W (aSf gs S V * C)) => sf_seven hW q hq
    rw [hV] at q6
    simp only [hV] at HA hsl
    unfold nodCells zero7 at *
    clear hr hp hrow hV
    have HB : Hid (Below w.heap.size w (w.alloc (.cells #[.int .i64 0, .int .i64 0, .int .i64 0, .bool false, .string ⟨#[]⟩, .int .i64 0, .slice none 0 0] 52))) := Lib.hid (blA (Below.refl _ _) _)
    clear hS
    go_enter Try.func34, Try.ntmps34
    unfold sPtr
    go_upto_region 1 with fail
    obtain ⟨g4, hgz⟩ : ∃ g, g = w.heap.size := ⟨_, rfl⟩
    have HG := Lib.hid hgz
    rw [← hgz] at S0 ⊢
    clear hgz q0 q1 q2 q3 q4 q5 q6
    generalize w.alloc _ = w1 at *
    obtain ⟨q0, q1, q2, q3, q4, q5, q6⟩ := hsl _ S0.out.right
    go_wp2_with fail
    refine (HA.out _ HB.out).mono ?_
    rintro e w2 ⟨v, rfl, hX⟩
    obtain ⟨A2, c2, rfl⟩ := (show Own w1 No w2 (Asn.vec 44 3 v (S q).list.length (cells3 (S q).list) * Asn.emp) from hX.addEmp).vec.slice
    have S1 := Lib.hid (own_front (own_join S0.out hX))
    clear hX S0 HA hsl q0 q1 q2 q3 q4 q5 q6
    have HST := Lib.hid (store7 (S1.out.has (Has.l (has_blk _ _ _))) (S q).tree (S q).level (S q).stamp (S q).right (S q).has (ofL (S q).high) A2 (S q).list.length c2)
    have S2 := Lib.hid (own_7 S1.out (.int .i64 (S q).tree) (.int .i64 (S q).level) (.int .i64 (S q).stamp) (.bool (S q).has) (.string (ofL (S q).high)) (.int .i64 (S q).right) (.slice A2 (S q).list.length c2))
    clear S1
    go_wp2_with (with_reducible refine step_store rfl rfl (.tmp 4) (.tmp 22) 52 rfl (.pointer (some ⟨g4, 0, none⟩)) (.agg #[.int .i64 (S q).tree, .int .i64 (S q).level, .int .i64 (S q).stamp, .bool (S q).has, .string (ofL (S q).high), .int .i64 (S q).right, .slice A2 (S q).list.length c2]) ?c1 ?c2 _ HST.out ?_)
    try (case c1 => rfl)
    try (case c2 => rfl)
    exact bodyPost_ret (res7 rfl rfl rfl (S2.out.has (Has.l (has_blk _ _ _)))) rfl ⟨.slice A2 (S q).list.length c2, rfl, S2.out.right⟩
  · have hr : nodeR S p = (1, Nod.none) := by unfold nodeR at_; rw [if_neg hp]
    rw [hr]
    dsimp only
    have fin : ∀ W, Own w0 No W (Asn.blk w.heap.size 52 zero7 * (aSf gs S V * C)) → Own w0 No W (aEnts Nod.none (.slice none 0 0) * (aSf gs S V * C)) := fun W h => none_ents h.right
    unfold zero7 at *
    by_cases h0 : 0 ≤ p
    · have d1 : decide (p < 0) = false := decide_eq_false (by omega)
      have d2 : decide ((256 : Int) ≤ p) = true := decide_eq_true (by omega)
      clear hS hr hp
      go_enter Try.func34, Try.ntmps34
      unfold sPtr
      go_wp2_with fail
      exact bodyPost_ret (res7 rfl rfl rfl (S0.out.has (Has.l (has_blk _ _ _)))) rfl ⟨.slice none 0 0, rfl, fin _ S0.out⟩
    · have d1 : decide (p < 0) = true := decide_eq_true (by omega)
      clear hS hr hp
      go_enter Try.func34, Try.ntmps34
      unfold sPtr
      go_wp2_with fail
      exact bodyPost_ret (res7 rfl rfl rfl (S0.out.has (Has.l (has_blk _ _ _)))) rfl ⟨.slice none 0 0, rfl, fin _ S0.out⟩
end
end Go.Proofs.Ythoaangmekkcmaa.Bk
end
