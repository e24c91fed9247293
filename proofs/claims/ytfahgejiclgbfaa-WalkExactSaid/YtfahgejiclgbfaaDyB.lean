/- Texts of ours, joined. -/
import Derived.Test.YtfahgejiclgbfaaTrP
import Derived.Test.YtfahgejiclgbfaaMnB
import Derived.Test.YtfahgejiclgbfaaNtH
import Derived.Test.YtfahgejiclgbfaaNtA
import Derived.Test.YtfahgejiclgbfaaNdV

-- joined
section
namespace Go.Proofs.Ytfahgejiclgbfaa.Nt
open Go.ChangeShapes Go.WideShapes Go.ChangeAt Go.RowKit Go.PlainAid Aid
set_option linter.unusedVariables false
set_option linter.unusedSimpArgs false
def lgRow (gr : Nat) (v : Value) (held : Nat) : Array Value := #[.pointer (some ⟨gr, 0, none⟩), v, .int .i64 held]
def cmpI (a b : Int) : Int := if a < b then -1 else if b < a then 1 else 0
theorem spot_ex (L : List Rec) (x : Int) (m : Nat) (hm : m ≤ L.length) : ∃ i, i ≤ m ∧ (∀ k, k < i → (at_ L k : Int) < x) ∧ ∀ k, i ≤ k → k < m → x ≤ at_ L k := by
  induction m with
  | zero => exact ⟨0, Nat.le_refl _, fun k h => by omega, fun k _ h => by omega⟩
  | succ m ih =>
    obtain ⟨i, h1, h2, h3⟩ := ih (by omega)
    by_cases h : x ≤ at_ L m
    · refine ⟨i, by omega, h2, fun k hk hk2 => ?_⟩
      rcases Nat.lt_or_ge k m with h4 | h4
      · exact h3 k hk h4
      · obtain rfl : k = m := by omega
        exact h
    · refine ⟨m + 1, Nat.le_refl _, fun k hk => ?_, fun k _ _ => by omega⟩
      have := at_le L (show k ≤ m by omega) (by omega)
      omega
theorem few_recs (L : List Rec) : L.length * 8 ≤ (flat L).length := by
  induction L with
  | nil => exact Nat.zero_le _
  | cons r L ih =>
    rw [flat_cons, List.length_append, List.length_cons]
    have := bytes_pos r
    omega
def wrV (a : Nat) (r : Rec) : Value := .agg #[.int .i64 a, .string (ofL (bytes r))]
/-- A log's own. -/
def lPtr (g : Nat) : Value := .pointer (some ⟨g, 0, none⟩)
def noWr : Array Value := #[.int .i64 0, .string ⟨#[]⟩]
theorem own_two {w0 w : World} {O0 : Nat → Prop} {A : Asn} {g : Nat} {T : TypeId} {a b : Value} (h : Own w0 O0 w (Asn.blk g T #[a, b] * A)) (c d : Value) :
    Own w0 O0 ((w.setCell ⟨g, 0, none⟩ c).setCell ⟨g, 1, none⟩ d) (Asn.blk g T #[c, d] * A) :=
  set_l (set_l h 0 c #[c, b] rfl) 1 d #[c, d] rfl
end Go.Proofs.Ytfahgejiclgbfaa.Nt
end

-- joined
section
namespace Go.Proofs.Ytfahgejiclgbfaa.Nt
open Go.ChangeShapes Go.WideShapes Go.ChangeAt Go.RowKit Go.PlainAid Aid Cr
set_option linter.unusedVariables false
set_option linter.unusedSimpArgs false
theorem rb_ownO {w W W' : World} {O : Nat → Prop} {A : Asn} (hb : Below W.heap.size W W') (h : Hid (Own w O W A)) : Hid (Own w O W' A) := Lib.hid (h.out.below hb)
section
variable (g gr m size : Nat) (v : Value) (L : List Rec) (safe held : Nat)
end
end Go.Proofs.Ytfahgejiclgbfaa.Nt
end

-- joined
section
namespace Go.Proofs.Ytfahgejiclgbfaa.Nt
open Go.ChangeShapes Go.WideShapes Go.ChangeAt Go.RowKit Go.PlainAid Aid Cr
set_option linter.unusedVariables false
set_option linter.unusedSimpArgs false
section
variable (g gr m size : Nat) (v : Value) (L : List Rec) (safe held : Nat)
end
end Go.Proofs.Ytfahgejiclgbfaa.Nt
end

-- joined
section
namespace Go.Proofs.Ytfahgejiclgbfaa.Nt
open Go.ChangeShapes Go.WideShapes Go.ChangeAt Go.RowKit Go.PlainAid Aid Cr
set_option linter.unusedVariables false
set_option linter.unusedSimpArgs false
def nilQ : Value × Value × Value := (.slice none 0 0, .slice none 0 0, .slice none 0 0)
def recV (r : Rec) (q : Value × Value × Value) : Value := .agg (recCells r q.1 q.2.1 q.2.2)
end Go.Proofs.Ytfahgejiclgbfaa.Nt
end

-- joined
section
namespace Go.Proofs.Ytfahgejiclgbfaa.Nt
open Go.ChangeShapes Go.WideShapes Go.ChangeAt Go.RowKit Go.PlainAid Aid Cr
set_option linter.unusedVariables false
set_option linter.unusedSimpArgs false
section
variable (g gr m size : Nat) (v : Value) (L : List Rec) (safe held : Nat)
theorem own_front {w0 w : World} {O0 : Nat → Prop} {A B C : Asn} (h : Own w0 O0 w (A * (B * C))) : Own w0 O0 w (B * (A * C)) := (h.assoc'.imp (Imp.l (fun _ _ => sep_comm))).assoc
theorem ofL_app (a b : By) : ofL a ++ ofL b = ofL (a ++ b) := by
  apply list_inj; rw [ByteArray.data_append, Array.toList_append]; rfl
section
variable {w0 w : World} {O0 : Nat → Prop} {A B C R M V : Asn}
theorem own_rm (h : Own w0 O0 w ((B * R) * (M * C))) : Own w0 O0 w ((R * M) * (B * C)) := own_front (h.assoc.imp (Imp.r (fun _ _ => sep_assoc')))
theorem own_mr (h : Own w0 O0 w ((R * M) * (B * C))) : Own w0 O0 w ((B * R) * (M * C)) := ((own_front h).imp (Imp.r (fun _ _ => sep_assoc))).assoc'
theorem own_vf (h : Own w0 O0 w (R * ((B * V) * C))) : Own w0 O0 w (V * (B * (C * R))) := (h.comm.assoc.imp (Imp.l (fun _ _ => sep_comm))).assoc
theorem own_fv (h : Own w0 O0 w (V * (B * (C * R)))) : Own w0 O0 w (R * ((B * V) * C)) := ((h.assoc'.imp (Imp.l (fun _ _ => sep_comm))).assoc').comm
end
theorem own_join {w0 w w' : World} {O0 : Nat → Prop} {A B : Asn} (h : Own w0 O0 w A) (k : Own w No w' B) : Own w0 O0 w' (B * A) :=
  h.then fun O hO => k.frame hO (fun _ h => h.elim) (fun _ => ⟨Or.inr, fun h => h.elim (fun x => x.elim) id⟩)
end
end Go.Proofs.Ytfahgejiclgbfaa.Nt
end

-- joined
section
namespace Go.Proofs.Ytfahgejiclgbfaa.Tr
open Go.ChangeShapes Go.WideShapes Go.ChangeAt Go.RowKit Go.PlainAid Aid Nt Nd
set_option linter.unusedVariables false
set_option linter.unusedSimpArgs false
theorem vecChg {w0 w w' : World} {O0 : Nat → Prop} {C : Asn} {e : TypeId} {size n n' : Nat} {v v' : Value} {xs xs' : List Value} (h : Own w0 O0 w (Asn.vec e size v n xs * C)) (h1 : Vec w' e size v' n' xs') (h2 : Chg (VB v) w w') (h3 : Fresh w (VB v) (VB v')) : Own w0 O0 w' (Asn.vec e size v' n' xs' * C) :=
  h.then fun O ⟨X, Y, hX, hC, hd, hO⟩ => (show Own w X w' (Asn.vec e size v' n' xs') from ⟨⟨VB v', ⟨h1, fun _ => Iff.rfl⟩, fun k hk => (h3 k hk).imp (fun x => (hX.2 k).2 x) id⟩, h2.mono (fun i _ hi => (hX.2 i).2 hi)⟩).frame hC hd hO
theorem ents_len (l : List Ent) : (cells3 l).length = l.length * 3 := by
  unfold cells3
  induction l with
  | nil => rfl
  | cons a l ih => rw [List.flatMap_cons, List.length_append, ih, List.length_cons]; simp only [List.length_cons, List.length_nil]; omega
theorem ents_one (l : List Ent) : ∀ v ∈ cells3 l, v.oneCell' = true := by
  intro v hv
  unfold cells3 at hv
  obtain ⟨x, -, hx⟩ := List.mem_flatMap.1 hv
  simp only [List.mem_cons, List.not_mem_nil, or_false] at hx
  rcases hx with rfl | rfl | rfl <;> rfl
theorem ents_src {w W : World} {A : Option Addr} {m c : Nat} {l : List Ent} (h : Row3 w (.slice A m c) l) (hb : Below w.heap.size w W) : l = [] ∨ ∃ a, A = some a ∧ ∀ j u, (cells3 l)[j]? = some u → W.cell? (a.add j) = some u := by
  obtain ⟨A', c', hv, hm, h9⟩ := h.keep hb
  clear h
  cases hv
  rcases h9 with rfl | ⟨b, o, rfl, hl, hc⟩
  · exact Or.inl rfl
  · refine Or.inr ⟨_, rfl, fun j u hj => ?_⟩
    have hlt : j < l.length * 3 := by rw [← ents_len]; exact (List.getElem?_eq_some_iff.1 hj).1
    obtain ⟨x, hx⟩ : ∃ x, l[j / 3]? = some x := ⟨l[j / 3]'(by omega), List.getElem?_eq_getElem _⟩
    obtain ⟨c0, c1, c2⟩ := hc _ _ hx
    have hf := flatMap_at (fun x : Ent => [Value.string (ofL x.key), .string (ofL x.val), .bool x.ghost]) 3 (fun _ => rfl) l (j / 3) (j % 3) x hx (Nat.mod_lt _ (by decide))
    rw [show j / 3 * 3 + j % 3 = j by omega] at hf
    unfold cells3 at hj
    rw [hj] at hf
    rw [Addr.add_lit]
    have h3 : j % 3 = 0 ∨ j % 3 = 1 ∨ j % 3 = 2 := by omega
    rcases h3 with h3 | h3 | h3
    · rw [h3] at hf
      simp only [List.getElem?_cons_zero, Option.some.injEq] at hf
      rw [hf, ← c0]; congr 2; omega
    · rw [h3] at hf
      simp only [List.getElem?_cons_succ, List.getElem?_cons_zero, Option.some.injEq] at hf
      rw [hf, ← c1]; congr 2; omega
    · rw [h3] at hf
      simp only [List.getElem?_cons_succ, List.getElem?_cons_zero, Option.some.injEq] at hf
      rw [hf, ← c2]; congr 2; omega
set_option maxRecDepth 100000 in
set_option maxHeartbeats 2000000 in
theorem clone_ents (p : Value) (l : List Ent) (w : World) (h : Row3 w p l) (hl : l.length ≤ 100000) :
    Calls Try.prog 50 #[p] w fun e w' => ∃ p', e = .returned p' ∧ Own w No w' (Asn.vec 44 3 p' l.length (cells3 l)) := by
  obtain ⟨A, c, rfl⟩ := h.slice
  have hq := fun (a : Option Addr) (n c : Nat) (w : World) => Lib.run_eql_slice_nil (P := Try.prog) w 27 44 a n c 0 0 Try.underlying27
  cases A with
  | none =>
    have hq1 : ∀ w, _ := fun w => hq none 0 c w
    simp only [Option.isNone_none] at hq1
    clear hq
    obtain ⟨A', c', hv, -, h2⟩ := h
    cases hv
    have hnil : l = [] := by
      rcases h2 with h2 | ⟨b, o, h2, -⟩
      · exact h2
      · cases h2
    subst hnil
    go_enter Try.func50, Try.ntmps50
    go_wp2_with fail
    go_returns
    exact ⟨_, rfl, ((Own.none w).nilVec _ _).left⟩
  | some a =>
    have hq1 : ∀ w, _ := fun w => hq (some a) l.length c w
    simp only [Option.isNone_some] at hq1
    clear hq
    obtain ⟨W1, hW1⟩ : ∃ W1, W1 = w.alloc (.cells #[] 44) := ⟨_, rfl⟩
    have hb1 : Below w.heap.size w W1 := by rw [hW1]; exact blA (Below.refl _ _) _
    have hown : Vec W1 44 3 (.slice (some ⟨w.heap.size, 0, none⟩) 0 0) 0 [] := Vec.built [] (by rw [hW1]; exact heap_alloc_new w _) (Nat.le_refl _) (Nat.zero_le _) rfl rfl
    have hsrc : Src Try.prog 3 27 (.slice (some a) l.length c) l.length (cells3 l) W1 := Src.ofSlice W1 Try.underlying27 a l.length c (cells3 l) (ents_len l) (by
      rcases ents_src h hb1 with rfl | ⟨a', ha, hc⟩
      · intro j u hj; cases hj
      · cases ha; exact hc) (ents_one l)
    have HO := Lib.hid hown
    have HS := Lib.hid hsrc
    have HB := Lib.hid hb1
    clear h hown hsrc hb1
    subst hW1
    go_enter Try.func50, Try.ntmps50
    go_wp2_with (at_builtin; refine wpList_append_vec rfl _ _ 27 27 rfl 44 _ 3 40 Try.underlying27 infoEnt (by kernel_rfl) (by decide) (.slice (some ⟨w.heap.size, 0, none⟩) 0 0) 0 [] rfl HO.out _ rfl l.length (cells3 l) HS.out (by unfold maxLen; omega) (by omega) ?_; intro v' w' h1 h2 h3)
    go_returns
    have hS : Own w No (w.alloc (.cells #[] 44)) (Asn.vec 44 3 (.slice (some ⟨w.heap.size, 0, none⟩) 0 0) 0 []) := ⟨⟨VB (.slice (some ⟨w.heap.size, 0, none⟩) 0 0), ⟨HO.out, fun _ => Iff.rfl⟩, fun k hk => Or.inr (by simp only [VB, Value.ownBlock, Option.some.injEq] at hk; omega)⟩, Chg.of_below HB.out⟩
    have hS := hS.addEmp
    have h9 := (vecChg hS h1 h2 h3).left
    rw [Nat.zero_add, List.nil_append] at h9
    exact ⟨v', rfl, h9⟩
theorem seven7 {w : World} {g : Nat} {T : TypeId} {a0 a1 a2 a3 a4 a5 a6 : Value} (h : Blk w g T #[a0, a1, a2, a3, a4, a5, a6]) :
    (w.cell? ⟨g, 0, none⟩ = some a0 ∧ w.cell? ⟨g, 1, none⟩ = some a1 ∧ w.cell? ⟨g, 2, none⟩ = some a2 ∧ w.cell? ⟨g, 3, none⟩ = some a3 ∧ w.cell? ⟨g, 4, none⟩ = some a4 ∧ w.cell? ⟨g, 5, none⟩ = some a5 ∧ w.cell? ⟨g, 6, none⟩ = some a6) ∧
    (w.frozen? ⟨g, 0, none⟩ = false ∧ w.frozen? ⟨g, 1, none⟩ = false ∧ w.frozen? ⟨g, 2, none⟩ = false ∧ w.frozen? ⟨g, 3, none⟩ = false ∧ w.frozen? ⟨g, 4, none⟩ = false ∧ w.frozen? ⟨g, 5, none⟩ = false ∧ w.frozen? ⟨g, 6, none⟩ = false) :=
  ⟨⟨h.cell 0, h.cell 1, h.cell 2, h.cell 3, h.cell 4, h.cell 5, h.cell 6⟩, h.free 0, h.free 1, h.free 2, h.free 3, h.free 4, h.free 5, h.free 6⟩
end Go.Proofs.Ytfahgejiclgbfaa.Tr
end
