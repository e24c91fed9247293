import Derived.Test.YtalaipmhihokjaaSlR
import Derived.Test.YtalaipmhihokjaaMnExact
import Derived.Test.YtalaipmhihokjaaArgs
namespace Go.Proofs.Ytalaipmhihokjaa.Sl
open Go.ChangeShapes Go.WideShapes Go.ChangeAt Go.RowKit Go.PlainAid Aid Mn
set_option linter.unusedVariables false
set_option linter.unusedSimpArgs false

/-- The program's disk and power, and the document's, in one world. -/
structure St (w0 w : World) (g m b N gu gr bn bs bf : Nat) (P Q : Nat → Pg) (q q' : Pw) : Prop where
  dk : Dk w g m b N P q
  rf : Rf w gu q'
  rd : Rd w gr bn bs bf N Q
  bel : Below w0.heap.size w0 w
  hm : w0.heap.size ≤ m
  o1 : m < gu
  o2 : gu < b
  o3 : b < g
  o4 : g < bn
  o5 : g < bs
  o6 : g < bf
  o7 : g < gr
/-- A deed, in its own block. -/
structure Xb (w : World) (gx m b gu bn bs bf : Nat) (a p n : Int) : Prop where
  blk : Blk w gx 34 #[.int .i64 a, .int .i64 p, .int .i64 n]
  x1 : m < gx
  x2 : b < gx
  x3 : gu < gx
  x4 : bn < gx
  x5 : bs < gx
  x6 : bf < gx
section
variable {w0 w w' : World} {g m b N gu gr bn bs bf gx : Nat} {P Q P' Q' : Nat → Pg} {q q' q2 : Pw} {a p n : Int}
theorem St.chgD (h : St w0 w g m b N gu gr bn bs bf P Q q q') (hd : Dk w' g m b N P' q2) (hc : Chg (DS m b) w w') : St w0 w' g m b N gu gr bn bs bf P' Q q2 q' := by
  have := h.o1; have := h.o2; have := h.o3; have := h.o4; have := h.o5; have := h.o6; have := h.o7
  refine ⟨hd, h.rf.keep hc ?_, h.rd.keep hc ?_ ?_ ?_ ?_, blS h.bel hc h.bel.size (ds_base h.hm (by have := h.hm; omega) _), h.hm, h.o1, h.o2, h.o3, h.o4, h.o5, h.o6, h.o7⟩
  all_goals (rintro (e | e) <;> omega)
theorem St.chgU (h : St w0 w g m b N gu gr bn bs bf P Q q q') (hr : Rf w' gu q2) (hc : Chg (· = gu) w w') : St w0 w' g m b N gu gr bn bs bf P Q q q2 := by
  have := h.o1; have := h.o2; have := h.o3; have := h.o4; have := h.o5; have := h.o6; have := h.o7; have := h.hm
  refine ⟨h.dk.keep hc ?_ ?_ ?_, hr, h.rd.keep hc ?_ ?_ ?_ ?_, bl1 h.bel hc h.bel.size (by omega), h.hm, h.o1, h.o2, h.o3, h.o4, h.o5, h.o6, h.o7⟩
  all_goals (intro e; omega)
theorem St.chgR (h : St w0 w g m b N gu gr bn bs bf P Q q q') (hr : Rd w' gr bn bs bf N Q') (hc : Chg (RS bn bs bf) w w') : St w0 w' g m b N gu gr bn bs bf P Q' q q' := by
  have := h.o1; have := h.o2; have := h.o3; have := h.o4; have := h.o5; have := h.o6; have := h.o7; have := h.hm
  refine ⟨h.dk.keep hc ?_ ?_ ?_, h.rf.keep hc ?_, hr, blS h.bel hc h.bel.size ?_, h.hm, h.o1, h.o2, h.o3, h.o4, h.o5, h.o6, h.o7⟩
  all_goals first | (rintro (e | e | e) <;> omega) | (rintro i - (e | e | e) <;> omega)
theorem St.below (h : St w0 w g m b N gu gr bn bs bf P Q q q') (hb : Below w.heap.size w w') : St w0 w' g m b N gu gr bn bs bf P Q q q' :=
  ⟨h.dk.below hb, h.rf.keep (S := fun _ => False) (Chg.of_below hb) id, h.rd.below hb, bl h.bel hb, h.hm, h.o1, h.o2, h.o3, h.o4, h.o5, h.o6, h.o7⟩
theorem St.drewN (h : St w0 w g m b N gu gr bn bs bf P Q q q') (k : Nat) : St w0 (w.drewN k) g m b N gu gr bn bs bf P Q q q' := h.below (blN (Below.refl _ _) k)
theorem St.drew (h : St w0 w g m b N gu gr bn bs bf P Q q q') : St w0 w.drew g m b N gu gr bn bs bf P Q q q' := h.below (blN (Below.refl _ _) 1)
theorem Xb.keep {S : Nat → Prop} (h : Xb w gx m b gu bn bs bf a p n) (hc : Chg S w w') (hS : ¬ S gx) : Xb w' gx m b gu bn bs bf a p n := ⟨h.blk.keep hc hS, h.x1, h.x2, h.x3, h.x4, h.x5, h.x6⟩
theorem Xb.chgD (h : Xb w gx m b gu bn bs bf a p n) (hc : Chg (DS m b) w w') : Xb w' gx m b gu bn bs bf a p n := h.keep hc (by have := h.x1; have := h.x2; rintro (e | e) <;> omega)
theorem Xb.chgU (h : Xb w gx m b gu bn bs bf a p n) (hc : Chg (· = gu) w w') : Xb w' gx m b gu bn bs bf a p n := h.keep hc (by have := h.x3; intro e; omega)
theorem Xb.chgR (h : Xb w gx m b gu bn bs bf a p n) (hc : Chg (RS bn bs bf) w w') : Xb w' gx m b gu bn bs bf a p n := h.keep hc (by have := h.x4; have := h.x5; have := h.x6; rintro (e | e | e) <;> omega)
theorem Xb.below (h : Xb w gx m b gu bn bs bf a p n) (hb : Below w.heap.size w w') : Xb w' gx m b gu bn bs bf a p n := h.keep (S := fun _ => False) (Chg.of_below hb) id
theorem Xb.facts (h : Xb w gx m b gu bn bs bf a p n) : w.cell? ⟨gx, 0, Option.none⟩ = some (.int .i64 a) ∧ w.cell? ⟨gx, 1, Option.none⟩ = some (.int .i64 p) ∧ w.cell? ⟨gx, 2, Option.none⟩ = some (.int .i64 n) := ⟨h.blk.cell 0, h.blk.cell 1, h.blk.cell 2⟩
theorem Xb.new (h : St w0 w g m b N gu gr bn bs bf P Q q q') (a p n : Int) : Xb (w.alloc (.cells #[.int .i64 a, .int .i64 p, .int .i64 n] 34)) w.heap.size m b gu bn bs bf a p n :=
  ⟨Blk.new _ _ _, h.dk.power.lt, h.dk.pages.lt, h.rf.lt, h.rd.now.lt, h.rd.safe.lt, h.rd.fresh.lt⟩
end
def Inv (P : Nat → Pg) : Prop := ∀ i, (P i).fresh = false → (P i).safe = (P i).now
theorem Inv.write {P : Nat → Pg} (h : Inv P) (i : Nat) (s : ByteArray) : Inv (upd P i ((P i).write s)) := by
  intro k hk
  by_cases e : k = i
  · subst e; rw [upd_same] at hk; cases hk
  · rw [upd_other _ _ _ _ e] at hk ⊢; exact h k hk
theorem Inv.sync (P : Nat → Pg) : Inv (fun i => (P i).secure) := fun _ _ => rfl
theorem Inv.secure {P : Nat → Pg} (h : Inv P) (i : Nat) (hf : (P i).fresh = false) : (P i).secure = P i := by
  have := h i hf
  revert hf this
  generalize P i = p
  obtain ⟨a, b, c⟩ := p
  intro hf this
  cases hf; cases this
  rfl
theorem Inv.settled {P : Nat → Pg} (h : Inv P) (keep : Int) (n : Nat) : Inv (settled P keep n) := by
  intro i hf
  unfold Sl.settled at hf ⊢
  by_cases hc : (P i).fresh = true ∧ (freshL P i).length < n
  · rw [if_pos hc]
    unfold Pg.settle
    split <;> rfl
  · rw [if_neg hc] at hf ⊢; exact h i hf
theorem settled_secure {P : Nat → Pg} (h : Inv P) (keep : Int) (n i : Nat) (hi : i < n) : (settled P keep n i).secure = settled P keep n i := by
  refine (h.settled keep n).secure i ?_
  unfold settled
  by_cases hf : (P i).fresh = true
  · rw [if_pos ⟨hf, rank_lt P i n hi hf⟩]
    unfold Pg.settle
    split <;> rfl
  · rw [if_neg (fun x => hf x.1)]
    simpa using hf
theorem freshL_get (P : Nat → Pg) (n i : Nat) (hi : i < n) (hf : (P i).fresh = true) : (freshL P n)[(freshL P i).length]? = some i := by
  induction n with
  | zero => omega
  | succ n ih =>
    by_cases he : i = n
    · subst he
      rw [freshL_yes _ _ hf, List.getElem?_append_right (Nat.le_refl _)]
      simp
    · have := ih (by omega)
      cases hn : (P n).fresh
      · rw [freshL_no _ _ hn]; exact this
      · rw [freshL_yes _ _ hn, List.getElem?_append_left (List.getElem?_eq_some_iff.1 this).1]; exact this
end Go.Proofs.Ytalaipmhihokjaa.Sl
