/- Texts of ours, joined. -/
import Derived.Test.YthoaangmekkcmaaBmM
import Derived.Test.YthoaangmekkcmaaBmF

-- joined
section
namespace Go.Proofs.Ythoaangmekkcmaa.Bk
open Go.ChangeShapes Go.WideShapes Go.ChangeAt Go.RowKit Go.PlainAid Aid Nt Nd Tr
open Ky (keyZ key_any)
set_option linter.unusedVariables false
set_option linter.unusedSimpArgs false
set_option linter.unusedSectionVars false
/-- The cells of a page. -/
theorem pg_seven {w0 w : World} {O0 : Nat → Prop} {pb n c : Nat} {L : List Sp} {C : Asn} (h : Own w0 O0 w (aPg (some ⟨pb, 0, none⟩) n c L * C)) (p : Nat) (x : Sp) (hx : L[p]? = some x) :
    (w.cell? ⟨pb, p * 7, none⟩ = some (.int .i64 x.nd.tree) ∧ w.cell? ⟨pb, p * 7 + 1, none⟩ = some (.int .i64 x.nd.level) ∧ w.cell? ⟨pb, p * 7 + 2, none⟩ = some (.int .i64 x.nd.stamp) ∧ w.cell? ⟨pb, p * 7 + 3, none⟩ = some (.bool x.nd.has) ∧ w.cell? ⟨pb, p * 7 + 4, none⟩ = some (.string (ofL x.nd.high)) ∧ w.cell? ⟨pb, p * 7 + 5, none⟩ = some (.int .i64 x.nd.right) ∧ w.cell? ⟨pb, p * 7 + 6, none⟩ = some x.v) ∧ Row3 w x.v x.nd.list := by
  have h' := h.re (show _ = Asn.vec 52 7 (.slice (some ⟨pb, 0, none⟩) n c) n (ndL L) * (aLs L * C) by unfold aPg; ac_rfl)
  have hv := h'.vec
  have ha := fun j hj => ndL_at L p j x hx hj
  exact ⟨⟨hv.cell (j := p * 7 + 0) (ha 0 (by decide)), hv.cell (ha 1 (by decide)), hv.cell (ha 2 (by decide)), hv.cell (ha 3 (by decide)), hv.cell (ha 4 (by decide)), hv.cell (ha 5 (by decide)), hv.cell (ha 6 (by decide))⟩, aLs_row L h'.right x (List.mem_of_getElem? hx)⟩
end Go.Proofs.Ythoaangmekkcmaa.Bk
end

-- joined
section
namespace Go.Proofs.Ythoaangmekkcmaa.Bk
open Nt Nd
set_option linter.unusedVariables false
set_option linter.unusedSimpArgs false
set_option linter.unusedSectionVars false
section
variable {S : Sf} {r : Nat} {t : Int} {top L : Nat} {ch : Nat → List Nat}
theorem mid_uniq {A A' B B' : List Nat} {c : Nat} (hd : (A ++ c :: B).Nodup) (e : A ++ c :: B = A' ++ c :: B') : A = A' ∧ B = B' := by
  have h1 : c ∉ A := fun g => by
    rw [List.nodup_append] at hd
    exact hd.2.2 c g c (by simp) rfl
  have h2 : c ∉ A' := fun g => by
    rw [e, List.nodup_append] at hd
    exact hd.2.2 c g c (by simp) rfl
  have i1 : (A ++ c :: B).idxOf c = A.length := by rw [List.idxOf_append, if_neg h1, List.idxOf_cons_self, Nat.zero_add]
  have i2 : (A' ++ c :: B').idxOf c = A'.length := by rw [List.idxOf_append, if_neg h2, List.idxOf_cons_self, Nat.zero_add]
  have hl : A.length = A'.length := by rw [← i1, ← i2, e]
  obtain ⟨e1, e2⟩ := List.append_inj e hl
  exact ⟨e1, (List.cons.inj e2).2⟩
theorem pos_uniq {ps A A' B B' : List Nat} {l l' : By} {c : Nat} (hd : ps.Nodup) (h : Pos S t L ps A l c B) (h' : Pos S t L ps A' l' c B') : A = A' ∧ l = l' := by
  have hd' := hd
  rw [h.eq] at hd'
  obtain ⟨rfl, -⟩ := mid_uniq hd' (h.eq.symm.trans h'.eq)
  have := h.low_eq.trans h'.low_eq.symm
  exact ⟨rfl, Option.some.inj this⟩
theorem pos_before {ps A A' B B' : List Nat} {l l' : By} {c d : Nat} (hd : ps.Nodup) (h : Pos S t L ps A l c B) (h' : Pos S t L ps A' l' d B') (hc : c ∈ A') : lt l l' = true := by
  obtain ⟨X, Y, rfl⟩ := List.append_of_mem hc
  have hd' := hd
  rw [h.eq] at hd'
  obtain ⟨rfl, -⟩ := mid_uniq (A' := X) (B' := Y ++ d :: B') hd' (by rw [← h.eq, h'.eq]; simp)
  obtain ⟨p0, h1⟩ := h'.pre
  obtain ⟨m, q, h2, h3⟩ := seg_app.1 h1
  have := (seg_end h2).trans h.low_eq.symm
  subst this
  exact seg_lt h3
theorem Tree.lead' (T : Tree S r t top ch) (hL : L < top) {e : Ent} (he : e ∈ lists S (ch (L + 1))) : ∃ A d B, Pos S t L (ch L) A e.key d B ∧ childL e.val = d := by
  unfold lists at he
  obtain ⟨c, hc, he⟩ := List.mem_flatMap.1 he
  exact T.lead L hL c hc e he
theorem lvl_srt (T : Tree S r t top ch) (hL : L ≤ top) : Srt (lists S (ch L)) := by
  obtain ⟨p0, h⟩ := T.lvl L hL
  exact seg_srt h
/-- The first so many leads are to those ahead. -/
structure KP (E : List Ent) (A : List Nat) (k : Nat) : Prop where
  le : k ≤ E.length
  iff : ∀ i e, E[i]? = some e → (i < k ↔ childL e.val ∈ A)
theorem kp_start (E : List Ent) : KP E [] 0 := ⟨Nat.zero_le _, fun i e _ => ⟨fun h => by omega, fun h => by cases h⟩⟩
theorem srt_at {l : List Ent} (h : Srt l) {i j : Nat} {a b : Ent} (hij : i < j) (ha : l[i]? = some a) (hb : l[j]? = some b) : lt a.key b.key = true := by
  obtain ⟨hi, rfl⟩ := List.getElem?_eq_some_iff.1 ha
  obtain ⟨hj, rfl⟩ := List.getElem?_eq_some_iff.1 hb
  exact List.pairwise_iff_getElem.1 h i j hi hj hij
theorem kp_hit (T : Tree S r t top ch) (hL : L < top) {A B : List Nat} {l : By} {c k : Nat} (hp : Pos S t L (ch L) A l c B) (h : KP (lists S (ch (L + 1))) A k) {e : Ent} (he : (lists S (ch (L + 1)))[k]? = some e) (hc : childL e.val = c) :
    e.key = l ∧ KP (lists S (ch (L + 1))) (A ++ [c]) (k + 1) := by
  have hd := T.nod L (by omega)
  have hs := lvl_srt T (L := L + 1) (by omega)
  have hkey : ∀ x, x ∈ lists S (ch (L + 1)) → childL x.val = c → x.key = l := fun x hx hxc => by
    obtain ⟨A', d, B', h1, h2⟩ := T.lead' hL hx
    rw [hxc] at h2
    subst h2
    exact ((pos_uniq hd hp h1).2).symm
  have hke := hkey e (List.mem_of_getElem? he) hc
  refine ⟨hke, (List.getElem?_eq_some_iff.1 he).1, fun i x hx => ?_⟩
  have hi := h.iff i x hx
  constructor
  · intro g
    rcases Nat.lt_or_eq_of_le (Nat.le_of_lt_succ g) with g | rfl
    · exact List.mem_append_left _ (hi.1 g)
    · rw [he] at hx
      cases hx
      exact List.mem_append_right _ (List.mem_singleton.2 hc)
  · intro g
    rcases List.mem_append.1 g with g | g
    · have := hi.2 g; omega
    · have hxc := List.mem_singleton.1 g
      have hkx := hkey x (List.mem_of_getElem? hx) hxc
      apply Classical.byContradiction
      intro hn
      have := srt_at hs (show k < i by omega) he hx
      rw [hkx, hke, lt_irrefl] at this
      cases this
theorem kp_miss (T : Tree S r t top ch) (hL : L < top) {A B : List Nat} {l : By} {c k : Nat} (hp : Pos S t L (ch L) A l c B) (h : KP (lists S (ch (L + 1))) A k) (hm : ∀ e, (lists S (ch (L + 1)))[k]? = some e → childL e.val ≠ c) :
    KP (lists S (ch (L + 1))) (A ++ [c]) k := by
  have hd := T.nod L (by omega)
  have hs := lvl_srt T (L := L + 1) (by omega)
  refine ⟨h.le, fun i x hx => ?_⟩
  have hi := h.iff i x hx
  constructor
  · exact fun g => List.mem_append_left _ (hi.1 g)
  · intro g
    rcases List.mem_append.1 g with g | g
    · exact hi.2 g
    · have hxc := List.mem_singleton.1 g
      apply Classical.byContradiction
      intro hn
      have hik : i ≠ k := fun e => by subst e; exact hm x hx hxc
      have hil := (List.getElem?_eq_some_iff.1 hx).1
      obtain ⟨y, hy⟩ : ∃ y, (lists S (ch (L + 1)))[k]? = some y := ⟨_, List.getElem?_eq_getElem (by omega)⟩
      have hlt := srt_at hs (show k < i by omega) hy hx
      obtain ⟨A1, d1, B1, h1, h2⟩ := T.lead' hL (List.mem_of_getElem? hx)
      rw [hxc] at h2
      subst h2
      have hxl := (pos_uniq hd hp h1).2
      obtain ⟨A2, d2, B2, h3, h4⟩ := T.lead' hL (List.mem_of_getElem? hy)
      have hdA : d2 ∉ A := fun g => by
        have := (h.iff k y hy).2 (by rw [h4]; exact g)
        omega
      have hdc : d2 ≠ childL x.val := fun e => hm y hy (by rw [h4, e, hxc])
      have hdm : d2 ∈ ch L := h3.mem
      rw [hp.eq] at hdm
      rcases List.mem_append.1 hdm with g2 | g2
      · exact hdA g2
      · rcases List.mem_cons.1 g2 with g2 | g2
        · exact hm y hy (by rw [h4, g2])
        · obtain ⟨X, Y, rfl⟩ := List.append_of_mem g2
          have hd' := hd
          rw [h3.eq] at hd'
          obtain ⟨e1, -⟩ := mid_uniq (A' := A ++ c :: X) (B' := Y) hd' (by rw [← h3.eq, hp.eq]; simp)
          have := pos_before hd hp h3 (by rw [e1]; simp)
          rw [hxl] at this
          exact lt_asymm this hlt
theorem kp_end (T : Tree S r t top ch) (hL : L < top) {k : Nat} (h : KP (lists S (ch (L + 1))) (ch L) k) : k = (lists S (ch (L + 1))).length := by
  apply Nat.le_antisymm h.le
  apply Nat.le_of_not_lt
  intro hk
  obtain ⟨y, hy⟩ : ∃ y, (lists S (ch (L + 1)))[k]? = some y := ⟨_, List.getElem?_eq_getElem hk⟩
  obtain ⟨A2, d2, B2, h3, h4⟩ := T.lead' hL (List.mem_of_getElem? hy)
  have := (h.iff k y hy).2 (by rw [h4]; exact h3.mem)
  omega
/-- The first lead is to the first node below. -/
theorem first_lead (T : Tree S r t top ch) (hL : L < top) : ∃ e, (lists S (ch (L + 1)))[0]? = some e ∧ ∃ B, Pos S t L (ch L) [] low (childL e.val) B := by
  obtain ⟨p0, hl⟩ := T.lvl (L + 1) (by omega)
  cases hc : ch (L + 1) with
  | nil => rw [hc] at hl; cases hl.1
  | cons a A =>
    rw [hc] at hl
    obtain ⟨rfl, ⟨l, e1, ok⟩, -⟩ := hl
    cases e1
    obtain ⟨e, r, he, hk⟩ := ok.fst (by omega)
    have hm : e ∈ lists S (ch (L + 1)) := by rw [hc, lists_cons, he]; simp
    obtain ⟨A', d, B', h1, h2⟩ := T.lead' hL hm
    rw [hk] at h1
    refine ⟨e, by rw [lists_cons, he]; rfl, ?_⟩
    obtain ⟨p1, hl1⟩ := T.lvl L (by omega)
    cases hc1 : ch L with
    | nil => rw [hc1] at hl1; cases hl1.1
    | cons b B =>
      have h0 : Lvl S t L ([] ++ b :: B) := ⟨p1, by rw [hc1] at hl1; exact hl1⟩
      obtain ⟨l2, h5⟩ := h0.pos
      have e5 : l2 = low := by
        obtain ⟨p2, h6, h7⟩ := h5.pre
        exact (Option.some.inj h6).symm
      subst e5
      rw [hc1] at h1
      obtain ⟨e6, e7, e8⟩ := pos_low h1 h5
      rw [h2, e6]
      exact ⟨B, h5⟩
end
end Go.Proofs.Ythoaangmekkcmaa.Bk
end
