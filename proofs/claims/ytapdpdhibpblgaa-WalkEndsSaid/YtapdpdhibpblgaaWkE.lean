/- Texts of ours, joined. -/
import Derived.Test.YtapdpdhibpblgaaWkD
import Derived.Test.YtapdpdhibpblgaaBkM

-- joined
section
namespace Go.Proofs.Ytapdpdhibpblgaa.Wk
open Go.ChangeShapes Go.WideShapes Go.ChangeAt Go.RowKit Go.PlainAid Aid Nt Nd Tr Bk
set_option linter.unusedVariables false
set_option linter.unusedSimpArgs false
/-- The error alone: q says at which entry one stops. -/
def gonE (S : Sf) (q : Ent → Bool) : Nat → Int → Nat
  | 0, _ => 3
  | l + 1, p => match Bk.at_ S p with
    | none => 1
    | some n => if n.level ≠ 0 then 3 else if n.list.any q then 0 else if n.right = 0 then 0 else gonE S q l n.right
section
variable {σ : Type} (step : σ → Ent → σ × Bool) (q : Ent → Bool) (live : σ → Prop)
theorem scan_live (h : ∀ s e, live s → (step s e).2 = !q e ∧ (q e = false → live (step s e).1)) (l : List Ent) : ∀ s, live s → (scan step s l).2 = !l.any q ∧ (l.any q = false → live (scan step s l).1) := by
  induction l with
  | nil => intro s hs; exact ⟨rfl, fun _ => hs⟩
  | cons e l ih =>
    intro s hs
    obtain ⟨h1, h2⟩ := h s e hs
    rw [scan, List.any_cons]
    cases hq : q e with
    | true =>
      rw [hq] at h1
      rw [h1]
      simp
    | false =>
      rw [hq] at h1
      rw [h1]
      simpa using ih _ (h2 hq)
theorem gon_err (h : ∀ s e, live s → (step s e).2 = !q e ∧ (q e = false → live (step s e).1)) (S : Sf) : ∀ (l : Nat) (p : Int) (s : σ), live s → (gon S step l p s).1 = gonE S q l p
  | 0, p, s, hs => rfl
  | l + 1, p, s, hs => by
    rw [gon, gonE]
    cases hat : Bk.at_ S p with
    | none => rfl
    | some n =>
      dsimp only
      split
      · rfl
      · obtain ⟨h1, h2⟩ := scan_live step q live h n.list s hs
        rw [h1]
        cases ha : n.list.any q with
        | true => simp
        | false =>
          simp only [Bool.not_false, if_true, Bool.false_eq_true, if_false]
          split
          · rfl
          · exact gon_err h S l n.right _ (h2 ha)
end
theorem gonE_mono (S : Sf) {q1 q2 : Ent → Bool} (h : ∀ e, q1 e = true → q2 e = true) : ∀ (l : Nat) (p : Int), gonE S q1 l p = 0 → gonE S q2 l p = 0
  | 0, p, hz => hz
  | l + 1, p, hz => by
    rw [gonE] at hz ⊢
    cases hat : Bk.at_ S p with
    | none => rw [hat] at hz; exact hz
    | some n =>
      rw [hat] at hz
      dsimp only at hz ⊢
      by_cases hl : n.level ≠ 0
      · rw [if_pos hl] at hz; exact absurd hz (by decide)
      · rw [if_neg hl] at hz ⊢
        cases h2 : n.list.any q2 with
        | true => rw [if_pos rfl]
        | false =>
          have h1 : n.list.any q1 = false := by
            rw [List.any_eq_false] at h2 ⊢
            intro x hx hc
            exact h2 x hx (h x hc)
          rw [h1, if_neg (by decide)] at hz
          rw [if_neg (by decide)]
          split
          · rfl
          · rename_i hr
            rw [if_neg hr] at hz
            exact gonE_mono S h l n.right hz
theorem fir_live (q : Ent → Bool) (s : Option Ent) (e : Ent) (hs : s = none) : (fstep q s e).2 = !q e ∧ (q e = false → (fstep q s e).1 = none) := by
  subst hs
  unfold fstep
  cases q e <;> simp
theorem ran_live (low high : By) (s : List Ent × ByteArray) (e : Ent) (hs : True) : (rstep low high s e).2 = !aftQ high e ∧ (aftQ high e = false → True) := by
  unfold rstep aftQ
  refine ⟨?_, fun _ => trivial⟩
  cases Nd.le e.key high <;> rfl
theorem aft_nxt (key : By) (e : Ent) (h : aftQ key e = true) : nxtQ key e = true := by
  unfold aftQ Nd.le at h
  unfold nxtQ
  cases hl : lt e.key key
  · rfl
  · rw [hl] at h; simp at h
section
variable (S : Sf) (root : Int) (key : By)
theorem goR_err {σ : Type} (step : σ → Ent → σ × Bool) (q : Ent → Bool) (live : σ → Prop) (h : ∀ s e, live s → (step s e).2 = !q e ∧ (q e = false → live (step s e).1)) (s : σ) (hs : live s) :
    (goR S step root key s).1 = if (seek S 256 root 0 key).2.1 = 0 then gonE S q (257 - (pagesR S root 0 key).length) ((pagesR S root 0 key).getLastD 0) else (seek S 256 root 0 key).2.1 := by
  unfold goR
  split
  · exact gon_err step q live h S _ _ s hs
  · rfl
theorem firR_err (q : Ent → Bool) : (firR S root key q).1 = (goR S (fstep q) root key none).1 := by
  unfold firR
  split
  · rename_i h; exact h.symm
  · rfl
theorem minK_self : minK key key = key := by
  unfold minK
  split <;> rfl
theorem ranR_err : (ranR S root key key).1 = (goR S (rstep key key) root key ([], endB)).1 := by
  unfold ranR
  rw [minK_self]
  split
  · rename_i h; exact h.symm
  · rfl
theorem ends_bad (h : (seek S 256 root 0 key).2.1 ≠ 0) : (firR S root key (nxtQ key)).1 = (seek S 256 root 0 key).2.1 ∧ (firR S root key (nxtQ key)).2 = none ∧ (firR S root key (aftQ key)).1 = (seek S 256 root 0 key).2.1 ∧ (firR S root key (aftQ key)).2 = none ∧
    (gapR S root key).1 = (seek S 256 root 0 key).2.1 ∧ (ranR S root key key).1 = (seek S 256 root 0 key).2.1 ∧ (ranR S root key key).2.1 = [] ∧ (ranR S root key key).2.2 = ⟨#[]⟩ := by
  have hg : ∀ {σ : Type} (step : σ → Ent → σ × Bool) (k : By) (s : σ), k = key → goR S step root k s = ((seek S 256 root 0 key).2.1, s) := by
    intro σ step k s hk
    subst hk
    unfold goR
    rw [if_neg h]
  have hf : ∀ q, firR S root key q = ((seek S 256 root 0 key).2.1, none) := by
    intro q
    unfold firR
    rw [hg _ _ _ rfl]
    exact if_neg h
  have hr : ranR S root key key = ((seek S 256 root 0 key).2.1, [], ⟨#[]⟩) := by
    unfold ranR
    rw [hg _ _ _ (minK_self key)]
    exact if_neg h
  have hga : gapR S root key = ((seek S 256 root 0 key).2.1, ⟨#[]⟩) := by
    unfold gapR
    rw [hf]
    exact if_neg h
  rw [hf, hf, hr, hga]
  exact ⟨rfl, rfl, rfl, rfl, rfl, rfl, rfl, rfl⟩
theorem gap_err : (gapR S root key).1 = (firR S root key (aftQ key)).1 := by
  unfold gapR
  split
  · rename_i h
    rw [h]
    cases (firR S root key (aftQ key)).2 <;> rfl
  · rfl
theorem ends_ok (h : (seek S 256 root 0 key).2.1 = 0) (ha : (firR S root key (aftQ key)).1 = 0) : (firR S root key (nxtQ key)).1 = 0 ∧ (ranR S root key key).1 = 0 := by
  rw [firR_err, goR_err S root key (fstep (aftQ key)) (aftQ key) (· = none) (fun s e hs => fir_live _ s e hs) none rfl, if_pos h] at ha
  rw [firR_err, goR_err S root key (fstep (nxtQ key)) (nxtQ key) (· = none) (fun s e hs => fir_live _ s e hs) none rfl, if_pos h, ranR_err, goR_err S root key (rstep key key) (aftQ key) (fun _ => True) (fun s e hs => ran_live key key s e hs) _ trivial, if_pos h]
  exact ⟨gonE_mono S (aft_nxt key) _ _ ha, ha⟩
end
end Go.Proofs.Ytapdpdhibpblgaa.Wk
end

-- joined
section
namespace Go.Proofs.Ytapdpdhibpblgaa.Bk
open Go.ChangeShapes Go.WideShapes Go.ChangeAt Go.RowKit Go.PlainAid Aid Nt Nd Tr
set_option linter.unusedVariables false
set_option linter.unusedSimpArgs false
set_option linter.unusedSectionVars false
theorem nws_get (S : Sf) (V : Nat → Value) (k : Nat) (hk : k < 256 * 7) : (nws 256 S V)[k]? = (nodCells (S (k / 7)) (V (k / 7)))[k % 7]? := by
  have := nws_at 256 S V (k / 7) (k % 7) (by omega) (by omega)
  rw [show k / 7 * 7 + k % 7 = k by omega] at this
  exact this
theorem nws_up (S : Sf) (V : Nat → Value) (p : Nat) (hp : p < 256) (n : Nod) (v : Value) : nws 256 (up S p n) (up V p v) = (nws 256 S V).take (p * 7) ++ (nodCells n v).toList ++ (nws 256 S V).drop (p * 7 + 7) := by
  have hl := nws_len 256 S V
  have hl2 := nws_len 256 (up S p n) (up V p v)
  have h7 : (nodCells n v).toList.length = 7 := rfl
  apply List.ext_getElem?
  intro k
  by_cases hk : k < 256 * 7
  · rw [nws_get _ _ k hk]
    by_cases h1 : k < p * 7
    · rw [List.append_assoc, List.getElem?_append_left (by rw [List.length_take]; omega), List.getElem?_take, if_pos h1, nws_get _ _ k hk, up_other _ _ _ _ (by omega), up_other _ _ _ _ (by omega)]
    · by_cases h2 : k < p * 7 + 7
      · rw [List.append_assoc, List.getElem?_append_right (by rw [List.length_take]; omega), List.length_take, Nat.min_eq_left (by omega), List.getElem?_append_left (by rw [h7]; omega), show k / 7 = p by omega, up_same, up_same, show k % 7 = k - p * 7 by omega, Array.getElem?_toList]
      · rw [List.getElem?_append_right (by rw [List.length_append, List.length_take, h7]; omega), List.length_append, List.length_take, h7, Nat.min_eq_left (by omega), List.getElem?_drop, show p * 7 + 7 + (k - (p * 7 + 7)) = k by omega, nws_get _ _ k hk, up_other _ _ _ _ (by omega), up_other _ _ _ _ (by omega)]
  · rw [List.getElem?_eq_none (by omega), List.getElem?_eq_none (by rw [List.length_append, List.length_append, List.length_take, List.length_drop, h7]; omega)]
theorem rows_up (S : Sf) (V : Nat → Value) (p : Nat) (n : Nod) (v : Value) : Imp (aRows S V * aEnts n v) (aRows (up S p n) (up V p v)) := fun w O ⟨X, Y, h1, h2, hd, hO⟩ => by
  refine ⟨fun q hq => ?_, fun k hk => ?_⟩
  · by_cases e : q = p
    · subst e
      rw [up_same, up_same]
      exact ⟨h2.1, fun k hk => (hO k).2 (Or.inr ((h2.2 k).2 hk))⟩
    · rw [up_other _ _ _ _ e, up_other _ _ _ _ e]
      exact ⟨(h1.1 q hq).1, fun k hk => (hO k).2 (Or.inl ((h1.1 q hq).2 k hk))⟩
  · rcases (hO k).1 hk with h | h
    · exact h1.2 k h
    · exact h2.1.lt ((h2.2 k).1 h)
/-- A page has another node. -/
theorem sf_up {w0 w : World} {O0 : Nat → Prop} {gs : Nat} {S : Sf} {V : Nat → Value} {C : Asn} (p : Nat) (hp : p < 256) (n : Nod) (v : Value) (h : Own w0 O0 w (aEnts n v * (aSf gs S V * C))) :
    Own w0 O0 (w.setCells gs (p * 7) (nodCells n v).toList) (aSf gs (up S p n) (up V p v) * C) := by
  have h1 := h.re (show _ = Asn.vec 132 7 (.slice (some ⟨gs, 0, none⟩) 256 256) 256 (nws 256 S V) * ((aRows S V * aEnts n v) * C) by unfold aSf; ac_rfl)
  have h2 := own_setCells 132 7 gs 256 256 (nodCells n v).toList (p * 7) (nws 256 S V) w h1 (by show p * 7 + 7 ≤ _; omega)
  have h3 := h2.imp (Imp.r (Imp.l (rows_up S V p n v)))
  rw [show p * 7 + (nodCells n v).toList.length = p * 7 + 7 from rfl, ← nws_up S V p hp n v] at h3
  exact h3.re (by unfold aSf; ac_rfl)
end Go.Proofs.Ytapdpdhibpblgaa.Bk
end
