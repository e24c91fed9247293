/- How the document's tray and the program's go together. -/
import Derived.Test.YtapdpdhibpblgaaGreatDoorTrR
import Derived.Test.YtapdpdhibpblgaaGreatDoorTrF
namespace Go.Proofs.YtapdpdhibpblgaaGreatDoor.Tr
open Go.ChangeShapes Go.WideShapes Go.ChangeAt Go.RowKit Go.PlainAid Aid Nt Nd Cr
set_option linter.unusedVariables false
set_option linter.unusedSimpArgs false
set_option linter.unusedSectionVars false
/-- A page as the document has it, but for the values that its rows are. -/
def er (r : Rp) : Rp := ⟨r.nd, r.nv, r.un, .slice none 0 0, r.wr, .slice none 0 0, r.held⟩
/-- The debt of a page as the document has it. -/
def dOf (p : Nat) (r : Rp) : Option Db := match r.wr ++ r.un with
  | [] => none
  | a :: _ => some ⟨p, a, r.un.headD 0⟩
structure Tie1 (i K safe p : Nat) (r : Rp) (x : Option Sh) (y : Option Db) (P : Sl.Pg) : Prop where
  held : r.held = x.isSome
  debt : y = dOf p r
  pos : ∀ a, a ∈ r.wr ++ r.un → 0 < a
  len : r.wr.length + r.un.length ≤ i
  disk : P.now = ofL [] ∨ ∃ n1 j, P.now = ofL (Nd.bytes n1) ∧ fitsB n1 = true ∧ n1.stamp = ((29 * j + 1 : Nat) : Int) ∧ j < K ∧ 29 * j + 29 ≤ safe
structure Tie (k i K : Nat) (R : Nat → Rp) (h : Nat → Option Sh) (s : W3) : Prop where
  good : Good k K (fun p => (R p).nd) h s
  page : ∀ p, p < k → Tie1 i K s.safe p (R p) (h p) (s.d p) (s.P p)
theorem Tie1.more {i i' K K' safe safe' p : Nat} {r : Rp} {x : Option Sh} {y : Option Db} {P : Sl.Pg} (g : Tie1 i K safe p r x y P) (hi : i ≤ i') (hK : K ≤ K') (hs : safe ≤ safe') : Tie1 i' K' safe' p r x y P :=
  ⟨g.held, g.debt, g.pos, by have := g.len; omega, g.disk.imp id fun ⟨n1, j, h1, h2, h3, h4, h5⟩ => ⟨n1, j, h1, h2, h3, by omega, by omega⟩⟩
theorem Tie1.like {i K safe p : Nat} {r r' : Rp} {x : Option Sh} {y : Option Db} {P : Sl.Pg} (g : Tie1 i K safe p r x y P) (e : er r = er r') : Tie1 i K safe p r' x y P := by
  have e1 : r.un = r'.un := by have := congrArg Rp.un e; exact this
  have e2 : r.wr = r'.wr := by have := congrArg Rp.wr e; exact this
  have e3 : r.held = r'.held := by have := congrArg Rp.held e; exact this
  refine ⟨e3 ▸ g.held, ?_, by rw [← e1, ← e2]; exact g.pos, by rw [← e1, ← e2]; exact g.len, g.disk⟩
  rw [g.debt]
  unfold dOf
  rw [e1, e2]
section
variable {k i K : Nat} {R R' : Nat → Rp} {h : Nat → Option Sh} {s : W3}
theorem Tie.like (g : Tie k i K R h s) (e : ∀ p, er (R p) = er (R' p)) : Tie k i K R' h s := by
  have e1 : (fun p => (R p).nd) = fun p => (R' p).nd := funext fun p => by have := congrArg Rp.nd (e p); exact this
  exact ⟨e1 ▸ g.good, fun p hp => (g.page p hp).like (e p)⟩
theorem Tie.more (g : Tie k i K R h s) : Tie k (i + 1) K R h s := ⟨g.good, fun p hp => (g.page p hp).more (by omega) (Nat.le_refl _) (Nat.le_refl _)⟩
theorem Tie.add (g : Tie k i K R h s) : Tie k (i + 1) (K + 1) R h s := ⟨good_more g.good, fun p hp => (g.page p hp).more (by omega) (by omega) (Nat.le_refl _)⟩
theorem tie_start (k : Nat) : Tie k 0 0 (fun _ => rp0) (fun _ => none) bare3 :=
  ⟨good_start k, fun p _ => ⟨rfl, rfl, fun a ha => (List.not_mem_nil ha).elim, Nat.le_refl _, Or.inl rfl⟩⟩
theorem upd_nd (R : Nat → Rp) (p : Nat) (r : Rp) : (fun q => (Sl.upd R p r q).nd) = Sl.upd (fun q => (R q).nd) p r.nd := by
  funext q
  by_cases hq : q = p
  · subst hq; rw [Sl.upd_same, Sl.upd_same]
  · rw [Sl.upd_other _ _ _ _ hq, Sl.upd_other _ _ _ _ hq]
theorem upd_self {α : Type} (f : Nat → α) (p : Nat) (a : α) (e : a = f p) : Sl.upd f p a = f := by
  funext q
  by_cases hq : q = p
  · subst hq; rw [Sl.upd_same, e]
  · rw [Sl.upd_other _ _ _ _ hq]
theorem tie_put (g : Tie k i K R h s) (p : Nat) (hp : p < k) (nd : Nod) (hf : fitsB (restamp nd ((29 * K + 1 : Nat) : Int)) = true) (lv nv uv : Value) :
    Tie k (i + 1) (K + 1) (Sl.upd R p ⟨restamp nd ((29 * K + 1 : Nat) : Int), nv, (R p).un ++ [29 * K + 1], uv, (R p).wr, (R p).wv, true⟩) (put h p (some ⟨p, restamp nd ((29 * K + 1 : Nat) : Int), lv⟩)) ⟨owed s.d p (29 * K + 1), s.P, s.safe⟩ := by
  refine ⟨by rw [upd_nd]; exact good_put g.good p hp nd hf lv, fun q hq => ?_⟩
  have a := g.page q hq
  by_cases hqp : q = p
  · subst hqp
    rw [Sl.upd_same, put_same]
    refine ⟨rfl, ?_, ?_, ?_, (a.more (i' := i + 1) (K' := K + 1) (by omega) (by omega) (Nat.le_refl _)).disk⟩
    · have hd := a.debt
      have hps := a.pos
      generalize R q = r at *
      obtain ⟨rn, rv, un, uv, wr, wv, held⟩ := r
      unfold dOf at hd ⊢
      dsimp only at hd hps ⊢
      cases wr with
      | nil =>
        cases un with
        | nil => exact owed_none hd
        | cons b0 l =>
          have h1 : 0 < b0 := hps b0 (by simp)
          rw [owed_more hd (by show ¬ b0 = 0; omega)]
          rfl
      | cons b l' =>
        cases un with
        | nil => exact owed_paid hd rfl
        | cons b0 l =>
          have h1 : 0 < b0 := hps b0 (by simp)
          rw [owed_more hd (by show ¬ b0 = 0; omega)]
          rfl
    · intro z hz
      dsimp only at hz
      rw [← List.append_assoc, List.mem_append] at hz
      rcases hz with hz | hz
      · exact a.pos z hz
      · rw [List.mem_singleton] at hz; omega
    · have := a.len
      dsimp only
      rw [List.length_append, List.length_singleton]
      omega
  · rw [Sl.upd_other _ _ _ _ hqp, put_other _ _ _ _ hqp]
    have e : owed s.d p (29 * K + 1) q = s.d q := owed_other hqp
    show Tie1 (i + 1) (K + 1) s.safe q (R q) (h q) (owed s.d p (29 * K + 1) q) (s.P q)
    rw [e]
    exact a.more (by omega) (by omega) (Nat.le_refl _)
/-- A page that was written. -/
def wrt (r : Rp) (wv : Value) : Rp := { r with un := [], uv := .slice none 0 0, wr := r.wr ++ r.un, wv := wv }
theorem dOf_un {p : Nat} {r : Rp} {y : Db} (hd : some y = dOf p r) : y.un = r.un.headD 0 := by
  unfold dOf at hd
  split at hd
  · cases hd
  · cases hd; rfl
theorem un_nil {p : Nat} {r : Rp} (hps : ∀ a, a ∈ r.wr ++ r.un → 0 < a) (hd : ∀ y, dOf p r = some y → y.un = 0) : r.un = [] := by
  obtain ⟨rn, rv, un, uv, wr, wv, held⟩ := r
  unfold dOf at hd
  dsimp only at hps hd ⊢
  cases un with
  | nil => rfl
  | cons a l =>
    have h1 : 0 < a := hps a (by simp)
    exfalso
    cases wr with
    | nil => have := hd _ rfl; simp at this; omega
    | cons b l' => have := hd _ rfl; simp at this; omega
theorem wrt_same {r : Rp} (hu : r.un = []) (wv : Value) : er (wrt r wv) = er r := by
  unfold er wrt
  rw [hu, List.append_nil]
theorem tie_wr (g : Tie k i K R h s) (x : Sh) (hp : x.page < k) (hx : h x.page = some x) (wv : Value) :
    Tie k i K (Sl.upd R x.page (wrt (R x.page) wv)) h (wr1 (Ls K) s x) := by
  have hfit := good_fit g.good x hp hx
  have hg := (good_wr g.good x hp hx).1
  have a0 := g.page x.page hp
  refine ⟨by rw [upd_nd, upd_self (fun q => (R q).nd) x.page (wrt (R x.page) wv).nd rfl]; exact hg, fun q hq => ?_⟩
  have a := g.page q hq
  clear hg
  unfold wr1
  split
  · rename_i y hy
    split
    · rename_i hu
      by_cases hqp : q = x.page
      · subst hqp
        rw [Sl.upd_same]
        exact a.like (wrt_same (un_nil a.pos (by rw [← a.debt]; exact fun z hz => by rw [hy] at hz; cases hz; exact hu)) wv).symm
      · rw [Sl.upd_other _ _ _ _ hqp]; exact a
    · rename_i hu
      obtain ⟨hf, hst⟩ := hfit y hy hu
      obtain ⟨hk1, hk2⟩ := kk_of hst
      rw [len_Ls] at hk1
      have hfo := forced_Ls K (kk (Ls K) x.n.stamp) s.safe hk1 g.good.log
      rw [at_Ls K _ (by omega)] at hk2
      by_cases hqp : q = x.page
      · subst hqp
        rw [Sl.upd_same]
        dsimp only
        rw [put_same, Sl.upd_same]
        refine ⟨a.held, ?_, ?_, ?_, Or.inr ⟨x.n, kk (Ls K) x.n.stamp, rfl, hf, hk2, hk1, hfo.2.1⟩⟩
        · have hd := a.debt
          rw [hy] at hd
          unfold dOf wrt at *
          dsimp only
          rw [List.append_nil]
          split at hd
          · cases hd
          · rename_i c l hc
            cases hd
            rfl
        · intro z hz
          unfold wrt at hz
          dsimp only at hz
          rw [List.append_nil] at hz
          exact a.pos z hz
        · have := a.len
          unfold wrt
          dsimp only
          rw [List.length_append, List.length_nil]
          omega
      · rw [Sl.upd_other _ _ _ _ hqp]
        dsimp only
        rw [put_other _ _ _ _ hqp, Sl.upd_other _ _ _ _ hqp]
        exact a.more (Nat.le_refl _) (Nat.le_refl _) hfo.1
  · rename_i hd
    by_cases hqp : q = x.page
    · subst hqp
      rw [Sl.upd_same]
      exact a.like (wrt_same (un_nil a.pos (by rw [← a.debt]; exact fun z hz => by rw [hd] at hz; cases hz)) wv).symm
    · rw [Sl.upd_other _ _ _ _ hqp]; exact a
theorem tie_drop (g : Tie k i K R h s) (p : Nat) (hp : p < k) (hu : (R p).un = []) (r : Rp) (hr : er r = er { R p with held := false }) : Tie k i K (Sl.upd R p r) (put h p none) s := by
  have e1 : r.nd = (R p).nd := by have := congrArg Rp.nd hr; exact this
  refine ⟨by rw [upd_nd, upd_self _ _ _ e1]; exact good_drop g.good p (fun y hy => by have hd := (g.page p hp).debt; rw [hy] at hd; rw [dOf_un hd, hu]; rfl), fun q hq => ?_⟩
  have a := g.page q hq
  by_cases hqp : q = p
  · subst hqp
    rw [Sl.upd_same, put_same]
    exact Tie1.like (r := { R q with held := false }) ⟨rfl, a.debt, a.pos, a.len, a.disk⟩ hr.symm
  · rw [Sl.upd_other _ _ _ _ hqp, put_other _ _ _ _ hqp]; exact a
theorem dOf_syn {p : Nat} {r : Rp} (hps : ∀ a, a ∈ r.wr ++ r.un → 0 < a) : (match dOf p r with
  | some y => if y.un = 0 then none else some (lag y)
  | none => none) = dOf p { r with wr := [], wv := .slice none 0 0 } := by
  obtain ⟨rn, rv, un, uv, wr, wv, held⟩ := r
  unfold dOf
  dsimp only at hps ⊢
  cases un with
  | nil =>
    cases wr with
    | nil => rfl
    | cons b l' => rfl
  | cons a l =>
    have h1 : 0 < a := hps a (by simp)
    cases wr with
    | nil => exact if_neg (by show ¬ a = 0; omega)
    | cons b l' => exact if_neg (by show ¬ a = 0; omega)
theorem tie_sync (g : Tie k i K R h s) : Tie k i K (syn R k) h ⟨synced s.d, fun i => (s.P i).secure, s.safe⟩ := by
  have e1 : (fun p => (syn R k p).nd) = fun p => (R p).nd := funext fun p => by unfold syn; split <;> rfl
  refine ⟨by rw [e1]; exact good_sync g.good, fun q hq => ?_⟩
  have a := g.page q hq
  have e2 : syn R k q = { R q with wr := [], wv := .slice none 0 0 } := by unfold syn; rw [if_pos hq]
  rw [e2]
  refine ⟨a.held, ?_, fun z hz => a.pos z (List.mem_append_right _ (by simpa using hz)), by have := a.len; dsimp only [List.length_nil]; omega, a.disk⟩
  rw [← dOf_syn a.pos, ← a.debt]
  rfl
theorem good_node {now : Nat → Nod} (g : Good k K now h s) (p : Nat) (hn : h p = none) (lv : Value) : Good k K now (put h p (some ⟨p, now p, lv⟩)) s := by
  refine ⟨g.oks.put _ _ fun x hx => by cases hx; rfl, g.okd, fun q hq => ?_, g.log⟩
  have a := g.page q hq
  by_cases hqp : q = p
  · subst hqp
    rw [put_same]
    obtain ⟨n1, t1, h1, h2, h3, h4⟩ := a.disk
    exact ⟨a.fits, a.given, fun z hz => by cases hz; rfl, ⟨n1, t1, h1, h2, h3, fun z hz => ⟨(h4 z hz).1, fun e => ⟨((h4 z hz).2 e).1, ((h4 z hz).2 e).2.1, _, rfl⟩⟩⟩, a.safe, a.fresh⟩
  · rw [put_other _ _ _ _ hqp]; exact a
/-- What the disk has of a page that isn't at hand. -/
theorem tie_miss (g : Tie k i K R h s) (p : Nat) (hp : p < k) (hn : h p = none) : ∃ t1, (s.P p).now = ofL t1 ∧ Con t1 (R p).nd := by
  have a := g.good.page p hp
  obtain ⟨n1, t1, h1, h2, h3, h4⟩ := a.disk
  refine ⟨t1, h1, ?_⟩
  have e : n1 = (R p).nd := by
    cases hd : s.d p with
    | none => exact h3 hd
    | some z =>
      by_cases hu : z.un = 0
      · exact (h4 z hd).1 hu
      · obtain ⟨-, -, b, hb⟩ := (h4 z hd).2 hu
        rw [hn] at hb; cases hb
  exact e ▸ h2
theorem tie_held (g : Tie k i K R h s) (p : Nat) (hp : p < k) (x : Sh) (hx : h p = some x) (r : Rp) (hr : er r = er { R p with held := true }) : Tie k i K (Sl.upd R p r) h s := by
  have e1 : r.nd = (R p).nd := by have := congrArg Rp.nd hr; exact this
  refine ⟨by rw [upd_nd, upd_self _ _ _ e1]; exact g.good, fun q hq => ?_⟩
  have a := g.page q hq
  by_cases hqp : q = p
  · subst hqp
    rw [Sl.upd_same]
    exact Tie1.like (r := { R q with held := true }) ⟨by rw [hx]; rfl, a.debt, a.pos, a.len, a.disk⟩ hr.symm
  · rw [Sl.upd_other _ _ _ _ hqp]; exact a
theorem tie_load (g : Tie k i K R h s) (p : Nat) (hp : p < k) (hn : h p = none) (lv : Value) (r : Rp) (hr : er r = er { R p with held := true }) : Tie k i K (Sl.upd R p r) (put h p (some ⟨p, (R p).nd, lv⟩)) s := by
  have e1 : r.nd = (R p).nd := by have := congrArg Rp.nd hr; exact this
  refine ⟨by rw [upd_nd, upd_self _ _ _ e1]; exact good_node g.good p hn lv, fun q hq => ?_⟩
  have a := g.page q hq
  by_cases hqp : q = p
  · subst hqp
    rw [Sl.upd_same, put_same]
    exact Tie1.like (r := { R q with held := true }) ⟨rfl, a.debt, a.pos, a.len, a.disk⟩ hr.symm
  · rw [Sl.upd_other _ _ _ _ hqp, put_other _ _ _ _ hqp]; exact a
/-- The pages below j that are at hand are written. -/
def wrH (R : Nat → Rp) (j : Nat) : Nat → Rp := fun p => if p < j ∧ (R p).held = true then wrt (R p) (.slice none 0 0) else R p
theorem wrH_zero (R : Nat → Rp) : wrH R 0 = R := by funext p; unfold wrH; rw [if_neg (by omega)]
theorem wrH_at (R : Nat → Rp) (j : Nat) : wrH R j j = R j := by unfold wrH; rw [if_neg (by omega)]
theorem wrH_yes (R : Nat → Rp) (j : Nat) (hh : (R j).held = true) (q : Nat) : wrH R (j + 1) q = Sl.upd (wrH R j) j (wrt (R j) (.slice none 0 0)) q := by
  by_cases hqj : q = j
  · subst hqj
    rw [Sl.upd_same]
    unfold wrH
    rw [if_pos ⟨by omega, hh⟩]
  · rw [Sl.upd_other _ _ _ _ hqj]
    unfold wrH
    by_cases h1 : q < j
    · by_cases h2 : (R q).held = true
      · rw [if_pos ⟨by omega, h2⟩, if_pos ⟨h1, h2⟩]
      · rw [if_neg (fun e => h2 e.2), if_neg (fun e => h2 e.2)]
    · rw [if_neg (by omega), if_neg (by omega)]
theorem wrH_no (R : Nat → Rp) (j : Nat) (hh : (R j).held = false) (q : Nat) : wrH R (j + 1) q = wrH R j q := by
  unfold wrH
  by_cases hqj : q = j
  · subst hqj
    rw [if_neg (fun e => by rw [hh] at e; cases e.2), if_neg (fun e => by rw [hh] at e; cases e.2)]
  · by_cases h1 : q < j
    · by_cases h2 : (R q).held = true
      · rw [if_pos ⟨by omega, h2⟩, if_pos ⟨h1, h2⟩]
      · rw [if_neg (fun e => h2 e.2), if_neg (fun e => h2 e.2)]
    · rw [if_neg (by omega), if_neg (by omega)]
theorem tie_fold (g : Tie k i K R h s) : ∀ j, j ≤ k → Tie k i K (wrH R j) h ((lst h j).foldl (wr1 (Ls K)) s)
  | 0, _ => by rw [wrH_zero]; exact g
  | j + 1, hj => by
    have ih := tie_fold g j (by omega)
    rw [lst_succ, List.foldl_append]
    have hh := (g.page j (by omega)).held
    cases hx : h j with
    | none =>
      rw [hx] at hh
      rw [show wrH R (j + 1) = wrH R j from funext (wrH_no R j hh)]
      exact ih
    | some x =>
      rw [hx] at hh
      have hxp := g.good.oks j x hx
      rw [show wrH R (j + 1) = Sl.upd (wrH R j) j (wrt (R j) (.slice none 0 0)) from funext (wrH_yes R j hh)]
      have := tie_wr ih x (by omega) (by rw [hxp]; exact hx) (.slice none 0 0)
      rw [hxp, wrH_at] at this
      exact this
theorem tie_first (g : Tie k i K R h s) (p : Nat) (hp : p < k) : frst (R p) = match s.d p with
    | some y => y.first
    | none => 0 := by
  rw [(g.page p hp).debt]
  unfold frst dOf
  generalize (R p).wr ++ (R p).un = l
  cases l <;> rfl
theorem tie_pos (g : Tie k i K R h s) (p : Nat) (hp : p < k) (y : Db) (hy : s.d p = some y) : 0 < y.first := by
  have hd := (g.page p hp).debt
  have hps := (g.page p hp).pos
  rw [hy] at hd
  unfold dOf at hd
  split at hd
  · cases hd
  · rename_i c l hc
    cases hd
    exact hps c (by rw [hc]; exact List.mem_cons_self ..)
end
end Go.Proofs.YtapdpdhibpblgaaGreatDoor.Tr
