/- Texts of ours, joined. -/
import Derived.Test.YteiiogaopgfpfaaBkR
import Derived.Test.YteiiogaopgfpfaaBkAc
import Derived.Test.YteiiogaopgfpfaaDyB
import Derived.Test.YteiiogaopgfpfaaBkJ
import Derived.Test.YteiiogaopgfpfaaBkAw
import Derived.Test.YteiiogaopgfpfaaBkPu
import Derived.Test.YteiiogaopgfpfaaBkVa
import Derived.Test.YteiiogaopgfpfaaSgP
import Derived.Test.YteiiogaopgfpfaaBkVd

-- joined
section
namespace Go.Proofs.Yteiiogaopgfpfaa.Wk
open Go.ChangeShapes Go.WideShapes Go.ChangeAt Go.RowKit Go.PlainAid Aid Nt Nd Tr Bk
set_option linter.unusedVariables false
set_option linter.unusedSimpArgs false
set_option linter.unusedSectionVars false
/-- The entries of a leaf, from a state on: the state behind them, and whether there is more to see. -/
def scan {σ : Type} (step : σ → Ent → σ × Bool) : σ → List Ent → σ × Bool
  | s, [] => (s, true)
  | s, e :: l => if (step s e).2 then scan step (step s e).1 l else ((step s e).1, false)
def gon (S : Sf) {σ : Type} (step : σ → Ent → σ × Bool) : Nat → Int → σ → Nat × σ
  | 0, _, s => (3, s)
  | l + 1, p, s => match at_ S p with
    | none => (1, s)
    | some n => if n.level ≠ 0 then (3, s) else
      if (scan step s n.list).2 then (if n.right = 0 then (0, (scan step s n.list).1) else gon S step l n.right (scan step s n.list).1) else (0, (scan step s n.list).1)
/-- What goOn comes to. -/
def goR (S : Sf) {σ : Type} (step : σ → Ent → σ × Bool) (root : Int) (key : By) (s : σ) : Nat × σ :=
  if (seek S 256 root 0 key).2.1 = 0 then gon S step (257 - (pagesR S root 0 key).length) ((pagesR S root 0 key).getLastD 0) s else ((seek S 256 root 0 key).2.1, s)
section
variable (gs : Nat) (S : Sf) (V : Nat → Value)
end
end Go.Proofs.Yteiiogaopgfpfaa.Wk
end

-- joined
section
namespace Go.Proofs.Yteiiogaopgfpfaa.Wk
open Go.ChangeShapes Go.WideShapes Go.ChangeAt Go.RowKit Go.PlainAid Aid Nt Nd Tr Bk
set_option linter.unusedVariables false
set_option linter.unusedSimpArgs false
set_option linter.unusedSectionVars false
/-- What first comes to. -/
def fstep (q : Ent → Bool) (s : Option Ent) (e : Ent) : Option Ent × Bool := if q e then (some e, false) else (s, !s.isSome)
/-- What Next and After come to. -/
def firR (S : Sf) (root : Int) (key : By) (q : Ent → Bool) : Nat × Option Ent :=
  if (goR S (fstep q) root key none).1 = 0 then (0, (goR S (fstep q) root key none).2) else ((goR S (fstep q) root key none).1, none)
section
variable (gs : Nat) (S : Sf) (V : Nat → Value)
end
end Go.Proofs.Yteiiogaopgfpfaa.Wk
end

-- joined
section
namespace Go.Proofs.Yteiiogaopgfpfaa.Wk
open Go.ChangeShapes Go.WideShapes Go.ChangeAt Go.RowKit Go.PlainAid Aid Nt Nd Tr Bk
set_option linter.unusedVariables false
set_option linter.unusedSimpArgs false
set_option linter.unusedSectionVars false
def nxtQ (key : By) (e : Ent) : Bool := !lt e.key key
def aftQ (key : By) (e : Ent) : Bool := !Nd.le e.key key
section
variable (gs : Nat) (S : Sf) (V : Nat → Value)
/-- What Gap comes to. -/
def endB : ByteArray := ⟨#[255, 255, 255, 255, 255, 255, 255, 255, 255]⟩
end
end Go.Proofs.Yteiiogaopgfpfaa.Wk
end

-- joined
section
namespace Go.Proofs.Yteiiogaopgfpfaa.Wk
open Go.ChangeShapes Go.WideShapes Go.ChangeAt Go.RowKit Go.PlainAid Aid Nt Nd Tr Bk
set_option linter.unusedVariables false
set_option linter.unusedSimpArgs false
set_option linter.unusedSectionVars false
/-- What Range gathers: the entries from low on, and the key of the first one above high. -/
def rstep (low high : By) (s : List Ent × ByteArray) (e : Ent) : (List Ent × ByteArray) × Bool :=
  if Nd.le e.key high then ((if lt e.key low then s.1 else s.1 ++ [e], s.2), true) else ((s.1, ofL e.key), false)
/-- What Range comes to. -/
def minK (low high : By) : By := if Nd.le low high then low else high
def ranR (S : Sf) (root : Int) (low high : By) : Nat × List Ent × ByteArray :=
  if (goR S (rstep low high) root (minK low high) ([], endB)).1 = 0 then (0, (goR S (rstep low high) root (minK low high) ([], endB)).2.1, (goR S (rstep low high) root (minK low high) ([], endB)).2.2) else ((goR S (rstep low high) root (minK low high) ([], endB)).1, [], ⟨#[]⟩)
section
variable (gs : Nat) (S : Sf) (V : Nat → Value)
end
end Go.Proofs.Yteiiogaopgfpfaa.Wk
end

-- joined
section
namespace Go.Proofs.Yteiiogaopgfpfaa.Wk
open Go.ChangeShapes Go.WideShapes Go.ChangeAt Go.RowKit Go.PlainAid Aid Nt Nd Tr Bk
set_option linter.unusedVariables false
set_option linter.unusedSimpArgs false
section
variable {σ : Type} (step : σ → Ent → σ × Bool) (q : Ent → Bool) (live : σ → Prop)
end
section
variable (S : Sf) (root : Int) (key : By)
end
end Go.Proofs.Yteiiogaopgfpfaa.Wk
end

-- joined
section
namespace Go.Proofs.Yteiiogaopgfpfaa.Wk
open Go.ChangeShapes Go.WideShapes Go.ChangeAt Go.RowKit Go.PlainAid Aid Nt Nd Tr Bk
set_option linter.unusedVariables false
set_option linter.unusedSimpArgs false
section
variable {σ : Type} (step : σ → Ent → σ × Bool)
theorem scan_append (l1 l2 : List Ent) : ∀ s, scan step s (l1 ++ l2) = if (scan step s l1).2 then scan step (scan step s l1).1 l2 else scan step s l1 := by
  induction l1 with
  | nil => intro s; rfl
  | cons e l ih =>
    intro s
    rw [List.cons_append, scan, scan]
    split
    · exact ih _
    · rfl
theorem gon_seg {S : Sf} {t : Int} : ∀ (A : List Nat) (lo : Option By) (p l : Nat) (s : σ), A ≠ [] → A.length ≤ l → (∀ a, a ∈ A → a < 256) → Seg S t 0 lo p A none 0 → gon S step l (p : Int) s = (0, (scan step s (lists S A)).1)
  | [], lo, p, l, s, h, _, _, _ => absurd rfl h
  | a :: A, lo, p, 0, s, _, hl, _, _ => by simp at hl
  | a :: A, lo, p, l + 1, s, _, hl, hb, hs => by
    obtain ⟨rfl, ⟨lo', rfl, ok⟩, hs2⟩ := hs
    have ha : p < 256 := hb p List.mem_cons_self
    rw [gon, at_page (S := S) (p : Int) (by omega) (by omega), show ((p : Int)).toNat = p from rfl]
    dsimp only
    rw [if_neg (by rw [ok.lv]; simp)]
    have e1 : lists S (p :: A) = (S p).list ++ lists S A := rfl
    rw [e1, scan_append]
    cases hm : (scan step s (S p).list).2 with
    | false => simp
    | true =>
      simp only [if_true]
      cases A with
      | nil =>
        obtain ⟨h1, h2⟩ := hs2
        have hn : (S p).has = false := by
          unfold hiN at h1
          cases h : (S p).has
          · rfl
          · rw [h] at h1; cases h1
        rw [if_pos (ok.nr hn)]
        rfl
      | cons b B =>
        have hs3 := hs2
        obtain ⟨h1, ⟨l', h2, ok2⟩, h3⟩ := hs2
        have hh : (S p).has = true := by
          unfold hiN at h2
          cases h : (S p).has
          · rw [h] at h2; cases h2
          · rfl
        have hr := ok.rt hh
        rw [if_neg hr]
        have hr2 := right_ok ok
        have e2 : (S p).right = (((S p).right.toNat : Nat) : Int) := by omega
        rw [e2]
        exact gon_seg (b :: B) _ _ l _ (by simp) (by simpa using hl) (fun a ha => hb a (List.mem_cons_of_mem _ ha)) hs3
end
theorem way_len (S : Sf) (ch : Nat → List Nat) (key : By) : ∀ n L, (way S ch key L n).length = n + 1
  | 0, L => rfl
  | n + 1, L => by rw [way, List.length_cons, way_len S ch key n]
theorem way_last (S : Sf) (ch : Nat → List Nat) (key : By) : ∀ n L, (way S ch key L n).getLast? = some ((fnd S key (ch (L - n)) : Int), S (fnd S key (ch (L - n))))
  | 0, L => rfl
  | n + 1, L => by
    rw [way, List.getLast?_cons, way_last S ch key n (L - 1), show L - 1 - n = L - (n + 1) by omega]
    rfl
section
variable {S : Sf} {r : Nat} {t : Int} {top : Nat} {ch : Nat → List Nat} {σ : Type} (step : σ → Ent → σ × Bool)
theorem tree_some (T : Tree S r t top ch) : ∀ L, L ≤ top → 0 < (ch L).length := by
  intro L hL
  obtain ⟨p0, h⟩ := T.lvl L hL
  cases hc : ch L with
  | nil => rw [hc] at h; cases h.1
  | cons a A => simp
theorem belw_ge (hne : ∀ L, L ≤ top → 0 < (ch L).length) : ∀ L, L ≤ top → (ch 0).length + L ≤ belw ch (L + 1)
  | 0, h => by unfold belw belw; omega
  | L + 1, h => by
    have := belw_ge hne L (by omega)
    have h2 := hne (L + 1) h
    rw [belw]
    omega
/-- From the leaf of a key on, all that is behind. -/
theorem tree_go (T : Tree S r t top ch) (key : By) (hk : le low key = true) (ht : top < 299) (s : σ) : ∃ A l B, Pos S t 0 (ch 0) A l (fnd S key (ch 0)) B ∧ le l key = true ∧ cov (S (fnd S key (ch 0))) key = true ∧ (∀ a, a ∈ A → cov (S a) key = false) ∧
    goR S step r key s = (0, (scan step s (lists S (fnd S key (ch 0) :: B))).1) := by
  obtain ⟨A, l, B, hp, h1, h2, h3⟩ := (T.lvl 0 (Nat.zero_le _)).find key hk
  refine ⟨A, l, B, hp, h1, h2, h3, ?_⟩
  obtain ⟨left', hs0⟩ := T.seek key hk 0 (Nat.zero_le _) ht
  have hs : Bk.seek S 256 r 0 key = (left', 0, way S ch key top (top - 0)) := hs0
  have hpg : pagesR S r 0 key = (way S ch key top top).map fun x => x.1 := by unfold pagesR; rw [hs]; rfl
  unfold goR
  rw [hs, if_pos rfl, hpg, List.length_map, way_len, List.getLastD_eq_getLast?, List.getLast?_map, way_last, Nat.sub_self]
  have hf := T.fits
  have hg := belw_ge (tree_some T) top (Nat.le_refl _)
  have hc : (ch 0).length = A.length + (B.length + 1) := by rw [hp.eq]; simp
  have hb : ∀ a, a ∈ fnd S key (ch 0) :: B → a < 256 := fun a ha => T.bnd 0 a (Nat.zero_le _) (by rw [hp.eq]; exact List.mem_append_right _ ha)
  simp only [Option.map_some, Option.getD_some]
  exact gon_seg step (fnd S key (ch 0) :: B) (Option.some l) _ _ s (by simp) (by rw [List.length_cons]; omega) hb ⟨rfl, ⟨l, rfl, hp.ok⟩, hp.post⟩
end
end Go.Proofs.Yteiiogaopgfpfaa.Wk
end

-- joined
section
namespace Go.Proofs.Yteiiogaopgfpfaa.Wk
open Go.ChangeShapes Go.WideShapes Go.ChangeAt Go.RowKit Go.PlainAid Aid Nt Nd Tr Bk
set_option linter.unusedVariables false
set_option linter.unusedSimpArgs false
/-! What is seen of a row of entries. -/
theorem scan_first (q : Ent → Bool) : ∀ l : List Ent, (scan (fstep q) none l).1 = l.find? q
  | [] => rfl
  | e :: l => by
    rw [scan, fstep, List.find?_cons]
    cases h : q e with
    | true => rfl
    | false =>
      simp only [Option.isSome_none, Bool.not_false, if_true, if_neg (show ¬ false = true by decide)]
      exact scan_first q l
theorem scan_range (low high : By) : ∀ (l : List Ent) (s : List Ent × ByteArray), (scan (rstep low high) s l).1 = (s.1 ++ (l.takeWhile fun e => Nd.le e.key high).filter (fun e => !lt e.key low), match l.find? (aftQ high) with
    | some e => ofL e.key
    | none => s.2)
  | [], s => by simp [scan]
  | e :: l, s => by
    rw [scan, rstep, List.find?_cons, List.takeWhile_cons]
    cases h : Nd.le e.key high with
    | true =>
      simp only [if_true]
      rw [scan_range low high l, show aftQ high e = false by unfold aftQ; rw [h]; rfl, List.filter_cons]
      cases h2 : lt e.key low with
      | true => simp
      | false => simp
    | false =>
      rw [show aftQ high e = true by unfold aftQ; rw [h]; rfl]
      simp
theorem srt_take (high : By) : ∀ {l : List Ent}, Srt l → (l.takeWhile fun e => Nd.le e.key high) = l.filter fun e => Nd.le e.key high
  | [], _ => rfl
  | e :: l, h => by
    obtain ⟨h1, h2⟩ := List.pairwise_cons.1 h
    rw [List.takeWhile_cons, List.filter_cons]
    cases hl : Nd.le e.key high with
    | true => simp only [if_true]; rw [srt_take high h2]
    | false =>
      simp only [if_neg (show ¬ false = true by decide)]
      refine (List.filter_eq_nil_iff.2 fun x hx => ?_).symm
      have := lt_trans _ _ _ (not_le.1 hl) (h1 x hx)
      rw [not_le.2 this]
      decide
/-! The answers on a tree. -/
/-- The key of the first one above. -/
def gapK (E : List Ent) (key : By) : By := match E.find? (aftQ key) with
  | some e => e.key
  | none => List.replicate 9 255
theorem ofL_gap (E : List Ent) (key : By) : ofL (gapK E key) = match E.find? (aftQ key) with
    | some e => ofL e.key
    | none => endB := by
  unfold gapK
  cases E.find? (aftQ key) with
  | some e => rfl
  | none => rfl
/-- The entries from low to high. -/
def btw (low high : By) (E : List Ent) : List Ent := E.filter fun e => !lt e.key low && Nd.le e.key high
section
variable {S : Sf} {r : Nat} {t : Int} {top : Nat} {ch : Nat → List Nat}
/-- Those ahead of a key's leaf, and those from it on. -/
theorem tree_cut {σ : Type} (step : σ → Ent → σ × Bool) (T : Tree S r t top ch) (key : By) (hk : le low key = true) (ht : top < 299) (s : σ) : ∃ E1 E2, lists S (ch 0) = E1 ++ E2 ∧ (∀ e, e ∈ E1 → lt e.key key = true) ∧ Srt E2 ∧ goR S step r key s = (0, (scan step s E2).1) := by
  obtain ⟨A, l, B, hp, h1, h2, h3, h4⟩ := tree_go step T key hk ht s
  obtain ⟨p0, hpre⟩ := hp.pre
  refine ⟨lists S A, lists S (fnd S key (ch 0) :: B), by rw [← lists_app, ← hp.eq], fun e he => lt_le (seg_below hpre e he) h1, ?_, h4⟩
  exact seg_srt (p := fnd S key (ch 0)) (lo := some l) (hi := none) (q := 0) ⟨rfl, ⟨l, rfl, hp.ok⟩, hp.post⟩
theorem tree_fir (T : Tree S r t top ch) (key : By) (hk : le low key = true) (ht : top < 299) (q : Ent → Bool) (hq : ∀ e, lt e.key key = true → q e = false) : firR S r key q = (0, (lists S (ch 0)).find? q) := by
  obtain ⟨E1, E2, h1, h2, -, h4⟩ := tree_cut (fstep q) T key hk ht none
  have hf : E1.find? q = none := List.find?_eq_none.2 fun a ha => by rw [hq a (h2 a ha)]; decide
  unfold firR
  rw [h4, if_pos rfl, scan_first, h1, List.find?_append, hf]
  rfl
theorem tree_next (T : Tree S r t top ch) (key : By) (hk : le low key = true) (ht : top < 299) : firR S r key (nxtQ key) = (0, (lists S (ch 0)).find? (nxtQ key)) :=
  tree_fir T key hk ht _ fun e h => by unfold nxtQ; rw [h]; rfl
theorem tree_after (T : Tree S r t top ch) (key : By) (hk : le low key = true) (ht : top < 299) : firR S r key (aftQ key) = (0, (lists S (ch 0)).find? (aftQ key)) :=
  tree_fir T key hk ht _ fun e h => by unfold aftQ; rw [le_of_lt h]; rfl
theorem min_le1 (a b : By) : Nd.le (minK a b) a = true := by
  unfold minK
  split
  · exact le_refl a
  · rename_i h
    exact le_of_lt (not_le.1 (by simpa using h))
theorem min_le2 (a b : By) : Nd.le (minK a b) b = true := by
  unfold minK
  split
  · rename_i h; exact h
  · exact le_refl b
theorem le_min {a b c : By} (h1 : Nd.le c a = true) (h2 : Nd.le c b = true) : Nd.le c (minK a b) = true := by
  unfold minK
  split
  · exact h1
  · exact h2
theorem tree_range (T : Tree S r t top ch) (lo hi : By) (h1 : le low lo = true) (h2 : le low hi = true) (ht : top < 299) : ranR S r lo hi = (0, btw lo hi (lists S (ch 0)), ofL (gapK (lists S (ch 0)) hi)) := by
  obtain ⟨E1, E2, e1, e2, e3, e4⟩ := tree_cut (rstep lo hi) T (minK lo hi) (le_min h1 h2) ht ([], endB)
  have hf : E1.find? (aftQ hi) = none := List.find?_eq_none.2 fun a ha => by unfold aftQ; rw [le_of_lt (lt_le (e2 a ha) (min_le2 lo hi))]; decide
  have hb : E1.filter (fun e => !lt e.key lo && Nd.le e.key hi) = [] := List.filter_eq_nil_iff.2 fun a ha => by rw [lt_le (e2 a ha) (min_le1 lo hi)]; simp
  unfold ranR
  rw [e4, if_pos rfl, scan_range, srt_take hi e3, ofL_gap]
  dsimp only
  unfold btw
  rw [e1, List.filter_append, hb, List.filter_filter, List.find?_append, hf]
  rfl
end
/-! Ranges one behind the other. -/
end Go.Proofs.Yteiiogaopgfpfaa.Wk
end

-- joined
section
namespace Go.Proofs.Yteiiogaopgfpfaa.Bk
open Go.ChangeShapes Go.WideShapes Go.ChangeAt Go.RowKit Go.PlainAid Aid Nt Nd Tr
set_option linter.unusedVariables false
set_option linter.unusedSimpArgs false
set_option linter.unusedSectionVars false
/-- One entry more is looked at: what stays, and whether one went. -/
def dp (key : By) (s : List Ent × Bool) (x : Ent) : List Ent × Bool := if x.key = key then (s.1, true) else (s.1 ++ [x], s.2)
def dropE (l : List Ent) (key : By) : List Ent × Bool := l.foldl (dp key) ([], false)
theorem dp_take (key : By) (l : List Ent) (k : Nat) (x : Ent) (h : l[k]? = some x) (s : List Ent × Bool) : (l.take (k + 1)).foldl (dp key) s = dp key ((l.take k).foldl (dp key) s) x := by
  rw [List.take_add_one, h, Option.toList_some, List.foldl_append]; rfl
theorem dp_all (key : By) : ∀ (l : List Ent) (s : List Ent × Bool), l.foldl (dp key) s = (s.1 ++ del key l, s.2 || decide (key ∈ l.map Ent.key))
  | [], s => by simp [del]
  | x :: l, s => by
    rw [List.foldl_cons, dp_all key l, dp]
    by_cases h : x.key = key
    · rw [if_pos h]
      simp [del, h]
    · rw [if_neg h]
      have h' : ¬ key = x.key := fun e => h e.symm
      simp [del, h, h']
theorem dropE_eq (l : List Ent) (key : By) : dropE l key = (del key l, decide (key ∈ l.map Ent.key)) := by
  unfold dropE
  rw [dp_all]
  simp
set_option maxRecDepth 100000 in
set_option maxHeartbeats 16000000 in
theorem refDrop_any (l : List Ent) (key : By) (v : Value) (w : World) (hl : l.length ≤ 100000) (hv : Row3 w v l) :
    Calls Try.prog 16 #[v, .string (ofL key)] w fun r w' => ∃ v', r = .returned (.tuple #[v', .bool (dropE l key).2]) ∧ Own w No w' (Asn.vec 44 3 v' (dropE l key).1.length (cells3 (dropE l key).1)) := by
  obtain ⟨A, c, rfl⟩ := hv.slice
  have S0 := Lib.hid (((Own.none w).alloc #[] 44).imp (Imp.l (blk_vec (cs := []) 0 3 rfl (by decide))))
  have HV := Lib.hid hv
  clear hv
  go_enter Try.func16, Try.ntmps16
  go_upto_region 3 with fail
  generalize World.alloc w _ = w1 at *
  go_wp2_with fail
  go_loopw [6, 7, 8] (fun out dn i wr => ∃ k : Nat, k ≤ l.length ∧ i = .int .i64 k ∧ dn = .bool ((l.take k).foldl (dp key) ([], false)).2 ∧ ((l.take k).foldl (dp key) ([], false)).1.length ≤ k ∧ Hid (Own w No wr (Asn.vec 44 3 out ((l.take k).foldl (dp key) ([], false)).1.length (cells3 ((l.take k).foldl (dp key) ([], false)).1) * Asn.emp))) (fun _ _ i _ => l.length - (intOf i).toNat)
  case atStart => exact ⟨0, Nat.zero_le _, rfl, rfl, Nat.le_refl _, S0⟩
  case round =>
    clear S0
    obtain ⟨k, hk, rfl, rfl, hlen, S1⟩ := hrel
    by_cases hlt : k < l.length
    · obtain ⟨x, hx⟩ : ∃ x, l[k]? = some x := ⟨l[k]'(by omega), List.getElem?_eq_getElem _⟩
      obtain ⟨b, o, rfl, hbl, a0, a1, a2⟩ := (HV.out.keep S1.out.bel).at hx
      have HST := Lib.hid (dp_take key l k x hx ([], false))
      generalize (l.take k).foldl (dp key) ([], false) = s at *
      obtain ⟨acc, dn⟩ := s
      dsimp only at hlen S1 ⊢
      have hkq : ((ofL x.key).toList == (ofL key).toList) = decide (x.key = key) := (str_eq _ _).trans (decide_eq_decide.2 ⟨fun h => Bk.ofL_inj h, fun h => by rw [h]⟩)
      clear hx
      by_cases h1 : x.key = key
      · rw [decide_eq_true h1] at hkq
        have hdp : dp key (acc, dn) x = (acc, true) := by unfold dp; rw [if_pos h1]
        clear h1
        go_wp2_with fail
        go_round
        case rel => exact ⟨k + 1, by omega, by go_num, by rw [HST.out, hdp], by rw [HST.out, hdp]; (simp only []; omega), Lib.hid (by rw [HST.out, hdp]; exact S1.out)⟩
        case measure => simp only [intOf]; omega
      · rw [decide_eq_false h1] at hkq
        have hdp : dp key (acc, dn) x = (acc ++ [x], dn) := by unfold dp; rw [if_neg h1]
        clear h1
        have S2q := Lib.hid ((S1.out.alloc #[.string (ofL x.key), .string (ofL x.val), .bool x.ghost] 44).re (show _ = Asn.vec 44 3 u6 acc.length (cells3 acc) * (Asn.blk wr.heap.size 44 #[.string (ofL x.key), .string (ofL x.val), .bool x.ghost] * Asn.emp) by ac_rfl))
        have S2x : Hid (Src Try.prog 3 27 (.slice (some ⟨wr.heap.size, 0, none⟩) 1 1) 1 [.string (ofL x.key), .string (ofL x.val), .bool x.ghost] (wr.alloc (.cells #[.string (ofL x.key), .string (ofL x.val), .bool x.ghost] 44))) := Lib.hid (src_blk Try.underlying27 (S2q.out.has (Has.r (Has.l (has_blk _ _ _)))) rfl (by intro u hu; simp at hu; rcases hu with rfl | rfl | rfl <;> rfl))
        go_wp2_with (with_reducible refine wpList_append_vec rfl (.tmp 23) (.tmp 28) 27 27 rfl 44 _ 3 40 Try.underlying27 info_entry ?ap1a ?ap1b u6 acc.length (cells3 acc) ?ap1c S2q.out.vec (.slice (some ⟨wr.heap.size, 0, none⟩) 1 1) ?ap1d 1 _ S2x.out ?ap1e ?ap1f ?_)
        case ap1a => rfl
        case ap1b => decide
        try (case ap1c => rfl)
        try (case ap1d => rfl)
        case ap1e => unfold maxLen; omega
        case ap1f => omega
        intro v3 w3 hvap1 hcap1 hfap1
        have S3 := Lib.hid (((S2q.out.app hvap1 hcap1 hfap1).re (show _ = Asn.blk wr.heap.size 44 #[.string (ofL x.key), .string (ofL x.val), .bool x.ghost] * (Asn.vec 44 3 v3 (acc.length + 1) ((cells3 acc) ++ [.string (ofL x.key), .string (ofL x.val), .bool x.ghost]) * Asn.emp) by ac_rfl)).right)
        clear S1 S2q S2x hvap1 hcap1 hfap1
        have S4 := Lib.hid (vec_snoc S3.out)
        clear S3
        clear a0 a1 a2
        go_wp2_with fail
        go_round
        case rel => exact ⟨k + 1, by omega, by go_num, by rw [HST.out, hdp], by rw [HST.out, hdp]; (simp; omega), Lib.hid (by rw [HST.out, hdp]; exact S4.out)⟩
        case measure => simp only [intOf]; omega
    · obtain rfl : k = l.length := by omega
      rw [List.take_length] at S1 hlen ⊢
      have HPE : Hid (dropE l key = l.foldl (dp key) ([], false)) := Lib.hid rfl
      generalize l.foldl (dp key) ([], false) = s at *
      obtain ⟨acc, dn⟩ := s
      dsimp only at hlen S1 HPE ⊢
      go_wp2_with fail
      go_returns
      rw [HPE.out]
      exact ⟨_, rfl, (S1.out.re (show _ = Asn.emp * Asn.vec 44 3 u6 acc.length (cells3 acc) by ac_rfl)).right⟩
end Go.Proofs.Yteiiogaopgfpfaa.Bk
end

-- joined
section
namespace Go.Proofs.Yteiiogaopgfpfaa.Sg
open Go.RowKit Go.PlainAid
set_option linter.unusedVariables false

end Go.Proofs.Yteiiogaopgfpfaa.Sg
end

-- joined
section
namespace Go.Proofs.Yteiiogaopgfpfaa.Wk
open Aid Nt Nd Bk
open Ky (keyZ)
set_option linter.unusedVariables false
set_option linter.unusedSimpArgs false
set_option linter.unusedSectionVars false
def Md (n : Nod) : Prop := n.list.length ≤ 99999 ∧ Low63 n
section
variable {S : Sf} (hs : Sm S) (hv : LvOk S)
include hs hv
theorem so_md (r lv : Int) (key : By) : Md (so S r lv key).nd :=
  so_P (Pr := Md) ⟨by decide, show (0 : Int) ≤ 9223372036854775807 by decide⟩ (fun p hp => ⟨hs p hp, hv p hp⟩) r lv key
theorem put_md (r : Int) (e : Ent) : (putR S r e).2.length ≤ 3 ∧ ∀ x, x ∈ (putR S r e).2 → Md x.2 := by
  have h2 := (so_md hs hv r 0 e.key).2
  unfold putR
  split
  · split
    · split
      · rename_i hf
        refine ⟨by simp, fun x hx => ?_⟩
        obtain rfl := List.mem_singleton.1 hx
        exact ⟨Nat.le_trans (fits_len hf) (by decide), h2⟩
      · exact ⟨by simp, fun x hx => by cases hx⟩
    · exact ⟨by simp, fun x hx => by cases hx⟩
  · exact ⟨by simp, fun x hx => by cases hx⟩
theorem hang_md (r lv : Int) (key : By) (page : Int) : (hangR S r lv key page).2.length ≤ 3 ∧ ∀ x, x ∈ (hangR S r lv key page).2 → Md x.2 := by
  have h2 := (so_md hs hv r lv key).2
  unfold hangR
  split
  · split
    · exact ⟨by simp, fun x hx => by cases hx⟩
    · split
      · rename_i hf
        refine ⟨by simp, fun x hx => ?_⟩
        obtain rfl := List.mem_singleton.1 hx
        exact ⟨Nat.le_trans (fits_len hf) (by decide), h2⟩
      · exact ⟨by simp, fun x hx => by cases hx⟩
  · exact ⟨by simp, fun x hx => by cases hx⟩
theorem drop_md (r : Int) (key : By) : (dropR S r key).2.length ≤ 3 ∧ ∀ x, x ∈ (dropR S r key).2 → Md x.2 := by
  have h2 := so_md hs hv r 0 key
  unfold dropR
  split
  · split
    · refine ⟨by simp, fun x hx => ?_⟩
      obtain rfl := List.mem_singleton.1 hx
      exact ⟨Nat.le_trans (List.length_eraseIdx_le _ _) h2.1, h2.2⟩
    · exact ⟨by simp, fun x hx => by cases hx⟩
  · exact ⟨by simp, fun x hx => by cases hx⟩
theorem split_md (r lv : Int) (key : By) (f0 f1 : Int) : (splitR S r lv key f0 f1).2.1.length ≤ 3 ∧ ∀ x, x ∈ (splitR S r lv key f0 f1).2.1 → Md x.2 := by
  have h2 := so_md hs hv r lv key
  unfold splitR
  generalize so S r lv key = v at *
  have ht : ∀ k, (v.nd.list.take k).length ≤ 99999 := fun k => by rw [List.length_take]; have := h2.1; omega
  have hd : ∀ k, (v.nd.list.drop k).length ≤ 99999 := fun k => by rw [List.length_drop]; have := h2.1; omega
  split
  · split
    · exact ⟨by simp, fun x hx => by cases hx⟩
    · split
      · refine ⟨by simp, fun x hx => ?_⟩
        rcases List.mem_cons.1 hx with rfl | hx
        · exact ⟨ht _, h2.2⟩
        · obtain rfl := List.mem_singleton.1 hx
          exact ⟨hd _, h2.2⟩
      · split
        · exact ⟨by simp, fun x hx => by cases hx⟩
        · refine ⟨by simp [grw], fun x hx => ?_⟩
          unfold grw at hx
          rcases List.mem_cons.1 hx with rfl | hx
          · refine ⟨by simp, ?_⟩
            show Go.RowKit.wrap64 (v.nd.level + 1) ≤ 9223372036854775807
            unfold Go.RowKit.wrap64
            omega
          · rcases List.mem_cons.1 hx with rfl | hx
            · exact ⟨ht _, h2.2⟩
            · obtain rfl := List.mem_singleton.1 hx
              exact ⟨hd _, h2.2⟩
  · exact ⟨by simp, fun x hx => by cases hx⟩
end
theorem puts_md {S : Sf} (hs : Sm S) (hv : LvOk S) {L : List (Int × Nod)} (h : ∀ x, x ∈ L → Md x.2) : Sm (puts S L) ∧ LvOk (puts S L) :=
  ⟨hs.puts fun x hx => (h x hx).1, hv.puts fun x hx => (h x hx).2⟩
/-! A number's key. -/
/-! A tree behind Drops. -/
structure Dn (S : Sf) (l : List Ent) (top : Nat) (ch : Nat → List Nat) : Prop where
  tree : Tree S 3 0 top ch
  one : top ≤ 1
  row : lists S (ch 0) = l
theorem Gn.dn {S : Sf} {l : List Ent} {next top : Nat} {ch : Nat → List Nat} (h : Gn S l next top ch) : Dn S l top ch := ⟨h.tree, h.one, h.row⟩
section
variable {S : Sf} {l : List Ent} {top : Nat} {ch : Nat → List Nat} (h : Dn S l top ch)
include h
theorem Dn.range (lo hi : By) (h1 : le low lo = true) (h2 : le low hi = true) : ranR S 3 lo hi = (0, btw lo hi l, ofL (gapK l hi)) := by
  rw [← h.row]; exact tree_range h.tree lo hi h1 h2 (by have := h.one; omega)
theorem Dn.next (key : By) (h1 : le low key = true) : firR S 3 key (nxtQ key) = (0, l.find? (nxtQ key)) := by
  rw [← h.row]; exact tree_next h.tree key h1 (by have := h.one; omega)
theorem Dn.after (key : By) (h1 : le low key = true) : firR S 3 key (aftQ key) = (0, l.find? (aftQ key)) := by
  rw [← h.row]; exact tree_after h.tree key h1 (by have := h.one; omega)
end
end Go.Proofs.Yteiiogaopgfpfaa.Wk
end
