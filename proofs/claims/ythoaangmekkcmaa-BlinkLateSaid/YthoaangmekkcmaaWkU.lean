/- Texts of ours, joined. -/
import Derived.Test.YthoaangmekkcmaaBmF
import Derived.Test.YthoaangmekkcmaaBkPu
import Derived.Test.YthoaangmekkcmaaBkVa
import Derived.Test.YthoaangmekkcmaaSgP
import Derived.Test.YthoaangmekkcmaaBkVd
import Derived.Test.YthoaangmekkcmaaBkAw

-- joined
section
namespace Go.Proofs.Ythoaangmekkcmaa.Wk
open Go.ChangeShapes Go.WideShapes Go.ChangeAt Go.RowKit Go.PlainAid Aid Nt Nd Tr Bk
set_option linter.unusedVariables false
set_option linter.unusedSimpArgs false
/-! What is seen of a row of entries. -/
theorem scan_first (q : Ent → Bool) : ∀ l : List Ent, (scan (fstep q) none l).1 = l.find? q
  | [] => rfl
  | e :: l => by
    rw [scan, fstep, List.find?_cons]
    cases h : q e with
    | true => rfl
    | false =>
      simp only [Option.isSome_none, Bool.not_false, if_true, if_neg (show ¬ false = true by decide)]
      exact scan_first q l
theorem scan_range (low high : By) : ∀ (l : List Ent) (s : List Ent × ByteArray), (scan (rstep low high) s l).1 = (s.1 ++ (l.takeWhile fun e => Nd.le e.key high).filter (fun e => !lt e.key low), match l.find? (aftQ high) with
    | some e => ofL e.key
    | none => s.2)
  | [], s => by simp [scan]
  | e :: l, s => by
    rw [scan, rstep, List.find?_cons, List.takeWhile_cons]
    cases h : Nd.le e.key high with
    | true =>
      simp only [if_true]
      rw [scan_range low high l, show aftQ high e = false by unfold aftQ; rw [h]; rfl, List.filter_cons]
      cases h2 : lt e.key low with
      | true => simp
      | false => simp
    | false =>
      rw [show aftQ high e = true by unfold aftQ; rw [h]; rfl]
      simp
theorem srt_take (high : By) : ∀ {l : List Ent}, Srt l → (l.takeWhile fun e => Nd.le e.key high) = l.filter fun e => Nd.le e.key high
  | [], _ => rfl
  | e :: l, h => by
    obtain ⟨h1, h2⟩ := List.pairwise_cons.1 h
    rw [List.takeWhile_cons, List.filter_cons]
    cases hl : Nd.le e.key high with
    | true => simp only [if_true]; rw [srt_take high h2]
    | false =>
      simp only [if_neg (show ¬ false = true by decide)]
      refine (List.filter_eq_nil_iff.2 fun x hx => ?_).symm
      have := lt_trans _ _ _ (not_le.1 hl) (h1 x hx)
      rw [not_le.2 this]
      decide
/-! The answers on a tree. -/
/-- The key of the first one above. -/
def gapK (E : List Ent) (key : By) : By := match E.find? (aftQ key) with
  | some e => e.key
  | none => List.replicate 9 255
theorem ofL_gap (E : List Ent) (key : By) : ofL (gapK E key) = match E.find? (aftQ key) with
    | some e => ofL e.key
    | none => endB := by
  unfold gapK
  cases E.find? (aftQ key) with
  | some e => rfl
  | none => rfl
/-- The entries from low to high. -/
def btw (low high : By) (E : List Ent) : List Ent := E.filter fun e => !lt e.key low && Nd.le e.key high
section
variable {S : Sf} {r : Nat} {t : Int} {top : Nat} {ch : Nat → List Nat}
/-- Those ahead of a key's leaf, and those from it on. -/
theorem tree_cut {σ : Type} (step : σ → Ent → σ × Bool) (T : Tree S r t top ch) (key : By) (hk : le low key = true) (ht : top < 299) (s : σ) : ∃ E1 E2, lists S (ch 0) = E1 ++ E2 ∧ (∀ e, e ∈ E1 → lt e.key key = true) ∧ Srt E2 ∧ goR S step r key s = (0, (scan step s E2).1) := by
  obtain ⟨A, l, B, hp, h1, h2, h3, h4⟩ := tree_go step T key hk ht s
  obtain ⟨p0, hpre⟩ := hp.pre
  refine ⟨lists S A, lists S (fnd S key (ch 0) :: B), by rw [← lists_app, ← hp.eq], fun e he => lt_le (seg_below hpre e he) h1, ?_, h4⟩
  exact seg_srt (p := fnd S key (ch 0)) (lo := some l) (hi := none) (q := 0) ⟨rfl, ⟨l, rfl, hp.ok⟩, hp.post⟩
theorem tree_fir (T : Tree S r t top ch) (key : By) (hk : le low key = true) (ht : top < 299) (q : Ent → Bool) (hq : ∀ e, lt e.key key = true → q e = false) : firR S r key q = (0, (lists S (ch 0)).find? q) := by
  obtain ⟨E1, E2, h1, h2, -, h4⟩ := tree_cut (fstep q) T key hk ht none
  have hf : E1.find? q = none := List.find?_eq_none.2 fun a ha => by rw [hq a (h2 a ha)]; decide
  unfold firR
  rw [h4, if_pos rfl, scan_first, h1, List.find?_append, hf]
  rfl
theorem tree_next (T : Tree S r t top ch) (key : By) (hk : le low key = true) (ht : top < 299) : firR S r key (nxtQ key) = (0, (lists S (ch 0)).find? (nxtQ key)) :=
  tree_fir T key hk ht _ fun e h => by unfold nxtQ; rw [h]; rfl
theorem min_le1 (a b : By) : Nd.le (minK a b) a = true := by
  unfold minK
  split
  · exact le_refl a
  · rename_i h
    exact le_of_lt (not_le.1 (by simpa using h))
theorem min_le2 (a b : By) : Nd.le (minK a b) b = true := by
  unfold minK
  split
  · rename_i h; exact h
  · exact le_refl b
theorem le_min {a b c : By} (h1 : Nd.le c a = true) (h2 : Nd.le c b = true) : Nd.le c (minK a b) = true := by
  unfold minK
  split
  · exact h1
  · exact h2
theorem tree_range (T : Tree S r t top ch) (lo hi : By) (h1 : le low lo = true) (h2 : le low hi = true) (ht : top < 299) : ranR S r lo hi = (0, btw lo hi (lists S (ch 0)), ofL (gapK (lists S (ch 0)) hi)) := by
  obtain ⟨E1, E2, e1, e2, e3, e4⟩ := tree_cut (rstep lo hi) T (minK lo hi) (le_min h1 h2) ht ([], endB)
  have hf : E1.find? (aftQ hi) = none := List.find?_eq_none.2 fun a ha => by unfold aftQ; rw [le_of_lt (lt_le (e2 a ha) (min_le2 lo hi))]; decide
  have hb : E1.filter (fun e => !lt e.key lo && Nd.le e.key hi) = [] := List.filter_eq_nil_iff.2 fun a ha => by rw [lt_le (e2 a ha) (min_le1 lo hi)]; simp
  unfold ranR
  rw [e4, if_pos rfl, scan_range, srt_take hi e3, ofL_gap]
  dsimp only
  unfold btw
  rw [e1, List.filter_append, hb, List.filter_filter, List.find?_append, hf]
  rfl
end
/-! Ranges one behind the other. -/
end Go.Proofs.Ythoaangmekkcmaa.Wk
end

-- joined
section
namespace Go.Proofs.Ythoaangmekkcmaa.Bk
open Go.ChangeShapes Go.WideShapes Go.ChangeAt Go.RowKit Go.PlainAid Aid Nt Nd Tr
set_option linter.unusedVariables false
set_option linter.unusedSimpArgs false
set_option linter.unusedSectionVars false
/-- One entry more is looked at: what stays, and whether one went. -/
def dp (key : By) (s : List Ent × Bool) (x : Ent) : List Ent × Bool := if x.key = key then (s.1, true) else (s.1 ++ [x], s.2)
def dropE (l : List Ent) (key : By) : List Ent × Bool := l.foldl (dp key) ([], false)
theorem dp_all (key : By) : ∀ (l : List Ent) (s : List Ent × Bool), l.foldl (dp key) s = (s.1 ++ del key l, s.2 || decide (key ∈ l.map Ent.key))
  | [], s => by simp [del]
  | x :: l, s => by
    rw [List.foldl_cons, dp_all key l, dp]
    by_cases h : x.key = key
    · rw [if_pos h]
      simp [del, h]
    · rw [if_neg h]
      have h' : ¬ key = x.key := fun e => h e.symm
      simp [del, h, h']
theorem dropE_eq (l : List Ent) (key : By) : dropE l key = (del key l, decide (key ∈ l.map Ent.key)) := by
  unfold dropE
  rw [dp_all]
  simp
end Go.Proofs.Ythoaangmekkcmaa.Bk
end

-- joined
section
namespace Go.Proofs.Ythoaangmekkcmaa.Sg
open Go.RowKit Go.PlainAid
set_option linter.unusedVariables false

end Go.Proofs.Ythoaangmekkcmaa.Sg
end

-- joined
section
namespace Go.Proofs.Ythoaangmekkcmaa.Wk
open Aid Nt Nd Bk
open Ky (keyZ)
set_option linter.unusedVariables false
set_option linter.unusedSimpArgs false
set_option linter.unusedSectionVars false
def Md (n : Nod) : Prop := n.list.length ≤ 99999 ∧ Low63 n
section
variable {S : Sf} (hs : Sm S) (hv : LvOk S)
include hs hv
theorem so_md (r lv : Int) (key : By) : Md (so S r lv key).nd :=
  so_P (Pr := Md) ⟨by decide, show (0 : Int) ≤ 9223372036854775807 by decide⟩ (fun p hp => ⟨hs p hp, hv p hp⟩) r lv key
theorem put_md (r : Int) (e : Ent) : (putR S r e).2.length ≤ 3 ∧ ∀ x, x ∈ (putR S r e).2 → Md x.2 := by
  have h2 := (so_md hs hv r 0 e.key).2
  unfold putR
  split
  · split
    · split
      · rename_i hf
        refine ⟨by simp, fun x hx => ?_⟩
        obtain rfl := List.mem_singleton.1 hx
        exact ⟨Nat.le_trans (fits_len hf) (by decide), h2⟩
      · exact ⟨by simp, fun x hx => by cases hx⟩
    · exact ⟨by simp, fun x hx => by cases hx⟩
  · exact ⟨by simp, fun x hx => by cases hx⟩
theorem hang_md (r lv : Int) (key : By) (page : Int) : (hangR S r lv key page).2.length ≤ 3 ∧ ∀ x, x ∈ (hangR S r lv key page).2 → Md x.2 := by
  have h2 := (so_md hs hv r lv key).2
  unfold hangR
  split
  · split
    · exact ⟨by simp, fun x hx => by cases hx⟩
    · split
      · rename_i hf
        refine ⟨by simp, fun x hx => ?_⟩
        obtain rfl := List.mem_singleton.1 hx
        exact ⟨Nat.le_trans (fits_len hf) (by decide), h2⟩
      · exact ⟨by simp, fun x hx => by cases hx⟩
  · exact ⟨by simp, fun x hx => by cases hx⟩
theorem split_md (r lv : Int) (key : By) (f0 f1 : Int) : (splitR S r lv key f0 f1).2.1.length ≤ 3 ∧ ∀ x, x ∈ (splitR S r lv key f0 f1).2.1 → Md x.2 := by
  have h2 := so_md hs hv r lv key
  unfold splitR
  generalize so S r lv key = v at *
  have ht : ∀ k, (v.nd.list.take k).length ≤ 99999 := fun k => by rw [List.length_take]; have := h2.1; omega
  have hd : ∀ k, (v.nd.list.drop k).length ≤ 99999 := fun k => by rw [List.length_drop]; have := h2.1; omega
  split
  · split
    · exact ⟨by simp, fun x hx => by cases hx⟩
    · split
      · refine ⟨by simp, fun x hx => ?_⟩
        rcases List.mem_cons.1 hx with rfl | hx
        · exact ⟨ht _, h2.2⟩
        · obtain rfl := List.mem_singleton.1 hx
          exact ⟨hd _, h2.2⟩
      · split
        · exact ⟨by simp, fun x hx => by cases hx⟩
        · refine ⟨by simp [grw], fun x hx => ?_⟩
          unfold grw at hx
          rcases List.mem_cons.1 hx with rfl | hx
          · refine ⟨by simp, ?_⟩
            show Go.RowKit.wrap64 (v.nd.level + 1) ≤ 9223372036854775807
            unfold Go.RowKit.wrap64
            omega
          · rcases List.mem_cons.1 hx with rfl | hx
            · exact ⟨ht _, h2.2⟩
            · obtain rfl := List.mem_singleton.1 hx
              exact ⟨hd _, h2.2⟩
  · exact ⟨by simp, fun x hx => by cases hx⟩
end
theorem puts_md {S : Sf} (hs : Sm S) (hv : LvOk S) {L : List (Int × Nod)} (h : ∀ x, x ∈ L → Md x.2) : Sm (puts S L) ∧ LvOk (puts S L) :=
  ⟨hs.puts fun x hx => (h x hx).1, hv.puts fun x hx => (h x hx).2⟩
/-! A number's key. -/
/-! A tree behind Drops. -/
structure Dn (S : Sf) (l : List Ent) (top : Nat) (ch : Nat → List Nat) : Prop where
  tree : Tree S 3 0 top ch
  one : top ≤ 1
  row : lists S (ch 0) = l
theorem Gn.dn {S : Sf} {l : List Ent} {next top : Nat} {ch : Nat → List Nat} (h : Gn S l next top ch) : Dn S l top ch := ⟨h.tree, h.one, h.row⟩
section
variable {S : Sf} {l : List Ent} {top : Nat} {ch : Nat → List Nat} (h : Dn S l top ch)
include h
theorem Dn.drop (key : By) (hk : key.length = 9) :
    ((dropR S 3 key).1 = 0 ∧ Dn (puts S (dropR S 3 key).2) (dropE l key).1 top ch) ∨ (dropR S 3 key).1 = 7 := by
  rcases tree_drop h.tree key hk (by have := h.one; omega) with ⟨h1, h2, h3, h4⟩ | ⟨h1, h2⟩
  · refine Or.inl ⟨h1, h3, h.one, ?_⟩
    rw [dropE_eq]
    show _ = del key l
    rw [← h.row]
    exact h4
  · exact Or.inr (by show (dropR S ((3 : Nat) : Int) key).1 = 7; rw [h1])
theorem Dn.range (lo hi : By) (h1 : le low lo = true) (h2 : le low hi = true) : ranR S 3 lo hi = (0, btw lo hi l, ofL (gapK l hi)) := by
  rw [← h.row]; exact tree_range h.tree lo hi h1 h2 (by have := h.one; omega)
theorem Dn.next (key : By) (h1 : le low key = true) : firR S 3 key (nxtQ key) = (0, l.find? (nxtQ key)) := by
  rw [← h.row]; exact tree_next h.tree key h1 (by have := h.one; omega)
end
end Go.Proofs.Ythoaangmekkcmaa.Wk
end
