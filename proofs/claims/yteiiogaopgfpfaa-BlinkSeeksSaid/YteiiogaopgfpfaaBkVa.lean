/- Texts of ours, joined. -/
import Derived.Test.YteiiogaopgfpfaaBkAw
import Derived.Test.YteiiogaopgfpfaaBkAc
import Derived.Test.YteiiogaopgfpfaaBkPu
import Derived.Test.YteiiogaopgfpfaaBkAb
import Derived.Test.YteiiogaopgfpfaaBkX

-- joined
section
namespace Go.Proofs.Yteiiogaopgfpfaa.Bk
open Nt Nd
set_option linter.unusedVariables false
set_option linter.unusedSimpArgs false
set_option linter.unusedSectionVars false
/-- Rising entries by a key: those below, the one, those above. -/
structure Thr (key : By) (l l0 m l2 : List Ent) : Prop where
  eq : l = l0 ++ (m ++ l2)
  lo : ∀ e, e ∈ l0 → lt e.key key = true
  hi : ∀ e, e ∈ l2 → lt key e.key = true
  md : m = [] ∨ ∃ x, m = [x] ∧ x.key = key
theorem srt_three (key : By) : ∀ {l : List Ent}, Srt l → ∃ l0 m l2, Thr key l l0 m l2
  | [], _ => ⟨[], [], [], rfl, by simp, by simp, Or.inl rfl⟩
  | e :: l, h => by
    obtain ⟨h1, h2⟩ := List.pairwise_cons.1 h
    cases hl : lt e.key key with
    | true =>
      obtain ⟨l0, m, l2, rfl, h3, h4, h5⟩ := srt_three key h2
      exact ⟨e :: l0, m, l2, rfl, fun x hx => by
        rcases List.mem_cons.1 hx with rfl | hx
        · exact hl
        · exact h3 x hx, h4, h5⟩
    | false =>
      cases hk : lt key e.key with
      | true => exact ⟨[], [], e :: l, rfl, by simp, fun x hx => by
          rcases List.mem_cons.1 hx with rfl | hx
          · exact hk
          · exact lt_trans _ _ _ hk (h1 x hx), Or.inl rfl⟩
      | false =>
        have he := lt_conn _ _ hl hk
        exact ⟨[], [e], l, rfl, by simp, fun x hx => he ▸ h1 x hx, Or.inr ⟨e, rfl, he⟩⟩
section
variable {key : By} {l l0 m l2 : List Ent}
theorem Thr.srt (h : Thr key l l0 m l2) (hs : Srt l) : Srt l0 ∧ Srt l2 := by
  obtain ⟨rfl, -, -, -⟩ := h
  have h1 := List.pairwise_append.1 hs
  exact ⟨h1.1, (List.pairwise_append.1 h1.2.1).2.1⟩
theorem Thr.last (h : Thr key l l0 m l2) : lastLe l key l.length = ((l0 ++ m).length : Int) - 1 := by
  obtain ⟨rfl, h1, h2, h3⟩ := h
  have hle : ∀ x, x ∈ l0 ++ m → le x.key key = true := by
    intro x hx
    rcases List.mem_append.1 hx with hx | hx
    · exact le_of_lt (h1 x hx)
    · rcases h3 with rfl | ⟨y, rfl, hy⟩
      · cases hx
      · rw [List.mem_singleton] at hx
        rw [hx, hy]
        exact le_refl _
  rw [← List.append_assoc]
  generalize l0 ++ m = a at *
  rcases lastLe_or (a ++ l2) key _ (Nat.le_refl _) with ⟨e1, e2⟩ | ⟨i, x, e1, e2, e3, e4, e5⟩
  · rw [e1]
    cases a with
    | nil => rfl
    | cons x a =>
      have := e2 0 x (by simp) rfl
      rw [hle x List.mem_cons_self] at this
      cases this
  · rw [e1]
    have hi : i < a.length := by
      rcases Nat.lt_or_ge i a.length with hi | hi
      · exact hi
      · rw [List.getElem?_append_right hi] at e3
        rw [not_le.2 (h2 x (List.mem_of_getElem? e3))] at e4
        cases e4
    rcases Nat.lt_or_ge (i + 1) a.length with hj | hj
    · have h6 : (a ++ l2)[i + 1]? = some (a[i + 1]'hj) := by rw [List.getElem?_append_left hj]; exact List.getElem?_eq_getElem hj
      have := e5 (i + 1) _ (by omega) (by simp only [List.length_append]; omega) h6
      rw [hle _ (List.getElem_mem hj)] at this
      cases this
    · omega
theorem Thr.plc {n : Nod} (h : Thr key n.list l0 m l2) : plc n key = ((l0.length : Int), !m.isEmpty) := by
  have hl := h.last
  obtain ⟨h0, h1, h2, h3⟩ := h
  rcases h3 with rfl | ⟨x, rfl, hx⟩
  · rw [List.append_nil] at hl
    rcases List.eq_nil_or_concat l0 with rfl | ⟨l0, y, rfl⟩
    · unfold Bk.plc
      rw [hl]
      rfl
    · have hy : n.list[l0.length]? = some y := by rw [h0]; simp
      have hk : y.key ≠ key := lt_ne (h1 y (by simp))
      rw [plc_miss (q := l0.length) (e := y) (by rw [hl]; simp) hy hk]
      simp
  · have hy : n.list[l0.length]? = some x := by rw [h0]; simp
    rw [plc_hit (q := l0.length) (e := x) (by rw [hl]; simp) hy hx]
    simp
theorem Thr.wth {n : Nod} {e : Ent} (h : Thr e.key n.list l0 m l2) : (wth n e).list = l0 ++ e :: l2 := by
  unfold Bk.wth wl
  rw [h.plc]
  dsimp only
  rw [Int.toNat_natCast, h.eq]
  rcases h.md with rfl | ⟨x, rfl, hx⟩
  · simp
  · simp
theorem Thr.erase {n : Nod} (h : Thr key n.list l0 m l2) (hm : m ≠ []) : n.list.eraseIdx (Bk.plc n key).1.toNat = l0 ++ l2 := by
  rw [h.plc]
  dsimp only
  rw [Int.toNat_natCast, h.eq]
  rcases h.md with rfl | ⟨x, rfl, hx⟩
  · exact absurd rfl hm
  · rw [List.eraseIdx_append_of_length_le (Nat.le_refl _), Nat.sub_self]
    rfl
/-- In a longer row. -/
theorem Thr.wide (h : Thr key l l0 m l2) {A B : List Ent} (hA : ∀ e, e ∈ A → lt e.key key = true) (hB : ∀ e, e ∈ B → lt key e.key = true) : Thr key (A ++ (l ++ B)) (A ++ l0) m (l2 ++ B) := by
  obtain ⟨rfl, h1, h2, h3⟩ := h
  refine ⟨by simp only [List.append_assoc], fun e he => ?_, fun e he => ?_, h3⟩
  · rcases List.mem_append.1 he with he | he
    · exact hA e he
    · exact h1 e he
  · rcases List.mem_append.1 he with he | he
    · exact h2 e he
    · exact hB e he
theorem Thr.filters {a b c : List Ent} (h : Thr key l a b c) : l.filter (fun e => lt e.key key) = a ∧ l.filter (fun e => decide (e.key = key)) = b ∧ l.filter (fun e => lt key e.key) = c ∧ l.filter (fun e => !decide (e.key = key)) = a ++ c := by
  obtain ⟨rfl, h1, h2, h3⟩ := h
  have hm : ∀ e, e ∈ b → e.key = key := by
    rcases h3 with rfl | ⟨x, rfl, hx⟩
    · simp
    · intro e he; rw [List.mem_singleton.1 he]; exact hx
  simp only [List.filter_append]
  refine ⟨?_, ?_, ?_, ?_⟩
  · rw [List.filter_eq_self.2 h1, List.filter_eq_nil_iff.2 (fun e he => by rw [hm e he, lt_irrefl]; decide), List.filter_eq_nil_iff.2 (fun e he => by rw [not_lt.2 (le_of_lt (h2 e he))]; decide)]
    simp
  · rw [List.filter_eq_nil_iff.2 (fun e he => by simpa using lt_ne (h1 e he)), List.filter_eq_self.2 (fun e he => by simpa using hm e he), List.filter_eq_nil_iff.2 (fun e he => by simpa using (lt_ne (h2 e he)).symm)]
    simp
  · rw [List.filter_eq_nil_iff.2 (fun e he => by rw [not_lt.2 (le_of_lt (h1 e he))]; decide), List.filter_eq_nil_iff.2 (fun e he => by rw [hm e he, lt_irrefl]; decide), List.filter_eq_self.2 h2]
    simp
  · rw [List.filter_eq_self.2 (fun e he => by simpa using lt_ne (h1 e he)), List.filter_eq_nil_iff.2 (fun e he => by simpa using hm e he), List.filter_eq_self.2 (fun e he => by simpa using (lt_ne (h2 e he)).symm)]
    simp
theorem thr_uniq {l0' m' l2' : List Ent} (h : Thr key l l0 m l2) (h' : Thr key l l0' m' l2') : l0 = l0' ∧ m = m' ∧ l2 = l2' := by
  obtain ⟨rfl, rfl, rfl, -⟩ := h.filters
  obtain ⟨e1, e2, e3, -⟩ := h'.filters
  exact ⟨e1, e2, e3⟩
end
/-- One more, or another one. -/
def ins (e : Ent) (l : List Ent) : List Ent := l.filter (fun x => lt x.key e.key) ++ e :: l.filter (fun x => lt e.key x.key)
def del (key : By) (l : List Ent) : List Ent := l.filter fun x => !decide (x.key = key)
theorem Thr.ins {e : Ent} {l l0 m l2 : List Ent} (h : Thr e.key l l0 m l2) : ins e l = l0 ++ e :: l2 := by
  obtain ⟨e1, -, e3, -⟩ := h.filters
  unfold Bk.ins
  rw [e1, e3]
theorem Thr.del {key : By} {l l0 m l2 : List Ent} (h : Thr key l l0 m l2) : del key l = l0 ++ l2 := h.filters.2.2.2
theorem rp_lo (e : Ent) : ∀ (l s : List Ent) (b : Bool), (∀ x, x ∈ l → lt x.key e.key = true) → l.foldl (rp e) (s, b) = (s ++ l, b)
  | [], s, b, _ => by simp
  | x :: l, s, b, h => by
    rw [List.foldl_cons, rp, if_pos (h x List.mem_cons_self), rp_lo e l _ _ (fun y hy => h y (List.mem_cons_of_mem _ hy))]
    simp
theorem rp_hi (e : Ent) : ∀ (l s : List Ent), (∀ x, x ∈ l → lt e.key x.key = true) → l.foldl (rp e) (s, true) = (s ++ l, true)
  | [], s, _ => by simp
  | x :: l, s, h => by
    have h1 := h x List.mem_cons_self
    rw [List.foldl_cons, rp, if_neg (by rw [not_lt.2 (le_of_lt h1)]; decide), if_neg (lt_ne h1).symm]
    dsimp only [if_true]
    rw [rp_hi e l _ (fun y hy => h y (List.mem_cons_of_mem _ hy))]
    simp
theorem rp_gt {e x : Ent} (h : lt e.key x.key = true) (s : List Ent × Bool) : rp e s x = ((if s.2 then s.1 else s.1 ++ [e]) ++ [x], true) := by
  rw [rp, if_neg (by rw [not_lt.2 (le_of_lt h)]; decide), if_neg (lt_ne h).symm]
theorem rp_eq {e x : Ent} (h : x.key = e.key) (s : List Ent × Bool) : rp e s x = ((if s.2 then s.1 else s.1 ++ [e]), true) := by
  rw [rp, if_neg (by rw [h, lt_irrefl]; decide), if_pos h, List.append_nil]
theorem Thr.fold {e : Ent} {l l0 m l2 : List Ent} (h : Thr e.key l l0 m l2) : l.foldl (rp e) ([], false) = if m = [] ∧ l2 = [] then (l0, false) else (l0 ++ e :: l2, true) := by
  obtain ⟨rfl, h1, h2, h3⟩ := h
  rw [List.foldl_append, rp_lo e l0 _ _ h1, List.nil_append]
  rcases h3 with rfl | ⟨x, rfl, hx⟩
  · cases l2 with
    | nil => simp
    | cons y l2 =>
      rw [List.nil_append, List.foldl_cons, rp_gt (h2 y List.mem_cons_self), rp_hi e l2 _ (fun z hz => h2 z (List.mem_cons_of_mem _ hz))]
      simp
  · rw [List.cons_append, List.nil_append, List.foldl_cons, rp_eq hx, rp_hi e l2 _ h2]
    simp
theorem Thr.putE {e : Ent} {l l0 m l2 : List Ent} (h : Thr e.key l l0 m l2) : putE l e = l0 ++ e :: l2 := by
  unfold Bk.putE
  rw [h.fold]
  by_cases hc : m = [] ∧ l2 = []
  · rw [if_pos hc, hc.2]
    simp
  · rw [if_neg hc]
    simp
theorem putE_ins {e : Ent} {l : List Ent} (h : Srt l) : putE l e = ins e l := by
  obtain ⟨l0, m, l2, ht⟩ := srt_three e.key h
  rw [ht.putE, ht.ins]
theorem ins_srt {e : Ent} {l : List Ent} (h : Srt l) : Srt (ins e l) := by
  obtain ⟨l0, m, l2, ht⟩ := srt_three e.key h
  rw [ht.ins]
  obtain ⟨h1, h2⟩ := ht.srt h
  refine List.pairwise_append.2 ⟨h1, List.pairwise_cons.2 ⟨ht.hi, h2⟩, fun x hx y hy => ?_⟩
  rcases List.mem_cons.1 hy with rfl | hy
  · exact ht.lo x hx
  · exact lt_trans _ _ _ (ht.lo x hx) (ht.hi y hy)
/-! On a tree. -/
section
variable {S : Sf} {r : Nat} {t : Int} {top : Nat} {ch : Nat → List Nat}
theorem way_getLast (S : Sf) (ch : Nat → List Nat) (key : By) : ∀ n L, ∃ Q, way S ch key L n = Q ++ [((fnd S key (ch (L - n)) : Int), S (fnd S key (ch (L - n))))]
  | 0, L => ⟨[], rfl⟩
  | n + 1, L => by
    obtain ⟨Q, h⟩ := way_getLast S ch key n (L - 1)
    refine ⟨((fnd S key (ch L) : Int), S (fnd S key (ch L))) :: Q, ?_⟩
    rw [way, h, show L - 1 - n = L - (n + 1) by omega]
    rfl
theorem tree_so (T : Tree S r t top ch) (key : By) (hk : le low key = true) (lv : Nat) (hlv : lv ≤ top) (ht : top < 299) : so S r lv key = ⟨0, 0, (fnd S key (ch lv) : Int), S (fnd S key (ch lv))⟩ := by
  obtain ⟨left', hs⟩ := T.seek key hk lv hlv ht
  obtain ⟨Q, hw⟩ := way_getLast S ch key (top - lv) top
  have := so_ok (S := S) (root := r) (level := lv) (key := key) (Q := Q) (p := (fnd S key (ch (top - (top - lv))) : Int)) (n := S (fnd S key (ch (top - (top - lv))))) (by rw [hs]) (by rw [hs]; exact hw)
  rw [this, show top - (top - lv) = lv by omega]
/-- A key's leaf, and the entries about it. -/
theorem tree_leaf (T : Tree S r t top ch) (key : By) (hk : le low key = true) : ∃ A l B, Pos S t 0 (ch 0) A l (fnd S key (ch 0)) B ∧ le l key = true ∧ cov (S (fnd S key (ch 0))) key = true ∧
    lists S (ch 0) = lists S A ++ ((S (fnd S key (ch 0))).list ++ lists S B) ∧ (∀ e, e ∈ lists S A → lt e.key key = true) ∧ (∀ e, e ∈ lists S B → lt key e.key = true) := by
  obtain ⟨A, l, B, hp, h1, h2, h3⟩ := (T.lvl 0 (Nat.zero_le _)).find key hk
  refine ⟨A, l, B, hp, h1, h2, ?_, ?_, ?_⟩
  · rw [← lists_cons, ← lists_app, ← hp.eq]
  · intro e he
    obtain ⟨p0, hpre⟩ := hp.pre
    exact lt_le (seg_below hpre e he) h1
  · intro e he
    have hpost := hp.post
    cases B with
    | nil => cases he
    | cons b B =>
      have hh := seg_has hpost
      rw [hiN_has hh] at hpost
      unfold cov at h2
      rw [hh, Bool.not_true, Bool.false_or] at h2
      exact lt_le h2 (seg_ge hpost e he)
end
end Go.Proofs.Yteiiogaopgfpfaa.Bk
end

-- joined
section
namespace Go.Proofs.Yteiiogaopgfpfaa.Bk
open Nt Nd
set_option linter.unusedVariables false
set_option linter.unusedSimpArgs false
set_option linter.unusedSectionVars false
theorem gTo_of {n : Nod} (hs : Srt n.list) (h : ∀ e, e ∈ n.list → cov n e.key = true ∧ gEnt n.level e = true) : ∀ k, gTo n k = true
  | 0 => rfl
  | k + 1 => by
    rw [gTo, gTo_of hs h k, Bool.true_and]
    cases he : n.list[k]? with
    | none => rfl
    | some e =>
      dsimp only
      obtain ⟨h1, h2⟩ := h e (List.mem_of_getElem? he)
      unfold gAt
      rw [h1, h2, Bool.and_true, Bool.and_true]
      cases k with
      | zero => rfl
      | succ j =>
        obtain ⟨hj, rfl⟩ := List.getElem?_eq_some_iff.1 he
        have hj' : n.list[j]? = some (n.list[j]'(by omega)) := List.getElem?_eq_getElem (by omega)
        unfold rise
        dsimp only
        rw [hj']
        exact List.pairwise_iff_getElem.1 hs j (j + 1) (by omega) hj (by omega)
theorem good_gEnt {n : Nod} (h : Nd.goodB n = true) (e : Ent) (he : e ∈ n.list) : gEnt n.level e = true := by
  simp only [Nd.goodB, gList, inN, Bool.and_eq_true, decide_eq_true_eq] at h
  obtain ⟨-, -, h11⟩ := h
  obtain ⟨i, hi⟩ := List.getElem?_of_mem he
  have := gTo_at n _ i h11 (List.getElem?_eq_some_iff.1 hi).1 e hi
  simp only [gAt, Bool.and_eq_true] at this
  exact this.2.2
/-- A good node with another list. -/
theorem good_list {n : Nod} (h : Nd.goodB n = true) (l : List Ent) (hl : l.length ≤ 100) (hs : Srt l) (hc : ∀ e, e ∈ l → cov n e.key = true ∧ gEnt n.level e = true) : Nd.goodB { n with list := l } = true := by
  have h2 := h
  unfold Nd.goodB at h ⊢
  simp only [Bool.and_eq_true] at h ⊢
  obtain ⟨h1, h3⟩ := h
  refine ⟨h1, ?_⟩
  unfold gList
  rw [decide_eq_true (by exact hl), Bool.true_and]
  exact gTo_of (n := { n with list := l }) hs hc _
theorem sizeL_len : ∀ l : List Ent, 11 * l.length ≤ sizeL l
  | [] => by simp [sizeL]
  | e :: l => by
    have := sizeL_len l
    rw [sizeL, List.length_cons]
    omega
theorem fits_len {n : Nod} (h : fitsB n = true) : n.list.length ≤ 21 := by
  unfold fitsB at h
  simp only [Bool.and_eq_true, decide_eq_true_eq] at h
  have h1 := h.2
  have h2 := sizeL_len n.list
  unfold sizeN at h1
  omega
section
variable {S : Sf} {r : Nat} {t : Int} {top : Nat} {ch : Nat → List Nat}
theorem lists_up {S : Sf} {c : Nat} {n : Nod} : ∀ {A : List Nat}, c ∉ A → lists (up S c n) A = lists S A
  | [], _ => rfl
  | a :: A, h => by
    rw [lists_cons, lists_cons, up_other _ _ _ _ (fun e => h (by simp [e])), lists_up (fun e => h (List.mem_cons_of_mem _ e))]
theorem lists_mid {S : Sf} {A B : List Nat} {c : Nat} (hd : (A ++ c :: B).Nodup) (n : Nod) : lists (up S c n) (A ++ c :: B) = lists S A ++ (n.list ++ lists S B) := by
  obtain ⟨hA, hB⟩ := nodup_mid hd
  rw [lists_app, lists_cons, lists_up hA, lists_up hB, up_same]
/-- A leaf has another list: the tree is one, and this is its row. -/
theorem leaf_put (T : Tree S r t top ch) {A B : List Nat} {l : By} {c : Nat} (h : Pos S t 0 (ch 0) A l c B) {l' : List Ent} (hf : fitsB { S c with list := l' } = true) (hl : ∀ e, e ∈ l' → le l e.key = true) :
    Tree (up S c { S c with list := l' }) r t top ch ∧ lists (up S c { S c with list := l' }) (ch 0) = lists S A ++ (l' ++ lists S B) := by
  have hd := T.nod 0 (Nat.zero_le _)
  constructor
  · exact T.put (Nat.zero_le _) h (n := { S c with list := l' }) ⟨h.ok.tr, h.ok.lv, hf, hl, h.ok.hi, h.ok.rt, h.ok.nr, fun h => absurd h (by omega)⟩ rfl rfl (fun K hK => by omega)
  · rw [h.eq] at hd ⊢
    exact lists_mid hd _
theorem puts_one (S : Sf) (c : Nat) (n : Nod) (h : c < 256) : puts S [((c : Int), n)] = up S c n := by
  unfold puts
  rw [List.foldl_cons, List.foldl_nil]
  unfold putS
  dsimp only
  rw [if_pos ⟨by omega, by omega⟩, Int.toNat_natCast]
/-- What Put does: it is in the row, or doesn't fit into a leaf of two or more. -/
theorem tree_put (T : Tree S r t top ch) (e : Ent) (hk : e.key.length = 9) (hv : e.val.length ≤ 100) (ht : top < 299) :
    ((putR S r e).1 = 0 ∧ Tree (puts S (putR S r e).2) r t top ch ∧ lists (puts S (putR S r e).2) (ch 0) = ins e (lists S (ch 0)) ∧ ∀ a, (S a).list.length ≤ (puts S (putR S r e).2 a).list.length) ∨
    ((putR S r e).1 = 12 ∧ 252 < 20 + sizeL (ins e (S (fnd S e.key (ch 0))).list)) := by
  have hlow := low_le _ hk
  obtain ⟨A, l, B, hp, h1, h2, h3, h4, h5⟩ := tree_leaf T e.key hlow
  have hso := tree_so T e.key hlow 0 (Nat.zero_le _) ht
  have hso' : so S r 0 e.key = ⟨0, 0, (fnd S e.key (ch 0) : Int), S (fnd S e.key (ch 0))⟩ := hso
  generalize hc : fnd S e.key (ch 0) = c at *
  have hg := (fits_good hp.ok.ft).1
  have hsr := good_srt hg
  have hlen := fits_len hp.ok.ft
  obtain ⟨l0, m, l2, th⟩ := srt_three e.key hsr
  have hw : wth (S c) e = { S c with list := ins e (S c).list } := by
    have h6 := th.wth
    rw [← th.ins] at h6
    unfold wth at h6 ⊢
    dsimp only at h6
    rw [h6]
  have hmem : ∀ x, x ∈ ins e (S c).list → x = e ∨ x ∈ (S c).list := by
    intro x hx
    unfold ins at hx
    rcases List.mem_append.1 hx with hx | hx
    · exact Or.inr (List.mem_filter.1 hx).1
    · rcases List.mem_cons.1 hx with hx | hx
      · exact Or.inl hx
      · exact Or.inr (List.mem_filter.1 hx).1
  have hlv : (S c).level = 0 := hp.ok.lv
  have hgd : Nd.goodB (wth (S c) e) = true := by
    rw [hw]
    refine good_list hg _ ?_ (ins_srt hsr) fun x hx => ?_
    · have e1 := th.ins
      have e2 : (S c).list.length = (l0 ++ (m ++ l2)).length := by rw [← th.eq]
      rw [e1]
      simp only [List.length_append, List.length_cons] at e2 ⊢
      omega
    · rcases hmem x hx with rfl | hx
      · refine ⟨h2, ?_⟩
        unfold gEnt
        rw [hlv]
        simp [hk, hv]
      · exact ⟨good_cov hg x hx, good_gEnt hg x hx⟩
  unfold putR
  rw [hso']
  dsimp only
  rw [if_pos rfl, if_pos hgd]
  cases hf : fitsB (wth (S c) e) with
  | true =>
    left
    have hcb : c < 256 := T.bnd 0 c (Nat.zero_le _) hp.mem
    rw [if_pos rfl]
    dsimp only
    rw [puts_one S c _ hcb, hw]
    rw [hw] at hf
    obtain ⟨t1, t2⟩ := leaf_put T hp hf (fun x hx => by
      rcases hmem x hx with rfl | hx
      · exact h1
      · exact hp.ok.lo x hx)
    refine ⟨rfl, t1, ?_, fun a => ?_⟩
    · rw [t2, h3, (th.wide h4 h5).ins, th.ins]
      simp only [List.append_assoc, List.cons_append]
    · by_cases ha : a = c
      · subst ha
        rw [up_same]
        show (S a).list.length ≤ (ins e (S a).list).length
        have e2 : (S a).list.length = (l0 ++ (m ++ l2)).length := by rw [← th.eq]
        rw [th.ins, e2]
        rcases th.md with rfl | ⟨x, rfl, _⟩ <;> simp <;> omega
      · rw [up_other _ _ _ _ ha]
        exact Nat.le_refl _
  | false =>
    right
    rw [if_neg (by decide)]
    refine ⟨rfl, ?_⟩
    unfold fitsB at hf
    rw [hgd, Bool.true_and, hw] at hf
    have := of_decide_eq_false hf
    unfold sizeN at this
    dsimp only at this
    omega
/-- What Drop does. -/
theorem tree_drop (T : Tree S r t top ch) (key : By) (hk : key.length = 9) (ht : top < 299) :
    ((dropR S r key).1 = 0 ∧ key ∈ (lists S (ch 0)).map Ent.key ∧ Tree (puts S (dropR S r key).2) r t top ch ∧ lists (puts S (dropR S r key).2) (ch 0) = del key (lists S (ch 0))) ∨
    (dropR S r key = (7, []) ∧ key ∉ (lists S (ch 0)).map Ent.key ∧ del key (lists S (ch 0)) = lists S (ch 0)) := by
  have hlow := low_le _ hk
  obtain ⟨A, l, B, hp, h1, h2, h3, h4, h5⟩ := tree_leaf T key hlow
  have hso' : so S r 0 key = ⟨0, 0, (fnd S key (ch 0) : Int), S (fnd S key (ch 0))⟩ := tree_so T key hlow 0 (Nat.zero_le _) ht
  generalize hc : fnd S key (ch 0) = c at *
  have hg := (fits_good hp.ok.ft).1
  have hsr := good_srt hg
  have hlen := fits_len hp.ok.ft
  obtain ⟨l0, m, l2, th⟩ := srt_three key hsr
  have thw := th.wide h4 h5
  rw [← h3] at thw
  unfold dropR
  rw [hso']
  dsimp only
  rw [if_pos rfl, th.plc]
  dsimp only
  rcases th.md with rfl | ⟨x, rfl, hx⟩
  · right
    rw [if_neg (by decide)]
    refine ⟨rfl, ?_, ?_⟩
    · intro hm
      obtain ⟨y, hy, hy2⟩ := List.mem_map.1 hm
      rw [thw.eq, List.nil_append] at hy
      rcases List.mem_append.1 hy with hy | hy
      · exact lt_ne (thw.lo y hy) hy2
      · exact lt_ne (thw.hi y hy) hy2.symm
    · rw [thw.del, thw.eq]
      rfl
  · left
    have hcb : c < 256 := T.bnd 0 c (Nat.zero_le _) hp.mem
    rw [if_pos (by rfl)]
    have her := th.erase (by simp)
    rw [th.plc] at her
    dsimp only at her
    rw [her]
    dsimp only
    rw [puts_one S c _ hcb]
    have hmem : ∀ y, y ∈ l0 ++ l2 → y ∈ (S c).list := by
      intro y hy
      rw [th.eq]
      rcases List.mem_append.1 hy with hy | hy
      · exact List.mem_append_left _ hy
      · exact List.mem_append_right _ (List.mem_append_right _ hy)
    have hsub : Srt (l0 ++ l2) := by
      rw [← th.del]
      exact hsr.sublist List.filter_sublist
    have hf : fitsB { S c with list := l0 ++ l2 } = true := by
      unfold fitsB
      rw [good_list hg _ (by
        have : (l0 ++ l2).length ≤ (S c).list.length := by rw [← th.del]; exact List.length_filter_le _ _
        omega) hsub (fun y hy => ⟨good_cov hg y (hmem y hy), good_gEnt hg y (hmem y hy)⟩), Bool.true_and]
      apply decide_eq_true
      have h6 := (fits_good hp.ok.ft).2
      unfold sizeN at h6 ⊢
      dsimp only
      rw [th.eq] at h6
      simp only [sizeL_app] at h6 ⊢
      omega
    obtain ⟨t1, t2⟩ := leaf_put T hp hf (fun y hy => hp.ok.lo y (hmem y hy))
    refine ⟨rfl, List.mem_map.2 ⟨x, ?_, hx⟩, t1, ?_⟩
    · rw [thw.eq]; simp
    · rw [t2, thw.del]
      simp only [List.append_assoc]
end
end Go.Proofs.Yteiiogaopgfpfaa.Bk
end

-- joined
section
namespace Go.Proofs.Yteiiogaopgfpfaa.Bk
open Nt Nd
set_option linter.unusedVariables false
set_option linter.unusedSimpArgs false
set_option linter.unusedSectionVars false
/-- A list of two or more by its middle. -/
theorem mid_two (n : Nod) (f : Int) (h : 2 ≤ n.list.length) : ∃ y a x b, n.list = (y :: a) ++ x :: b ∧
    hlf n f = ({ n with list := y :: a, has := true, high := x.key, right := f }, { n with list := x :: b }) := by
  have hm : n.list.length / 2 < n.list.length := by omega
  have hx : n.list[n.list.length / 2]? = some (n.list[n.list.length / 2]'hm) := List.getElem?_eq_getElem hm
  have hd : n.list.drop (n.list.length / 2) = (n.list[n.list.length / 2]'hm) :: n.list.drop (n.list.length / 2 + 1) := List.drop_eq_getElem_cons hm
  have ht := List.take_append_drop (n.list.length / 2) n.list
  unfold hlf
  rw [hx, hd]
  rw [hd] at ht
  generalize n.list[n.list.length / 2]'hm = x at *
  have hl : (n.list.take (n.list.length / 2)).length = n.list.length / 2 := by rw [List.length_take]; omega
  cases ha : n.list.take (n.list.length / 2) with
  | nil => rw [ha, List.length_nil] at hl; omega
  | cons y a =>
    rw [ha] at ht
    exact ⟨y, a, x, _, ht.symm, rfl⟩
/-- The halves of a node that is one. -/
theorem hlf_ok {t : Int} {L : Nat} {l : By} {n : Nod} (h : Ok t L l n) (h2 : 2 ≤ n.list.length) (f : Nat) (h0 : 0 < f) (hf : f < 256) :
    Ok t L l (hlf n f).1 ∧ hiN (hlf n f).1 = some (hlf n f).1.high ∧ (hlf n f).1.right = f ∧ Ok t L (hlf n f).1.high (hlf n f).2 ∧ hiN (hlf n f).2 = hiN n ∧ (hlf n f).2.right = n.right ∧ (hlf n f).1.list ++ (hlf n f).2.list = n.list ∧
    (hlf n f).2.has = n.has ∧ (hlf n f).1.high.length = 9 ∧ (hlf n f).2.high = n.high := by
  obtain ⟨y, a, x, b, e1, e2⟩ := mid_two n f h2
  rw [e2]
  dsimp only
  have hg := (fits_good h.ft).1
  have hs := good_srt hg
  rw [e1] at hs
  obtain ⟨s1, s2, s3⟩ := List.pairwise_append.1 hs
  have hmem1 : ∀ e, e ∈ y :: a → e ∈ n.list := fun e he => by rw [e1]; exact List.mem_append_left _ he
  have hmem2 : ∀ e, e ∈ x :: b → e ∈ n.list := fun e he => by rw [e1]; exact List.mem_append_right _ he
  have hxm := hmem2 x List.mem_cons_self
  have h9 : x.key.length = 9 := (goods hg).ky x hxm
  have hlen := fits_len h.ft
  have hl2 : n.list.length = (y :: a).length + (x :: b).length := by rw [e1, List.length_append]
  have hsz : sizeL n.list = sizeL (y :: a) + sizeL (x :: b) := by rw [e1, sizeL_app]
  have h6 := (fits_good h.ft).2
  unfold sizeN at h6
  have hlx : lt l x.key = true := le_lt (h.lo y (hmem1 y List.mem_cons_self)) (s3 y List.mem_cons_self x List.mem_cons_self)
  refine ⟨⟨h.tr, h.lv, ?_, fun e he => h.lo e (hmem1 e he), fun _ => hlx, (fun _ => by show (f : Int) ≠ 0; omega), (fun h => by cases h), fun hL => ?_⟩, rfl, rfl, ⟨h.tr, h.lv, ?_, fun e he => ?_, fun hh => ?_, h.rt, h.nr, fun _ => ⟨x, b, rfl, rfl⟩⟩, rfl, rfl, e1.symm, rfl, h9, rfl⟩
  · unfold fitsB
    rw [Bool.and_eq_true]
    constructor
    · have hg2 := hg
      unfold Nd.goodB at hg2 ⊢
      simp only [Bool.and_eq_true] at hg2 ⊢
      obtain ⟨⟨⟨⟨⟨g1, g2⟩, g3⟩, g4⟩, g5⟩, g6⟩ := hg2
      refine ⟨⟨⟨⟨⟨g1, g2⟩, g3⟩, ?_⟩, ?_⟩, ?_⟩
      · unfold inN
        simp only [Bool.and_eq_true, decide_eq_true_eq]
        omega
      · unfold gHigh
        rw [if_pos rfl]
        exact decide_eq_true h9
      · unfold gList
        rw [decide_eq_true (by show (y :: a).length ≤ 100; omega), Bool.true_and]
        refine gTo_of (n := { n with list := y :: a, has := true, high := x.key, right := (f : Int) }) s1 (fun e he => ⟨?_, good_gEnt hg e (hmem1 e he)⟩) _
        show (!true || lt e.key x.key) = true
        rw [s3 e he x List.mem_cons_self]
        rfl
    · apply decide_eq_true
      show 20 + sizeL (y :: a) ≤ 252
      omega
  · obtain ⟨e, r, e3, e4⟩ := h.fst hL
    rw [e1, List.cons_append] at e3
    exact ⟨y, a, rfl, by rw [(List.cons.inj e3).1]; exact e4⟩
  · unfold fitsB
    rw [good_list hg _ (by omega) s2 (fun e he => ⟨good_cov hg e (hmem2 e he), good_gEnt hg e (hmem2 e he)⟩), Bool.true_and]
    apply decide_eq_true
    show 20 + sizeL (x :: b) ≤ 252
    omega
  · rcases List.mem_cons.1 he with rfl | he
    · exact le_refl _
    · exact le_of_lt ((List.pairwise_cons.1 s2).1 e he)
  · exact ok_lt h hh x hxm
section
variable {S : Sf} {r : Nat} {t : Int} {top : Nat} {ch : Nat → List Nat}
theorem puts_two (S : Sf) (c f : Nat) (n m : Nod) (hc : c < 256) (hf : f < 256) : puts S [((c : Int), n), ((f : Int), m)] = up (up S c n) f m := by
  unfold puts
  rw [List.foldl_cons, List.foldl_cons, List.foldl_nil]
  unfold putS
  dsimp only
  rw [if_pos ⟨by omega, by omega⟩, if_pos ⟨by omega, by omega⟩, Int.toNat_natCast, Int.toNat_natCast]
theorem puts_three (S : Sf) (c f g : Nat) (n m k : Nod) (hc : c < 256) (hf : f < 256) (hg : g < 256) : puts S [((c : Int), n), ((f : Int), m), ((g : Int), k)] = up (up (up S c n) f m) g k := by
  unfold puts
  rw [List.foldl_cons, List.foldl_cons, List.foldl_cons, List.foldl_nil]
  unfold putS
  dsimp only
  rw [if_pos ⟨by omega, by omega⟩, if_pos ⟨by omega, by omega⟩, if_pos ⟨by omega, by omega⟩, Int.toNat_natCast, Int.toNat_natCast, Int.toNat_natCast]
/-- What Split does to a node that isn't the root. -/
theorem tree_part (T : Tree S r t top ch) (key : By) (hk : key.length = 9) (lv : Nat) (hlv : lv < top) (ht : top < 299) (f0 : Nat) (f1 : Int) (h0 : 0 < f0) (hf : f0 < 256) (hfr : ∀ K, K ≤ top → f0 ∉ ch K) (h2 : 2 ≤ (S (fnd S key (ch lv))).list.length) :
    ∃ A l B, Pos S t lv (ch lv) A l (fnd S key (ch lv)) B ∧ splitR S r lv key f0 f1 = (0, [((fnd S key (ch lv) : Int), (hlf (S (fnd S key (ch lv))) f0).1), ((f0 : Int), (hlf (S (fnd S key (ch lv))) f0).2)], (t, Go.RowKit.wrap64 ((lv : Int) + 1), (hlf (S (fnd S key (ch lv))) f0).1.high, (f0 : Int))) ∧
    Tree (puts S (splitR S r lv key f0 f1).2.1) r t top (up ch lv (A ++ fnd S key (ch lv) :: f0 :: B)) ∧ Pos (puts S (splitR S r lv key f0 f1).2.1) t lv (A ++ fnd S key (ch lv) :: f0 :: B) (A ++ [fnd S key (ch lv)]) (hlf (S (fnd S key (ch lv))) f0).1.high f0 B ∧
    lists (puts S (splitR S r lv key f0 f1).2.1) (up ch lv (A ++ fnd S key (ch lv) :: f0 :: B) 0) = lists S (ch 0) := by
  have hlow := low_le _ hk
  obtain ⟨A, l, B, hp, g1, g2, g3⟩ := (T.lvl lv (by omega)).find key hlow
  have hso := tree_so T key hlow lv (by omega) ht
  generalize hc : fnd S key (ch lv) = c at *
  obtain ⟨ok1, k2, k3, ok2, k5, k6, k7, k8, k9, -⟩ := hlf_ok hp.ok h2 f0 h0 hf
  have hcb : c < 256 := T.bnd lv c (by omega) hp.mem
  have hrt : (c : Int) ≠ (r : Int) := by
    intro e
    have e' : c = r := by omega
    have h8 : r ∈ ch top := by rw [T.root]; simp
    have := T.dis lv top c (by omega) (Nat.le_refl _) hp.mem (e' ▸ h8)
    omega
  have hsp : splitR S r lv key f0 f1 = (0, [((c : Int), (hlf (S c) f0).1), ((f0 : Int), (hlf (S c) f0).2)], (t, Go.RowKit.wrap64 ((lv : Int) + 1), (hlf (S c) f0).1.high, (f0 : Int))) := by
    unfold splitR
    rw [hso]
    dsimp only
    rw [if_pos rfl, if_neg (by omega), if_pos hrt, hp.ok.tr, hp.ok.lv]
  rw [hsp]
  dsimp only
  rw [puts_two S c f0 _ _ hcb hf]
  obtain ⟨t1, t2⟩ := T.part hlv hp hf hfr ok1 k2 k3 ok2 k5 k6 (fun K hK e he => by
    have hm : e ∈ (S c).list := by
      rw [← k7]
      rcases he with he | he
      · exact List.mem_append_left _ he
      · exact List.mem_append_right _ he
    subst hK
    exact T.lead K (by omega) c hp.mem e hm)
  refine ⟨A, l, B, hp, rfl, t1, t2, ?_⟩
  have hd := T.nod lv (by omega)
  have hfL := hfr lv (by omega)
  by_cases hz : lv = 0
  · subst hz
    rw [hp.eq] at hd hfL
    obtain ⟨hA, hB⟩ := nodup_mid hd
    rw [up_same, hp.eq, lists_app, lists_cons, lists_cons, lists_app, lists_cons]
    have fA : f0 ∉ A := fun e => hfL (by simp [e])
    have fB : f0 ∉ B := fun e => hfL (by simp [e])
    have fc : c ≠ f0 := fun e => hfL (by simp [e])
    rw [lists_up fA, lists_up hA, lists_up fB, lists_up hB, up_same, up_other _ _ _ _ fc, up_same, ← k7]
    simp only [List.append_assoc]
  · rw [up_other _ _ _ _ (fun e => hz e.symm)]
    have f0A : f0 ∉ ch 0 := hfr 0 (Nat.zero_le _)
    have cA : c ∉ ch 0 := fun h => hz (T.dis lv 0 c (by omega) (Nat.zero_le _) hp.mem h)
    rw [lists_up f0A, lists_up cA]
end
end Go.Proofs.Yteiiogaopgfpfaa.Bk
end
