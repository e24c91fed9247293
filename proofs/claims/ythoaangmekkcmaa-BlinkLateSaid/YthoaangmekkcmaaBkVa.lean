/- Plain: a key's place in rising entries; one more, one less. -/
import Derived.Test.YthoaangmekkcmaaBkAw
import Derived.Test.YthoaangmekkcmaaBkAc
import Derived.Test.YthoaangmekkcmaaBkPu
namespace Go.Proofs.Ythoaangmekkcmaa.Bk
open Nt Nd
set_option linter.unusedVariables false
set_option linter.unusedSimpArgs false
set_option linter.unusedSectionVars false
/-- Rising entries by a key: those below, the one, those above. -/
structure Thr (key : By) (l l0 m l2 : List Ent) : Prop where
  eq : l = l0 ++ (m ++ l2)
  lo : ∀ e, e ∈ l0 → lt e.key key = true
  hi : ∀ e, e ∈ l2 → lt key e.key = true
  md : m = [] ∨ ∃ x, m = [x] ∧ x.key = key
theorem srt_three (key : By) : ∀ {l : List Ent}, Srt l → ∃ l0 m l2, Thr key l l0 m l2
  | [], _ => ⟨[], [], [], rfl, by simp, by simp, Or.inl rfl⟩
  | e :: l, h => by
    obtain ⟨h1, h2⟩ := List.pairwise_cons.1 h
    cases hl : lt e.key key with
    | true =>
      obtain ⟨l0, m, l2, rfl, h3, h4, h5⟩ := srt_three key h2
      exact ⟨e :: l0, m, l2, rfl, fun x hx => by
        rcases List.mem_cons.1 hx with rfl | hx
        · exact hl
        · exact h3 x hx, h4, h5⟩
    | false =>
      cases hk : lt key e.key with
      | true => exact ⟨[], [], e :: l, rfl, by simp, fun x hx => by
          rcases List.mem_cons.1 hx with rfl | hx
          · exact hk
          · exact lt_trans _ _ _ hk (h1 x hx), Or.inl rfl⟩
      | false =>
        have he := lt_conn _ _ hl hk
        exact ⟨[], [e], l, rfl, by simp, fun x hx => he ▸ h1 x hx, Or.inr ⟨e, rfl, he⟩⟩
section
variable {key : By} {l l0 m l2 : List Ent}
theorem Thr.srt (h : Thr key l l0 m l2) (hs : Srt l) : Srt l0 ∧ Srt l2 := by
  obtain ⟨rfl, -, -, -⟩ := h
  have h1 := List.pairwise_append.1 hs
  exact ⟨h1.1, (List.pairwise_append.1 h1.2.1).2.1⟩
theorem Thr.last (h : Thr key l l0 m l2) : lastLe l key l.length = ((l0 ++ m).length : Int) - 1 := by
  obtain ⟨rfl, h1, h2, h3⟩ := h
  have hle : ∀ x, x ∈ l0 ++ m → le x.key key = true := by
    intro x hx
    rcases List.mem_append.1 hx with hx | hx
    · exact le_of_lt (h1 x hx)
    · rcases h3 with rfl | ⟨y, rfl, hy⟩
      · cases hx
      · rw [List.mem_singleton] at hx
        rw [hx, hy]
        exact le_refl _
  rw [← List.append_assoc]
  generalize l0 ++ m = a at *
  rcases lastLe_or (a ++ l2) key _ (Nat.le_refl _) with ⟨e1, e2⟩ | ⟨i, x, e1, e2, e3, e4, e5⟩
  · rw [e1]
    cases a with
    | nil => rfl
    | cons x a =>
      have := e2 0 x (by simp) rfl
      rw [hle x List.mem_cons_self] at this
      cases this
  · rw [e1]
    have hi : i < a.length := by
      rcases Nat.lt_or_ge i a.length with hi | hi
      · exact hi
      · rw [List.getElem?_append_right hi] at e3
        rw [not_le.2 (h2 x (List.mem_of_getElem? e3))] at e4
        cases e4
    rcases Nat.lt_or_ge (i + 1) a.length with hj | hj
    · have h6 : (a ++ l2)[i + 1]? = some (a[i + 1]'hj) := by rw [List.getElem?_append_left hj]; exact List.getElem?_eq_getElem hj
      have := e5 (i + 1) _ (by omega) (by simp only [List.length_append]; omega) h6
      rw [hle _ (List.getElem_mem hj)] at this
      cases this
    · omega
theorem Thr.plc {n : Nod} (h : Thr key n.list l0 m l2) : plc n key = ((l0.length : Int), !m.isEmpty) := by
  have hl := h.last
  obtain ⟨h0, h1, h2, h3⟩ := h
  rcases h3 with rfl | ⟨x, rfl, hx⟩
  · rw [List.append_nil] at hl
    rcases List.eq_nil_or_concat l0 with rfl | ⟨l0, y, rfl⟩
    · unfold Bk.plc
      rw [hl]
      rfl
    · have hy : n.list[l0.length]? = some y := by rw [h0]; simp
      have hk : y.key ≠ key := lt_ne (h1 y (by simp))
      rw [plc_miss (q := l0.length) (e := y) (by rw [hl]; simp) hy hk]
      simp
  · have hy : n.list[l0.length]? = some x := by rw [h0]; simp
    rw [plc_hit (q := l0.length) (e := x) (by rw [hl]; simp) hy hx]
    simp
theorem Thr.wth {n : Nod} {e : Ent} (h : Thr e.key n.list l0 m l2) : (wth n e).list = l0 ++ e :: l2 := by
  unfold Bk.wth wl
  rw [h.plc]
  dsimp only
  rw [Int.toNat_natCast, h.eq]
  rcases h.md with rfl | ⟨x, rfl, hx⟩
  · simp
  · simp
theorem Thr.erase {n : Nod} (h : Thr key n.list l0 m l2) (hm : m ≠ []) : n.list.eraseIdx (Bk.plc n key).1.toNat = l0 ++ l2 := by
  rw [h.plc]
  dsimp only
  rw [Int.toNat_natCast, h.eq]
  rcases h.md with rfl | ⟨x, rfl, hx⟩
  · exact absurd rfl hm
  · rw [List.eraseIdx_append_of_length_le (Nat.le_refl _), Nat.sub_self]
    rfl
/-- In a longer row. -/
theorem Thr.wide (h : Thr key l l0 m l2) {A B : List Ent} (hA : ∀ e, e ∈ A → lt e.key key = true) (hB : ∀ e, e ∈ B → lt key e.key = true) : Thr key (A ++ (l ++ B)) (A ++ l0) m (l2 ++ B) := by
  obtain ⟨rfl, h1, h2, h3⟩ := h
  refine ⟨by simp only [List.append_assoc], fun e he => ?_, fun e he => ?_, h3⟩
  · rcases List.mem_append.1 he with he | he
    · exact hA e he
    · exact h1 e he
  · rcases List.mem_append.1 he with he | he
    · exact h2 e he
    · exact hB e he
theorem Thr.filters {a b c : List Ent} (h : Thr key l a b c) : l.filter (fun e => lt e.key key) = a ∧ l.filter (fun e => decide (e.key = key)) = b ∧ l.filter (fun e => lt key e.key) = c ∧ l.filter (fun e => !decide (e.key = key)) = a ++ c := by
  obtain ⟨rfl, h1, h2, h3⟩ := h
  have hm : ∀ e, e ∈ b → e.key = key := by
    rcases h3 with rfl | ⟨x, rfl, hx⟩
    · simp
    · intro e he; rw [List.mem_singleton.1 he]; exact hx
  simp only [List.filter_append]
  refine ⟨?_, ?_, ?_, ?_⟩
  · rw [List.filter_eq_self.2 h1, List.filter_eq_nil_iff.2 (fun e he => by rw [hm e he, lt_irrefl]; decide), List.filter_eq_nil_iff.2 (fun e he => by rw [not_lt.2 (le_of_lt (h2 e he))]; decide)]
    simp
  · rw [List.filter_eq_nil_iff.2 (fun e he => by simpa using lt_ne (h1 e he)), List.filter_eq_self.2 (fun e he => by simpa using hm e he), List.filter_eq_nil_iff.2 (fun e he => by simpa using (lt_ne (h2 e he)).symm)]
    simp
  · rw [List.filter_eq_nil_iff.2 (fun e he => by rw [not_lt.2 (le_of_lt (h1 e he))]; decide), List.filter_eq_nil_iff.2 (fun e he => by rw [hm e he, lt_irrefl]; decide), List.filter_eq_self.2 h2]
    simp
  · rw [List.filter_eq_self.2 (fun e he => by simpa using lt_ne (h1 e he)), List.filter_eq_nil_iff.2 (fun e he => by simpa using hm e he), List.filter_eq_self.2 (fun e he => by simpa using (lt_ne (h2 e he)).symm)]
    simp
end
/-- One more, or another one. -/
def ins (e : Ent) (l : List Ent) : List Ent := l.filter (fun x => lt x.key e.key) ++ e :: l.filter (fun x => lt e.key x.key)
def del (key : By) (l : List Ent) : List Ent := l.filter fun x => !decide (x.key = key)
theorem Thr.ins {e : Ent} {l l0 m l2 : List Ent} (h : Thr e.key l l0 m l2) : ins e l = l0 ++ e :: l2 := by
  obtain ⟨e1, -, e3, -⟩ := h.filters
  unfold Bk.ins
  rw [e1, e3]
theorem Thr.del {key : By} {l l0 m l2 : List Ent} (h : Thr key l l0 m l2) : del key l = l0 ++ l2 := h.filters.2.2.2
theorem rp_lo (e : Ent) : ∀ (l s : List Ent) (b : Bool), (∀ x, x ∈ l → lt x.key e.key = true) → l.foldl (rp e) (s, b) = (s ++ l, b)
  | [], s, b, _ => by simp
  | x :: l, s, b, h => by
    rw [List.foldl_cons, rp, if_pos (h x List.mem_cons_self), rp_lo e l _ _ (fun y hy => h y (List.mem_cons_of_mem _ hy))]
    simp
theorem rp_hi (e : Ent) : ∀ (l s : List Ent), (∀ x, x ∈ l → lt e.key x.key = true) → l.foldl (rp e) (s, true) = (s ++ l, true)
  | [], s, _ => by simp
  | x :: l, s, h => by
    have h1 := h x List.mem_cons_self
    rw [List.foldl_cons, rp, if_neg (by rw [not_lt.2 (le_of_lt h1)]; decide), if_neg (lt_ne h1).symm]
    dsimp only [if_true]
    rw [rp_hi e l _ (fun y hy => h y (List.mem_cons_of_mem _ hy))]
    simp
theorem rp_gt {e x : Ent} (h : lt e.key x.key = true) (s : List Ent × Bool) : rp e s x = ((if s.2 then s.1 else s.1 ++ [e]) ++ [x], true) := by
  rw [rp, if_neg (by rw [not_lt.2 (le_of_lt h)]; decide), if_neg (lt_ne h).symm]
theorem rp_eq {e x : Ent} (h : x.key = e.key) (s : List Ent × Bool) : rp e s x = ((if s.2 then s.1 else s.1 ++ [e]), true) := by
  rw [rp, if_neg (by rw [h, lt_irrefl]; decide), if_pos h, List.append_nil]
theorem Thr.fold {e : Ent} {l l0 m l2 : List Ent} (h : Thr e.key l l0 m l2) : l.foldl (rp e) ([], false) = if m = [] ∧ l2 = [] then (l0, false) else (l0 ++ e :: l2, true) := by
  obtain ⟨rfl, h1, h2, h3⟩ := h
  rw [List.foldl_append, rp_lo e l0 _ _ h1, List.nil_append]
  rcases h3 with rfl | ⟨x, rfl, hx⟩
  · cases l2 with
    | nil => simp
    | cons y l2 =>
      rw [List.nil_append, List.foldl_cons, rp_gt (h2 y List.mem_cons_self), rp_hi e l2 _ (fun z hz => h2 z (List.mem_cons_of_mem _ hz))]
      simp
  · rw [List.cons_append, List.nil_append, List.foldl_cons, rp_eq hx, rp_hi e l2 _ h2]
    simp
theorem Thr.putE {e : Ent} {l l0 m l2 : List Ent} (h : Thr e.key l l0 m l2) : putE l e = l0 ++ e :: l2 := by
  unfold Bk.putE
  rw [h.fold]
  by_cases hc : m = [] ∧ l2 = []
  · rw [if_pos hc, hc.2]
    simp
  · rw [if_neg hc]
    simp
theorem putE_ins {e : Ent} {l : List Ent} (h : Srt l) : putE l e = ins e l := by
  obtain ⟨l0, m, l2, ht⟩ := srt_three e.key h
  rw [ht.putE, ht.ins]
theorem ins_srt {e : Ent} {l : List Ent} (h : Srt l) : Srt (ins e l) := by
  obtain ⟨l0, m, l2, ht⟩ := srt_three e.key h
  rw [ht.ins]
  obtain ⟨h1, h2⟩ := ht.srt h
  refine List.pairwise_append.2 ⟨h1, List.pairwise_cons.2 ⟨ht.hi, h2⟩, fun x hx y hy => ?_⟩
  rcases List.mem_cons.1 hy with rfl | hy
  · exact ht.lo x hx
  · exact lt_trans _ _ _ (ht.lo x hx) (ht.hi y hy)
/-! On a tree. -/
section
variable {S : Sf} {r : Nat} {t : Int} {top : Nat} {ch : Nat → List Nat}
theorem way_getLast (S : Sf) (ch : Nat → List Nat) (key : By) : ∀ n L, ∃ Q, way S ch key L n = Q ++ [((fnd S key (ch (L - n)) : Int), S (fnd S key (ch (L - n))))]
  | 0, L => ⟨[], rfl⟩
  | n + 1, L => by
    obtain ⟨Q, h⟩ := way_getLast S ch key n (L - 1)
    refine ⟨((fnd S key (ch L) : Int), S (fnd S key (ch L))) :: Q, ?_⟩
    rw [way, h, show L - 1 - n = L - (n + 1) by omega]
    rfl
theorem tree_so (T : Tree S r t top ch) (key : By) (hk : le low key = true) (lv : Nat) (hlv : lv ≤ top) (ht : top < 299) : so S r lv key = ⟨0, 0, (fnd S key (ch lv) : Int), S (fnd S key (ch lv))⟩ := by
  obtain ⟨left', hs⟩ := T.seek key hk lv hlv ht
  obtain ⟨Q, hw⟩ := way_getLast S ch key (top - lv) top
  have := so_ok (S := S) (root := r) (level := lv) (key := key) (Q := Q) (p := (fnd S key (ch (top - (top - lv))) : Int)) (n := S (fnd S key (ch (top - (top - lv))))) (by rw [hs]) (by rw [hs]; exact hw)
  rw [this, show top - (top - lv) = lv by omega]
/-- A key's leaf, and the entries about it. -/
theorem tree_leaf (T : Tree S r t top ch) (key : By) (hk : le low key = true) : ∃ A l B, Pos S t 0 (ch 0) A l (fnd S key (ch 0)) B ∧ le l key = true ∧ cov (S (fnd S key (ch 0))) key = true ∧
    lists S (ch 0) = lists S A ++ ((S (fnd S key (ch 0))).list ++ lists S B) ∧ (∀ e, e ∈ lists S A → lt e.key key = true) ∧ (∀ e, e ∈ lists S B → lt key e.key = true) := by
  obtain ⟨A, l, B, hp, h1, h2, h3⟩ := (T.lvl 0 (Nat.zero_le _)).find key hk
  refine ⟨A, l, B, hp, h1, h2, ?_, ?_, ?_⟩
  · rw [← lists_cons, ← lists_app, ← hp.eq]
  · intro e he
    obtain ⟨p0, hpre⟩ := hp.pre
    exact lt_le (seg_below hpre e he) h1
  · intro e he
    have hpost := hp.post
    cases B with
    | nil => cases he
    | cons b B =>
      have hh := seg_has hpost
      rw [hiN_has hh] at hpost
      unfold cov at h2
      rw [hh, Bool.not_true, Bool.false_or] at h2
      exact lt_le h2 (seg_ge hpost e he)
end
end Go.Proofs.Ythoaangmekkcmaa.Bk
