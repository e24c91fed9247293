/- Texts of ours, joined. -/
import Derived.Test.YthoaangmekkcmaaBkVa
import Derived.Test.YthoaangmekkcmaaBkAb
import Derived.Test.YthoaangmekkcmaaBkX

-- joined
section
namespace Go.Proofs.Ythoaangmekkcmaa.Bk
open Nt Nd
set_option linter.unusedVariables false
set_option linter.unusedSimpArgs false
set_option linter.unusedSectionVars false
theorem gTo_of {n : Nod} (hs : Srt n.list) (h : ∀ e, e ∈ n.list → cov n e.key = true ∧ gEnt n.level e = true) : ∀ k, gTo n k = true
  | 0 => rfl
  | k + 1 => by
    rw [gTo, gTo_of hs h k, Bool.true_and]
    cases he : n.list[k]? with
    | none => rfl
    | some e =>
      dsimp only
      obtain ⟨h1, h2⟩ := h e (List.mem_of_getElem? he)
      unfold gAt
      rw [h1, h2, Bool.and_true, Bool.and_true]
      cases k with
      | zero => rfl
      | succ j =>
        obtain ⟨hj, rfl⟩ := List.getElem?_eq_some_iff.1 he
        have hj' : n.list[j]? = some (n.list[j]'(by omega)) := List.getElem?_eq_getElem (by omega)
        unfold rise
        dsimp only
        rw [hj']
        exact List.pairwise_iff_getElem.1 hs j (j + 1) (by omega) hj (by omega)
theorem good_gEnt {n : Nod} (h : Nd.goodB n = true) (e : Ent) (he : e ∈ n.list) : gEnt n.level e = true := by
  simp only [Nd.goodB, gList, inN, Bool.and_eq_true, decide_eq_true_eq] at h
  obtain ⟨-, -, h11⟩ := h
  obtain ⟨i, hi⟩ := List.getElem?_of_mem he
  have := gTo_at n _ i h11 (List.getElem?_eq_some_iff.1 hi).1 e hi
  simp only [gAt, Bool.and_eq_true] at this
  exact this.2.2
/-- A good node with another list. -/
theorem good_list {n : Nod} (h : Nd.goodB n = true) (l : List Ent) (hl : l.length ≤ 100) (hs : Srt l) (hc : ∀ e, e ∈ l → cov n e.key = true ∧ gEnt n.level e = true) : Nd.goodB { n with list := l } = true := by
  have h2 := h
  unfold Nd.goodB at h ⊢
  simp only [Bool.and_eq_true] at h ⊢
  obtain ⟨h1, h3⟩ := h
  refine ⟨h1, ?_⟩
  unfold gList
  rw [decide_eq_true (by exact hl), Bool.true_and]
  exact gTo_of (n := { n with list := l }) hs hc _
theorem sizeL_len : ∀ l : List Ent, 11 * l.length ≤ sizeL l
  | [] => by simp [sizeL]
  | e :: l => by
    have := sizeL_len l
    rw [sizeL, List.length_cons]
    omega
theorem fits_len {n : Nod} (h : fitsB n = true) : n.list.length ≤ 21 := by
  unfold fitsB at h
  simp only [Bool.and_eq_true, decide_eq_true_eq] at h
  have h1 := h.2
  have h2 := sizeL_len n.list
  unfold sizeN at h1
  omega
section
variable {S : Sf} {r : Nat} {t : Int} {top : Nat} {ch : Nat → List Nat}
theorem lists_up {S : Sf} {c : Nat} {n : Nod} : ∀ {A : List Nat}, c ∉ A → lists (up S c n) A = lists S A
  | [], _ => rfl
  | a :: A, h => by
    rw [lists_cons, lists_cons, up_other _ _ _ _ (fun e => h (by simp [e])), lists_up (fun e => h (List.mem_cons_of_mem _ e))]
theorem lists_mid {S : Sf} {A B : List Nat} {c : Nat} (hd : (A ++ c :: B).Nodup) (n : Nod) : lists (up S c n) (A ++ c :: B) = lists S A ++ (n.list ++ lists S B) := by
  obtain ⟨hA, hB⟩ := nodup_mid hd
  rw [lists_app, lists_cons, lists_up hA, lists_up hB, up_same]
/-- A leaf has another list: the tree is one, and this is its row. -/
theorem leaf_put (T : Tree S r t top ch) {A B : List Nat} {l : By} {c : Nat} (h : Pos S t 0 (ch 0) A l c B) {l' : List Ent} (hf : fitsB { S c with list := l' } = true) (hl : ∀ e, e ∈ l' → le l e.key = true) :
    Tree (up S c { S c with list := l' }) r t top ch ∧ lists (up S c { S c with list := l' }) (ch 0) = lists S A ++ (l' ++ lists S B) := by
  have hd := T.nod 0 (Nat.zero_le _)
  constructor
  · exact T.put (Nat.zero_le _) h (n := { S c with list := l' }) ⟨h.ok.tr, h.ok.lv, hf, hl, h.ok.hi, h.ok.rt, h.ok.nr, fun h => absurd h (by omega)⟩ rfl rfl (fun K hK => by omega)
  · rw [h.eq] at hd ⊢
    exact lists_mid hd _
theorem puts_one (S : Sf) (c : Nat) (n : Nod) (h : c < 256) : puts S [((c : Int), n)] = up S c n := by
  unfold puts
  rw [List.foldl_cons, List.foldl_nil]
  unfold putS
  dsimp only
  rw [if_pos ⟨by omega, by omega⟩, Int.toNat_natCast]
/-- What Put does: it is in the row, or doesn't fit into a leaf of two or more. -/
theorem tree_put (T : Tree S r t top ch) (e : Ent) (hk : e.key.length = 9) (hv : e.val.length ≤ 100) (ht : top < 299) :
    ((putR S r e).1 = 0 ∧ Tree (puts S (putR S r e).2) r t top ch ∧ lists (puts S (putR S r e).2) (ch 0) = ins e (lists S (ch 0)) ∧ ∀ a, (S a).list.length ≤ (puts S (putR S r e).2 a).list.length) ∨
    ((putR S r e).1 = 12 ∧ 252 < 20 + sizeL (ins e (S (fnd S e.key (ch 0))).list)) := by
  have hlow := low_le _ hk
  obtain ⟨A, l, B, hp, h1, h2, h3, h4, h5⟩ := tree_leaf T e.key hlow
  have hso := tree_so T e.key hlow 0 (Nat.zero_le _) ht
  have hso' : so S r 0 e.key = ⟨0, 0, (fnd S e.key (ch 0) : Int), S (fnd S e.key (ch 0))⟩ := hso
  generalize hc : fnd S e.key (ch 0) = c at *
  have hg := (fits_good hp.ok.ft).1
  have hsr := good_srt hg
  have hlen := fits_len hp.ok.ft
  obtain ⟨l0, m, l2, th⟩ := srt_three e.key hsr
  have hw : wth (S c) e = { S c with list := ins e (S c).list } := by
    have h6 := th.wth
    rw [← th.ins] at h6
    unfold wth at h6 ⊢
    dsimp only at h6
    rw [h6]
  have hmem : ∀ x, x ∈ ins e (S c).list → x = e ∨ x ∈ (S c).list := by
    intro x hx
    unfold ins at hx
    rcases List.mem_append.1 hx with hx | hx
    · exact Or.inr (List.mem_filter.1 hx).1
    · rcases List.mem_cons.1 hx with hx | hx
      · exact Or.inl hx
      · exact Or.inr (List.mem_filter.1 hx).1
  have hlv : (S c).level = 0 := hp.ok.lv
  have hgd : Nd.goodB (wth (S c) e) = true := by
    rw [hw]
    refine good_list hg _ ?_ (ins_srt hsr) fun x hx => ?_
    · have e1 := th.ins
      have e2 : (S c).list.length = (l0 ++ (m ++ l2)).length := by rw [← th.eq]
      rw [e1]
      simp only [List.length_append, List.length_cons] at e2 ⊢
      omega
    · rcases hmem x hx with rfl | hx
      · refine ⟨h2, ?_⟩
        unfold gEnt
        rw [hlv]
        simp [hk, hv]
      · exact ⟨good_cov hg x hx, good_gEnt hg x hx⟩
  unfold putR
  rw [hso']
  dsimp only
  rw [if_pos rfl, if_pos hgd]
  cases hf : fitsB (wth (S c) e) with
  | true =>
    left
    have hcb : c < 256 := T.bnd 0 c (Nat.zero_le _) hp.mem
    rw [if_pos rfl]
    dsimp only
    rw [puts_one S c _ hcb, hw]
    rw [hw] at hf
    obtain ⟨t1, t2⟩ := leaf_put T hp hf (fun x hx => by
      rcases hmem x hx with rfl | hx
      · exact h1
      · exact hp.ok.lo x hx)
    refine ⟨rfl, t1, ?_, fun a => ?_⟩
    · rw [t2, h3, (th.wide h4 h5).ins, th.ins]
      simp only [List.append_assoc, List.cons_append]
    · by_cases ha : a = c
      · subst ha
        rw [up_same]
        show (S a).list.length ≤ (ins e (S a).list).length
        have e2 : (S a).list.length = (l0 ++ (m ++ l2)).length := by rw [← th.eq]
        rw [th.ins, e2]
        rcases th.md with rfl | ⟨x, rfl, _⟩ <;> simp <;> omega
      · rw [up_other _ _ _ _ ha]
        exact Nat.le_refl _
  | false =>
    right
    rw [if_neg (by decide)]
    refine ⟨rfl, ?_⟩
    unfold fitsB at hf
    rw [hgd, Bool.true_and, hw] at hf
    have := of_decide_eq_false hf
    unfold sizeN at this
    dsimp only at this
    omega
/-- What Drop does. -/
theorem tree_drop (T : Tree S r t top ch) (key : By) (hk : key.length = 9) (ht : top < 299) :
    ((dropR S r key).1 = 0 ∧ key ∈ (lists S (ch 0)).map Ent.key ∧ Tree (puts S (dropR S r key).2) r t top ch ∧ lists (puts S (dropR S r key).2) (ch 0) = del key (lists S (ch 0))) ∨
    (dropR S r key = (7, []) ∧ key ∉ (lists S (ch 0)).map Ent.key ∧ del key (lists S (ch 0)) = lists S (ch 0)) := by
  have hlow := low_le _ hk
  obtain ⟨A, l, B, hp, h1, h2, h3, h4, h5⟩ := tree_leaf T key hlow
  have hso' : so S r 0 key = ⟨0, 0, (fnd S key (ch 0) : Int), S (fnd S key (ch 0))⟩ := tree_so T key hlow 0 (Nat.zero_le _) ht
  generalize hc : fnd S key (ch 0) = c at *
  have hg := (fits_good hp.ok.ft).1
  have hsr := good_srt hg
  have hlen := fits_len hp.ok.ft
  obtain ⟨l0, m, l2, th⟩ := srt_three key hsr
  have thw := th.wide h4 h5
  rw [← h3] at thw
  unfold dropR
  rw [hso']
  dsimp only
  rw [if_pos rfl, th.plc]
  dsimp only
  rcases th.md with rfl | ⟨x, rfl, hx⟩
  · right
    rw [if_neg (by decide)]
    refine ⟨rfl, ?_, ?_⟩
    · intro hm
      obtain ⟨y, hy, hy2⟩ := List.mem_map.1 hm
      rw [thw.eq, List.nil_append] at hy
      rcases List.mem_append.1 hy with hy | hy
      · exact lt_ne (thw.lo y hy) hy2
      · exact lt_ne (thw.hi y hy) hy2.symm
    · rw [thw.del, thw.eq]
      rfl
  · left
    have hcb : c < 256 := T.bnd 0 c (Nat.zero_le _) hp.mem
    rw [if_pos (by rfl)]
    have her := th.erase (by simp)
    rw [th.plc] at her
    dsimp only at her
    rw [her]
    dsimp only
    rw [puts_one S c _ hcb]
    have hmem : ∀ y, y ∈ l0 ++ l2 → y ∈ (S c).list := by
      intro y hy
      rw [th.eq]
      rcases List.mem_append.1 hy with hy | hy
      · exact List.mem_append_left _ hy
      · exact List.mem_append_right _ (List.mem_append_right _ hy)
    have hsub : Srt (l0 ++ l2) := by
      rw [← th.del]
      exact hsr.sublist List.filter_sublist
    have hf : fitsB { S c with list := l0 ++ l2 } = true := by
      unfold fitsB
      rw [good_list hg _ (by
        have : (l0 ++ l2).length ≤ (S c).list.length := by rw [← th.del]; exact List.length_filter_le _ _
        omega) hsub (fun y hy => ⟨good_cov hg y (hmem y hy), good_gEnt hg y (hmem y hy)⟩), Bool.true_and]
      apply decide_eq_true
      have h6 := (fits_good hp.ok.ft).2
      unfold sizeN at h6 ⊢
      dsimp only
      rw [th.eq] at h6
      simp only [sizeL_app] at h6 ⊢
      omega
    obtain ⟨t1, t2⟩ := leaf_put T hp hf (fun y hy => hp.ok.lo y (hmem y hy))
    refine ⟨rfl, List.mem_map.2 ⟨x, ?_, hx⟩, t1, ?_⟩
    · rw [thw.eq]; simp
    · rw [t2, thw.del]
      simp only [List.append_assoc]
end
end Go.Proofs.Ythoaangmekkcmaa.Bk
end

-- joined
section
namespace Go.Proofs.Ythoaangmekkcmaa.Bk
open Nt Nd
set_option linter.unusedVariables false
set_option linter.unusedSimpArgs false
set_option linter.unusedSectionVars false
/-- A list of two or more by its middle. -/
theorem mid_two (n : Nod) (f : Int) (h : 2 ≤ n.list.length) : ∃ y a x b, n.list = (y :: a) ++ x :: b ∧
    hlf n f = ({ n with list := y :: a, has := true, high := x.key, right := f }, { n with list := x :: b }) := by
  have hm : n.list.length / 2 < n.list.length := by omega
  have hx : n.list[n.list.length / 2]? = some (n.list[n.list.length / 2]'hm) := List.getElem?_eq_getElem hm
  have hd : n.list.drop (n.list.length / 2) = (n.list[n.list.length / 2]'hm) :: n.list.drop (n.list.length / 2 + 1) := List.drop_eq_getElem_cons hm
  have ht := List.take_append_drop (n.list.length / 2) n.list
  unfold hlf
  rw [hx, hd]
  rw [hd] at ht
  generalize n.list[n.list.length / 2]'hm = x at *
  have hl : (n.list.take (n.list.length / 2)).length = n.list.length / 2 := by rw [List.length_take]; omega
  cases ha : n.list.take (n.list.length / 2) with
  | nil => rw [ha, List.length_nil] at hl; omega
  | cons y a =>
    rw [ha] at ht
    exact ⟨y, a, x, _, ht.symm, rfl⟩
/-- The halves of a node that is one. -/
theorem hlf_ok {t : Int} {L : Nat} {l : By} {n : Nod} (h : Ok t L l n) (h2 : 2 ≤ n.list.length) (f : Nat) (h0 : 0 < f) (hf : f < 256) :
    Ok t L l (hlf n f).1 ∧ hiN (hlf n f).1 = some (hlf n f).1.high ∧ (hlf n f).1.right = f ∧ Ok t L (hlf n f).1.high (hlf n f).2 ∧ hiN (hlf n f).2 = hiN n ∧ (hlf n f).2.right = n.right ∧ (hlf n f).1.list ++ (hlf n f).2.list = n.list ∧
    (hlf n f).2.has = n.has ∧ (hlf n f).1.high.length = 9 ∧ (hlf n f).2.high = n.high := by
  obtain ⟨y, a, x, b, e1, e2⟩ := mid_two n f h2
  rw [e2]
  dsimp only
  have hg := (fits_good h.ft).1
  have hs := good_srt hg
  rw [e1] at hs
  obtain ⟨s1, s2, s3⟩ := List.pairwise_append.1 hs
  have hmem1 : ∀ e, e ∈ y :: a → e ∈ n.list := fun e he => by rw [e1]; exact List.mem_append_left _ he
  have hmem2 : ∀ e, e ∈ x :: b → e ∈ n.list := fun e he => by rw [e1]; exact List.mem_append_right _ he
  have hxm := hmem2 x List.mem_cons_self
  have h9 : x.key.length = 9 := (goods hg).ky x hxm
  have hlen := fits_len h.ft
  have hl2 : n.list.length = (y :: a).length + (x :: b).length := by rw [e1, List.length_append]
  have hsz : sizeL n.list = sizeL (y :: a) + sizeL (x :: b) := by rw [e1, sizeL_app]
  have h6 := (fits_good h.ft).2
  unfold sizeN at h6
  have hlx : lt l x.key = true := le_lt (h.lo y (hmem1 y List.mem_cons_self)) (s3 y List.mem_cons_self x List.mem_cons_self)
  refine ⟨⟨h.tr, h.lv, ?_, fun e he => h.lo e (hmem1 e he), fun _ => hlx, (fun _ => by show (f : Int) ≠ 0; omega), (fun h => by cases h), fun hL => ?_⟩, rfl, rfl, ⟨h.tr, h.lv, ?_, fun e he => ?_, fun hh => ?_, h.rt, h.nr, fun _ => ⟨x, b, rfl, rfl⟩⟩, rfl, rfl, e1.symm, rfl, h9, rfl⟩
  · unfold fitsB
    rw [Bool.and_eq_true]
    constructor
    · have hg2 := hg
      unfold Nd.goodB at hg2 ⊢
      simp only [Bool.and_eq_true] at hg2 ⊢
      obtain ⟨⟨⟨⟨⟨g1, g2⟩, g3⟩, g4⟩, g5⟩, g6⟩ := hg2
      refine ⟨⟨⟨⟨⟨g1, g2⟩, g3⟩, ?_⟩, ?_⟩, ?_⟩
      · unfold inN
        simp only [Bool.and_eq_true, decide_eq_true_eq]
        omega
      · unfold gHigh
        rw [if_pos rfl]
        exact decide_eq_true h9
      · unfold gList
        rw [decide_eq_true (by show (y :: a).length ≤ 100; omega), Bool.true_and]
        refine gTo_of (n := { n with list := y :: a, has := true, high := x.key, right := (f : Int) }) s1 (fun e he => ⟨?_, good_gEnt hg e (hmem1 e he)⟩) _
        show (!true || lt e.key x.key) = true
        rw [s3 e he x List.mem_cons_self]
        rfl
    · apply decide_eq_true
      show 20 + sizeL (y :: a) ≤ 252
      omega
  · obtain ⟨e, r, e3, e4⟩ := h.fst hL
    rw [e1, List.cons_append] at e3
    exact ⟨y, a, rfl, by rw [(List.cons.inj e3).1]; exact e4⟩
  · unfold fitsB
    rw [good_list hg _ (by omega) s2 (fun e he => ⟨good_cov hg e (hmem2 e he), good_gEnt hg e (hmem2 e he)⟩), Bool.true_and]
    apply decide_eq_true
    show 20 + sizeL (x :: b) ≤ 252
    omega
  · rcases List.mem_cons.1 he with rfl | he
    · exact le_refl _
    · exact le_of_lt ((List.pairwise_cons.1 s2).1 e he)
  · exact ok_lt h hh x hxm
section
variable {S : Sf} {r : Nat} {t : Int} {top : Nat} {ch : Nat → List Nat}
theorem puts_two (S : Sf) (c f : Nat) (n m : Nod) (hc : c < 256) (hf : f < 256) : puts S [((c : Int), n), ((f : Int), m)] = up (up S c n) f m := by
  unfold puts
  rw [List.foldl_cons, List.foldl_cons, List.foldl_nil]
  unfold putS
  dsimp only
  rw [if_pos ⟨by omega, by omega⟩, if_pos ⟨by omega, by omega⟩, Int.toNat_natCast, Int.toNat_natCast]
theorem puts_three (S : Sf) (c f g : Nat) (n m k : Nod) (hc : c < 256) (hf : f < 256) (hg : g < 256) : puts S [((c : Int), n), ((f : Int), m), ((g : Int), k)] = up (up (up S c n) f m) g k := by
  unfold puts
  rw [List.foldl_cons, List.foldl_cons, List.foldl_cons, List.foldl_nil]
  unfold putS
  dsimp only
  rw [if_pos ⟨by omega, by omega⟩, if_pos ⟨by omega, by omega⟩, if_pos ⟨by omega, by omega⟩, Int.toNat_natCast, Int.toNat_natCast, Int.toNat_natCast]
/-- What Split does to a node that isn't the root. -/
theorem tree_part (T : Tree S r t top ch) (key : By) (hk : key.length = 9) (lv : Nat) (hlv : lv < top) (ht : top < 299) (f0 : Nat) (f1 : Int) (h0 : 0 < f0) (hf : f0 < 256) (hfr : ∀ K, K ≤ top → f0 ∉ ch K) (h2 : 2 ≤ (S (fnd S key (ch lv))).list.length) :
    ∃ A l B, Pos S t lv (ch lv) A l (fnd S key (ch lv)) B ∧ splitR S r lv key f0 f1 = (0, [((fnd S key (ch lv) : Int), (hlf (S (fnd S key (ch lv))) f0).1), ((f0 : Int), (hlf (S (fnd S key (ch lv))) f0).2)], (t, Go.RowKit.wrap64 ((lv : Int) + 1), (hlf (S (fnd S key (ch lv))) f0).1.high, (f0 : Int))) ∧
    Tree (puts S (splitR S r lv key f0 f1).2.1) r t top (up ch lv (A ++ fnd S key (ch lv) :: f0 :: B)) ∧ Pos (puts S (splitR S r lv key f0 f1).2.1) t lv (A ++ fnd S key (ch lv) :: f0 :: B) (A ++ [fnd S key (ch lv)]) (hlf (S (fnd S key (ch lv))) f0).1.high f0 B ∧
    lists (puts S (splitR S r lv key f0 f1).2.1) (up ch lv (A ++ fnd S key (ch lv) :: f0 :: B) 0) = lists S (ch 0) := by
  have hlow := low_le _ hk
  obtain ⟨A, l, B, hp, g1, g2, g3⟩ := (T.lvl lv (by omega)).find key hlow
  have hso := tree_so T key hlow lv (by omega) ht
  generalize hc : fnd S key (ch lv) = c at *
  obtain ⟨ok1, k2, k3, ok2, k5, k6, k7, k8, k9, -⟩ := hlf_ok hp.ok h2 f0 h0 hf
  have hcb : c < 256 := T.bnd lv c (by omega) hp.mem
  have hrt : (c : Int) ≠ (r : Int) := by
    intro e
    have e' : c = r := by omega
    have h8 : r ∈ ch top := by rw [T.root]; simp
    have := T.dis lv top c (by omega) (Nat.le_refl _) hp.mem (e' ▸ h8)
    omega
  have hsp : splitR S r lv key f0 f1 = (0, [((c : Int), (hlf (S c) f0).1), ((f0 : Int), (hlf (S c) f0).2)], (t, Go.RowKit.wrap64 ((lv : Int) + 1), (hlf (S c) f0).1.high, (f0 : Int))) := by
    unfold splitR
    rw [hso]
    dsimp only
    rw [if_pos rfl, if_neg (by omega), if_pos hrt, hp.ok.tr, hp.ok.lv]
  rw [hsp]
  dsimp only
  rw [puts_two S c f0 _ _ hcb hf]
  obtain ⟨t1, t2⟩ := T.part hlv hp hf hfr ok1 k2 k3 ok2 k5 k6 (fun K hK e he => by
    have hm : e ∈ (S c).list := by
      rw [← k7]
      rcases he with he | he
      · exact List.mem_append_left _ he
      · exact List.mem_append_right _ he
    subst hK
    exact T.lead K (by omega) c hp.mem e hm)
  refine ⟨A, l, B, hp, rfl, t1, t2, ?_⟩
  have hd := T.nod lv (by omega)
  have hfL := hfr lv (by omega)
  by_cases hz : lv = 0
  · subst hz
    rw [hp.eq] at hd hfL
    obtain ⟨hA, hB⟩ := nodup_mid hd
    rw [up_same, hp.eq, lists_app, lists_cons, lists_cons, lists_app, lists_cons]
    have fA : f0 ∉ A := fun e => hfL (by simp [e])
    have fB : f0 ∉ B := fun e => hfL (by simp [e])
    have fc : c ≠ f0 := fun e => hfL (by simp [e])
    rw [lists_up fA, lists_up hA, lists_up fB, lists_up hB, up_same, up_other _ _ _ _ fc, up_same, ← k7]
    simp only [List.append_assoc]
  · rw [up_other _ _ _ _ (fun e => hz e.symm)]
    have f0A : f0 ∉ ch 0 := hfr 0 (Nat.zero_le _)
    have cA : c ∉ ch 0 := fun h => hz (T.dis lv 0 c (by omega) (Nat.zero_le _) hp.mem h)
    rw [lists_up f0A, lists_up cA]
end
end Go.Proofs.Ythoaangmekkcmaa.Bk
end
