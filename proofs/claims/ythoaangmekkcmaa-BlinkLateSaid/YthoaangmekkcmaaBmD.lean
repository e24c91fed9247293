/- Texts of ours, joined. -/
import Derived.Test.YthoaangmekkcmaaBmB

-- joined
section
namespace Go.Proofs.Ythoaangmekkcmaa.Bk
open Nt Nd
set_option linter.unusedVariables false
set_option linter.unusedSimpArgs false
set_option linter.unusedSectionVars false
section
variable {S S' : Sf} {l : List Ent} {ps : List Du} {next top : Nat} {ch : Nat → List Nat}
/-- A leaf has another list. -/
theorem Wg.leaf (h : Wg S l ps next top ch) {c : Nat} (hc : c ∈ ch 0) {n : Nod} (hh : hiN n = hiN (S c)) (T : Tree (up S c n) 3 2 top ch) (hv : ∀ e, e ∈ lists (up S c n) (ch 0) → e.val.length ≤ 59) :
    Wg (up S c n) (lists (up S c n) (ch 0)) ps next top ch := by
  have hso : ∀ K, K ≤ top → K ≠ 0 → ∀ p, p ∈ ch K → up S c n p = S p := fun K hK hne p hp => up_other _ _ _ _ fun e => by
    subst e
    exact hne (h.tree.dis K 0 p hK (Nat.zero_le _) hp hc)
  have hhi : ∀ a, hiN (up S c n a) = hiN (S a) := fun a => by
    by_cases e : a = c
    · subst e; rw [up_same]; exact hh
    · rw [up_other _ _ _ _ e]
  have hrt : (3 : Nat) ∈ ch top := by rw [h.tree.root]; simp
  refine ⟨T, rfl, hv, h.pg, h.nx, fun p hp => ?_, fun x hx => ?_, fun L hL => ?_, fun L hL2 hL a ha => ?_, fun ht2 => ?_⟩
  · rw [up_other _ _ _ _ (fun e => hp 0 (Nat.zero_le _) (by rw [e]; exact hc))]
    exact h.out p hp
  · obtain ⟨g1, g2, A', B', g3⟩ := h.po x hx
    exact ⟨g1, g2, A', B', pos_put (fun a _ => hhi a) (T.lvl x.lv (by omega)) g3⟩
  · rw [lists_out (hso (L + 1) (by omega) (by omega))]
    exact h.pm L hL
  · rw [hso L (by omega) (by omega) a ha]
    exact h.mn L hL2 hL a ha
  · rw [hso top (Nat.le_refl _) (by omega) 3 hrt]
    exact h.m2 ht2
theorem Wg.at0 (h : Wg S l ps next top ch) (key : By) (hk : key.length = 9) (lv : Nat) (hlv : lv ≤ top) : fnd S key (ch lv) ∈ ch lv := by
  obtain ⟨A, l', B, hp, -⟩ := (h.tree.lvl lv hlv).find key (low_le _ hk)
  exact hp.mem
theorem Wg.len (h : Wg S l ps next top ch) (key : By) (hk : key.length = 9) (lv : Nat) (hlv : lv ≤ top) : (S (fnd S key (ch lv))).list.length ≤ 21 := by
  obtain ⟨A, l', B, hp, -⟩ := (h.tree.lvl lv hlv).find key (low_le _ hk)
  exact fits_len hp.ok.ft
theorem size_le (k : Nat) : ∀ {l : List Ent}, (∀ e, e ∈ l → e.val.length ≤ k) → sizeL l ≤ (k + 11) * l.length
  | [], _ => by simp [sizeL]
  | e :: l, h => by
    have h1 := h e List.mem_cons_self
    have h2 := size_le k (fun b hb => h b (List.mem_cons_of_mem _ hb))
    rw [sizeL, List.length_cons, Nat.mul_succ]
    omega
theorem Wg.put (h : Wg S l ps next top ch) (e : Ent) (hk : e.key.length = 9) (hv : e.val.length ≤ 59) :
    ((putR S 3 e).1 = 0 ∧ (putR S 3 e).2.length = 1 ∧ Wg (puts S (putR S 3 e).2) (ins e l) ps next top ch) ∨ ((putR S 3 e).1 = 12 ∧ 3 ≤ (S (fnd S e.key (ch 0))).list.length) := by
  have ht := h.four
  have hm := h.at0 e.key hk 0 (Nat.zero_le _)
  have hcb := h.tree.bnd 0 _ (Nat.zero_le _) hm
  have hform : (putR S 3 e).1 = 0 → (putR S 3 e).2 = [((fnd S e.key (ch 0) : Int), wth (S (fnd S e.key (ch 0))) e)] := by
    have hso : so S 3 0 e.key = ⟨0, 0, (fnd S e.key (ch 0) : Int), S (fnd S e.key (ch 0))⟩ := tree_so h.tree e.key (low_le _ hk) 0 (Nat.zero_le _) (by omega)
    unfold putR
    rw [hso]
    dsimp only
    rw [if_pos rfl]
    split
    · split
      · intro _; rfl
      · intro g; cases g
    · intro g; cases g
  rcases tree_put h.tree e hk (by omega) (by omega) with ⟨h1, h2, h3, h4⟩ | ⟨h1, h2⟩
  · refine Or.inl ⟨h1, by rw [hform h1]; rfl, ?_⟩
    have h1' := hform h1
    have g : puts S (putR S 3 e).2 = up S (fnd S e.key (ch 0)) (wth (S (fnd S e.key (ch 0))) e) := by rw [h1', puts_one S _ _ hcb]
    have h2' : Tree (puts S (putR S 3 e).2) 3 2 top ch := h2
    have h3' : lists (puts S (putR S 3 e).2) (ch 0) = ins e (lists S (ch 0)) := h3
    rw [g] at h2' h3' ⊢
    have := h.leaf hm (n := wth (S (fnd S e.key (ch 0))) e) rfl h2' (fun x hx => by
      rw [h3', h.row] at hx
      rcases Wk.mem_ins x hx with rfl | hx
      · exact hv
      · exact h.v59 x hx)
    rw [h3', h.row] at this
    exact this
  · refine Or.inr ⟨h1, ?_⟩
    generalize fnd S e.key (ch 0) = c at *
    have hin : ∀ x, x ∈ (S c).list → x ∈ l := fun x hx => by rw [← h.row]; exact Wk.mem_lists hm x hx
    have hs : Srt (S c).list := by
      have h5 := tree_srt h.tree
      obtain ⟨A, B, e1⟩ := List.append_of_mem hm
      rw [e1, lists_app, lists_cons] at h5
      exact (List.pairwise_append.1 (List.pairwise_append.1 h5).2.1).1
    have hz := size_le 59 (l := ins e (S c).list) (fun x hx => by
      rcases Wk.mem_ins x hx with rfl | hx
      · exact hv
      · exact h.v59 x (hin x hx))
    have := Wk.ins_len (e := e) hs
    omega
theorem Wg.drop (h : Wg S l ps next top ch) (key : By) (hk : key.length = 9) :
    ((dropR S 3 key).1 = 0 ∧ key ∈ l.map Ent.key ∧ Wg (puts S (dropR S 3 key).2) (del key l) ps next top ch) ∨ (dropR S 3 key = (7, []) ∧ key ∉ l.map Ent.key ∧ del key l = l) := by
  have ht := h.four
  have hm := h.at0 key hk 0 (Nat.zero_le _)
  have hcb := h.tree.bnd 0 _ (Nat.zero_le _) hm
  have hform : (dropR S 3 key).1 = 0 → ∃ n, (dropR S 3 key).2 = [((fnd S key (ch 0) : Int), n)] ∧ hiN n = hiN (S (fnd S key (ch 0))) := by
    have hso : so S 3 0 key = ⟨0, 0, (fnd S key (ch 0) : Int), S (fnd S key (ch 0))⟩ := tree_so h.tree key (low_le _ hk) 0 (Nat.zero_le _) (by omega)
    unfold dropR
    rw [hso]
    dsimp only
    rw [if_pos rfl]
    split
    · intro _; exact ⟨_, rfl, rfl⟩
    · intro g; cases g
  rcases tree_drop h.tree key hk (by omega) with ⟨h1, h2, h3, h4⟩ | ⟨h1, h2, h3⟩
  · rw [h.row] at h2
    refine Or.inl ⟨h1, h2, ?_⟩
    obtain ⟨n, hn, hh⟩ := hform h1
    have g : puts S (dropR S 3 key).2 = up S (fnd S key (ch 0)) n := by rw [hn, puts_one S _ _ hcb]
    have h3' : Tree (puts S (dropR S 3 key).2) 3 2 top ch := h3
    have h4' : lists (puts S (dropR S 3 key).2) (ch 0) = del key (lists S (ch 0)) := h4
    rw [g] at h3' h4' ⊢
    have := h.leaf hm (n := n) hh h3' (fun x hx => by
      rw [h4', h.row] at hx
      exact h.v59 x (List.mem_filter.1 hx).1)
    rw [h4', h.row] at this
    exact this
  · rw [h.row] at h2 h3
    exact Or.inr ⟨h1, h2, h3⟩
end
end Go.Proofs.Ythoaangmekkcmaa.Bk
end

-- joined
section
namespace Go.Proofs.Ythoaangmekkcmaa.Bk
open Nt Nd
set_option linter.unusedVariables false
set_option linter.unusedSimpArgs false
set_option linter.unusedSectionVars false
section
variable {S S' : Sf} {l : List Ent} {ps : List Du} {next top : Nat} {ch : Nat → List Nat}
theorem good_two {n : Nod} (h : Nd.goodB n = true) (hl : 0 < n.level) (e : Ent) (he : e ∈ n.list) : e.val.length = 2 := by
  have := good_gEnt h e he
  unfold gEnt at this
  rw [if_pos hl] at this
  simp only [Bool.and_eq_true, decide_eq_true_eq] at this
  exact this.2.1
theorem dues_mid (P Q : List Du) (x : Du) (L : Nat) : dues (P ++ x :: Q) L = dues P L ++ (if x.lv = L then [x.page] else []) ++ dues Q L := by
  rw [show P ++ x :: Q = P ++ ([x] ++ Q) from rfl, dues_app, dues_app, dues_one, List.append_assoc]
theorem Wg.hang {P Q : List Du} {x : Du} (h : Wg S l (P ++ x :: Q) next top ch) :
    ((hangR S 3 ((x.lv + 1 : Nat) : Int) x.key x.page).1 = 0 ∧ Wg (puts S (hangR S 3 ((x.lv + 1 : Nat) : Int) x.key x.page).2) l (P ++ Q) next top ch) ∨
    ((hangR S 3 ((x.lv + 1 : Nat) : Int) x.key x.page).1 = 12 ∧ 17 ≤ (S (fnd S x.key (ch (x.lv + 1)))).list.length) := by
  have ht := h.four
  obtain ⟨hlv, hk, A', B', hpos⟩ := h.po x (by simp)
  have hm := h.at0 x.key hk (x.lv + 1) (by omega)
  have hcb := h.tree.bnd (x.lv + 1) _ (by omega) hm
  have hpb : x.page < 256 := h.tree.bnd x.lv _ (by omega) hpos.mem
  have hth := tree_hang h.tree x.key hk x.lv (by omega) (by omega) x.page (by omega) hpos
  obtain ⟨A, l0, B, hp, g1, g2, g3⟩ := (h.tree.lvl (x.lv + 1) (by omega)).find x.key (low_le _ hk)
  have hg := (fits_good hp.ok.ft).1
  have hs := good_srt hg
  have hlvl : (S (fnd S x.key (ch (x.lv + 1)))).level = ((x.lv + 1 : Nat) : Int) := hp.ok.lv
  obtain ⟨l1, m, l2, th⟩ := srt_three x.key hs
  have hso : so S 3 ((x.lv + 1 : Nat) : Int) x.key = ⟨0, 0, (fnd S x.key (ch (x.lv + 1)) : Int), S (fnd S x.key (ch (x.lv + 1)))⟩ := tree_so h.tree x.key (low_le _ hk) (x.lv + 1) (by omega) (by omega)
  -- nothing leads there
  have hm0 : m = [] := by
    rcases th.md with e | ⟨y, e, hy⟩
    · exact e
    · exfalso
      have hym : y ∈ (S (fnd S x.key (ch (x.lv + 1)))).list := by rw [th.eq, e]; simp
      obtain ⟨A2, d, B2, k1, k2⟩ := h.tree.lead x.lv (by omega) _ hm y hym
      rw [hy] at k1
      obtain ⟨e2, -, -⟩ := pos_low k1 hpos
      have hn := (h.pm x.lv hlv).nodup_iff.2 (h.tree.nod x.lv (by omega))
      rw [List.nodup_append] at hn
      refine hn.2.2 x.page ?_ x.page ?_ rfl
      · unfold kids
        exact List.mem_map.2 ⟨y, Wk.mem_lists hm y hym, by rw [k2, e2]⟩
      · rw [dues_mid, if_pos rfl]; simp
  subst hm0
  have hins : ins ⟨x.key, numZ 2 x.page, false⟩ (S (fnd S x.key (ch (x.lv + 1)))).list = l1 ++ ⟨x.key, numZ 2 x.page, false⟩ :: l2 := Thr.ins (e := ⟨x.key, numZ 2 x.page, false⟩) th
  have hform : (hangR S 3 ((x.lv + 1 : Nat) : Int) x.key x.page).1 = 0 → ∃ n, (hangR S 3 ((x.lv + 1 : Nat) : Int) x.key x.page).2 = [((fnd S x.key (ch (x.lv + 1)) : Int), n)] ∧ hiN n = hiN (S (fnd S x.key (ch (x.lv + 1)))) ∧
      n.list = l1 ++ ⟨x.key, numZ 2 x.page, false⟩ :: l2 := by
    unfold hangR
    rw [hso]
    dsimp only
    rw [if_pos rfl, th.plc]
    dsimp only
    rw [if_neg (by decide)]
    split
    · intro _
      exact ⟨_, rfl, rfl, Thr.wth (e := ⟨x.key, numZ 2 x.page, false⟩) th⟩
    · intro g; cases g
  rcases hth with ⟨h1, h2, h3, h4⟩ | ⟨h1, h2⟩
  · refine Or.inl ⟨h1, ?_⟩
    obtain ⟨n, hn, hh, hnl⟩ := hform h1
    have g : puts S (hangR S 3 ((x.lv + 1 : Nat) : Int) x.key x.page).2 = up S (fnd S x.key (ch (x.lv + 1))) n := by rw [hn, puts_one S _ _ hcb]
    have h2' : Tree (puts S (hangR S 3 ((x.lv + 1 : Nat) : Int) x.key x.page).2) 3 2 top ch := h2
    have h3' : lists (puts S (hangR S 3 ((x.lv + 1 : Nat) : Int) x.key x.page).2) (ch 0) = lists S (ch 0) := h3
    rw [g] at h2' h3' ⊢
    have heq := th.eq
    generalize fnd S x.key (ch (x.lv + 1)) = c at *
    have hso' : ∀ K, K ≤ top → K ≠ x.lv + 1 → ∀ p, p ∈ ch K → up S c n p = S p := fun K hK hne p hp' => up_other _ _ _ _ fun e => hne (h.tree.dis K (x.lv + 1) p hK (by omega) hp' (by rw [e]; exact hm))
    have hhi : ∀ a, hiN (up S c n a) = hiN (S a) := fun a => by
      by_cases e : a = c
      · subst e; rw [up_same]; exact hh
      · rw [up_other _ _ _ _ e]
    have hlen : ∀ a, (S a).list.length ≤ (up S c n a).list.length := fun a => by
      by_cases e : a = c
      · subst e
        rw [up_same, hnl, heq]
        simp only [List.length_append, List.length_cons, List.length_nil]
        omega
      · rw [up_other _ _ _ _ e]
        exact Nat.le_refl _
    refine ⟨h2', by rw [h3', h.row], h.v59, h.pg, h.nx, fun p hp => ?_, fun y hy => ?_, fun L hL => ?_, fun L hL2 hL a ha => Nat.le_trans (h.mn L hL2 hL a ha) (hlen a), fun ht2 => Nat.le_trans (h.m2 ht2) (hlen 3)⟩
    · rw [up_other _ _ _ _ (fun e => hp (x.lv + 1) (by omega) (by rw [e]; exact hm))]
      exact h.out p hp
    · obtain ⟨q1, q2, A3, B3, q3⟩ := h.po y (by simp at hy ⊢; rcases hy with hy | hy; exact Or.inl hy; exact Or.inr (Or.inr hy))
      exact ⟨q1, q2, A3, B3, pos_put (fun a _ => hhi a) (h2'.lvl y.lv (by omega)) q3⟩
    · have hpm := h.pm L hL
      rw [dues_mid] at hpm
      rw [dues_app]
      by_cases hL0 : x.lv = L
      · subst hL0
        rw [if_pos rfl] at hpm
        obtain ⟨A4, B4, e4⟩ := List.append_of_mem hm
        have hd := h.tree.nod (x.lv + 1) (by omega)
        rw [e4] at hpm hd ⊢
        rw [lists_mid hd, hnl]
        rw [lists_app, lists_cons, heq] at hpm
        refine List.Perm.trans ?_ hpm
        simp only [kids_app, List.nil_append]
        unfold kids
        rw [List.map_cons]
        dsimp only
        rw [child_lead x.page (by omega)]
        simp only [List.append_assoc, List.cons_append, List.nil_append]
        refine List.Perm.append_left _ (List.Perm.append_left _ ?_)
        refine List.Perm.trans ?_ ((List.perm_middle (l₁ := List.map (fun e => childL e.val) l2 ++ (List.map (fun e => childL e.val) (lists S B4) ++ dues P x.lv)) (a := x.page) (l₂ := dues Q x.lv)).symm.trans ?_)
        · simp only [List.append_assoc]
          exact List.Perm.refl _
        · simp only [List.append_assoc]
          exact List.Perm.refl _
      · rw [if_neg hL0, List.append_nil] at hpm
        rw [lists_out (hso' (L + 1) (by omega) (by omega))]
        exact hpm
  · refine Or.inr ⟨h1, ?_⟩
    have hz := size_le 2 (l := ins ⟨x.key, numZ 2 x.page, false⟩ (S (fnd S x.key (ch (x.lv + 1)))).list) (fun y hy => by
      rcases Wk.mem_ins y hy with rfl | hy
      · exact Nat.le_of_eq (numZ_two _)
      · exact Nat.le_of_eq (good_two hg (by rw [hlvl]; omega) y hy))
    have := Wk.ins_len (e := ⟨x.key, numZ 2 x.page, false⟩) hs
    omega
end
end Go.Proofs.Ythoaangmekkcmaa.Bk
end
