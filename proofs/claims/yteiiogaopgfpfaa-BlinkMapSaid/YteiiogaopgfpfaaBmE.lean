/- Texts of ours, joined. -/
import Derived.Test.YteiiogaopgfpfaaBmB
import Derived.Test.YteiiogaopgfpfaaBkAd

-- joined
section
namespace Go.Proofs.Yteiiogaopgfpfaa.Bk
open Nt Nd
set_option linter.unusedVariables false
set_option linter.unusedSimpArgs false
set_option linter.unusedSectionVars false
section
variable {S S' : Sf} {l : List Ent} {ps : List Du} {next top : Nat} {ch : Nat → List Nat}
theorem good_two {n : Nod} (h : Nd.goodB n = true) (hl : 0 < n.level) (e : Ent) (he : e ∈ n.list) : e.val.length = 2 := by
  have := good_gEnt h e he
  unfold gEnt at this
  rw [if_pos hl] at this
  simp only [Bool.and_eq_true, decide_eq_true_eq] at this
  exact this.2.1
theorem dues_mid (P Q : List Du) (x : Du) (L : Nat) : dues (P ++ x :: Q) L = dues P L ++ (if x.lv = L then [x.page] else []) ++ dues Q L := by
  rw [show P ++ x :: Q = P ++ ([x] ++ Q) from rfl, dues_app, dues_app, dues_one, List.append_assoc]
theorem Wg.hang {P Q : List Du} {x : Du} (h : Wg S l (P ++ x :: Q) next top ch) :
    ((hangR S 3 ((x.lv + 1 : Nat) : Int) x.key x.page).1 = 0 ∧ Wg (puts S (hangR S 3 ((x.lv + 1 : Nat) : Int) x.key x.page).2) l (P ++ Q) next top ch) ∨
    ((hangR S 3 ((x.lv + 1 : Nat) : Int) x.key x.page).1 = 12 ∧ 17 ≤ (S (fnd S x.key (ch (x.lv + 1)))).list.length) := by
  have ht := h.four
  obtain ⟨hlv, hk, A', B', hpos⟩ := h.po x (by simp)
  have hm := h.at0 x.key hk (x.lv + 1) (by omega)
  have hcb := h.tree.bnd (x.lv + 1) _ (by omega) hm
  have hpb : x.page < 256 := h.tree.bnd x.lv _ (by omega) hpos.mem
  have hth := tree_hang h.tree x.key hk x.lv (by omega) (by omega) x.page (by omega) hpos
  obtain ⟨A, l0, B, hp, g1, g2, g3⟩ := (h.tree.lvl (x.lv + 1) (by omega)).find x.key (low_le _ hk)
  have hg := (fits_good hp.ok.ft).1
  have hs := good_srt hg
  have hlvl : (S (fnd S x.key (ch (x.lv + 1)))).level = ((x.lv + 1 : Nat) : Int) := hp.ok.lv
  obtain ⟨l1, m, l2, th⟩ := srt_three x.key hs
  have hso : so S 3 ((x.lv + 1 : Nat) : Int) x.key = ⟨0, 0, (fnd S x.key (ch (x.lv + 1)) : Int), S (fnd S x.key (ch (x.lv + 1)))⟩ := tree_so h.tree x.key (low_le _ hk) (x.lv + 1) (by omega) (by omega)
  -- nothing leads there
  have hm0 : m = [] := by
    rcases th.md with e | ⟨y, e, hy⟩
    · exact e
    · exfalso
      have hym : y ∈ (S (fnd S x.key (ch (x.lv + 1)))).list := by rw [th.eq, e]; simp
      obtain ⟨A2, d, B2, k1, k2⟩ := h.tree.lead x.lv (by omega) _ hm y hym
      rw [hy] at k1
      obtain ⟨e2, -, -⟩ := pos_low k1 hpos
      have hn := (h.pm x.lv hlv).nodup_iff.2 (h.tree.nod x.lv (by omega))
      rw [List.nodup_append] at hn
      refine hn.2.2 x.page ?_ x.page ?_ rfl
      · unfold kids
        exact List.mem_map.2 ⟨y, Wk.mem_lists hm y hym, by rw [k2, e2]⟩
      · rw [dues_mid, if_pos rfl]; simp
  subst hm0
  have hins : ins ⟨x.key, numZ 2 x.page, false⟩ (S (fnd S x.key (ch (x.lv + 1)))).list = l1 ++ ⟨x.key, numZ 2 x.page, false⟩ :: l2 := Thr.ins (e := ⟨x.key, numZ 2 x.page, false⟩) th
  have hform : (hangR S 3 ((x.lv + 1 : Nat) : Int) x.key x.page).1 = 0 → ∃ n, (hangR S 3 ((x.lv + 1 : Nat) : Int) x.key x.page).2 = [((fnd S x.key (ch (x.lv + 1)) : Int), n)] ∧ hiN n = hiN (S (fnd S x.key (ch (x.lv + 1)))) ∧
      n.list = l1 ++ ⟨x.key, numZ 2 x.page, false⟩ :: l2 := by
    unfold hangR
    rw [hso]
    dsimp only
    rw [if_pos rfl, th.plc]
    dsimp only
    rw [if_neg (by decide)]
    split
    · intro _
      exact ⟨_, rfl, rfl, Thr.wth (e := ⟨x.key, numZ 2 x.page, false⟩) th⟩
    · intro g; cases g
  rcases hth with ⟨h1, h2, h3, h4⟩ | ⟨h1, h2⟩
  · refine Or.inl ⟨h1, ?_⟩
    obtain ⟨n, hn, hh, hnl⟩ := hform h1
    have g : puts S (hangR S 3 ((x.lv + 1 : Nat) : Int) x.key x.page).2 = up S (fnd S x.key (ch (x.lv + 1))) n := by rw [hn, puts_one S _ _ hcb]
    have h2' : Tree (puts S (hangR S 3 ((x.lv + 1 : Nat) : Int) x.key x.page).2) 3 2 top ch := h2
    have h3' : lists (puts S (hangR S 3 ((x.lv + 1 : Nat) : Int) x.key x.page).2) (ch 0) = lists S (ch 0) := h3
    rw [g] at h2' h3' ⊢
    have heq := th.eq
    generalize fnd S x.key (ch (x.lv + 1)) = c at *
    have hso' : ∀ K, K ≤ top → K ≠ x.lv + 1 → ∀ p, p ∈ ch K → up S c n p = S p := fun K hK hne p hp' => up_other _ _ _ _ fun e => hne (h.tree.dis K (x.lv + 1) p hK (by omega) hp' (by rw [e]; exact hm))
    have hhi : ∀ a, hiN (up S c n a) = hiN (S a) := fun a => by
      by_cases e : a = c
      · subst e; rw [up_same]; exact hh
      · rw [up_other _ _ _ _ e]
    have hlen : ∀ a, (S a).list.length ≤ (up S c n a).list.length := fun a => by
      by_cases e : a = c
      · subst e
        rw [up_same, hnl, heq]
        simp only [List.length_append, List.length_cons, List.length_nil]
        omega
      · rw [up_other _ _ _ _ e]
        exact Nat.le_refl _
    refine ⟨h2', by rw [h3', h.row], h.v59, h.pg, h.nx, fun p hp => ?_, fun y hy => ?_, fun L hL => ?_, fun L hL2 hL a ha => Nat.le_trans (h.mn L hL2 hL a ha) (hlen a), fun ht2 => Nat.le_trans (h.m2 ht2) (hlen 3)⟩
    · rw [up_other _ _ _ _ (fun e => hp (x.lv + 1) (by omega) (by rw [e]; exact hm))]
      exact h.out p hp
    · obtain ⟨q1, q2, A3, B3, q3⟩ := h.po y (by simp at hy ⊢; rcases hy with hy | hy; exact Or.inl hy; exact Or.inr (Or.inr hy))
      exact ⟨q1, q2, A3, B3, pos_put (fun a _ => hhi a) (h2'.lvl y.lv (by omega)) q3⟩
    · have hpm := h.pm L hL
      rw [dues_mid] at hpm
      rw [dues_app]
      by_cases hL0 : x.lv = L
      · subst hL0
        rw [if_pos rfl] at hpm
        obtain ⟨A4, B4, e4⟩ := List.append_of_mem hm
        have hd := h.tree.nod (x.lv + 1) (by omega)
        rw [e4] at hpm hd ⊢
        rw [lists_mid hd, hnl]
        rw [lists_app, lists_cons, heq] at hpm
        refine List.Perm.trans ?_ hpm
        simp only [kids_app, List.nil_append]
        unfold kids
        rw [List.map_cons]
        dsimp only
        rw [child_lead x.page (by omega)]
        simp only [List.append_assoc, List.cons_append, List.nil_append]
        refine List.Perm.append_left _ (List.Perm.append_left _ ?_)
        refine List.Perm.trans ?_ ((List.perm_middle (l₁ := List.map (fun e => childL e.val) l2 ++ (List.map (fun e => childL e.val) (lists S B4) ++ dues P x.lv)) (a := x.page) (l₂ := dues Q x.lv)).symm.trans ?_)
        · simp only [List.append_assoc]
          exact List.Perm.refl _
        · simp only [List.append_assoc]
          exact List.Perm.refl _
      · rw [if_neg hL0, List.append_nil] at hpm
        rw [lists_out (hso' (L + 1) (by omega) (by omega))]
        exact hpm
  · refine Or.inr ⟨h1, ?_⟩
    have hz := size_le 2 (l := ins ⟨x.key, numZ 2 x.page, false⟩ (S (fnd S x.key (ch (x.lv + 1)))).list) (fun y hy => by
      rcases Wk.mem_ins y hy with rfl | hy
      · exact Nat.le_of_eq (numZ_two _)
      · exact Nat.le_of_eq (good_two hg (by rw [hlvl]; omega) y hy))
    have := Wk.ins_len (e := ⟨x.key, numZ 2 x.page, false⟩) hs
    omega
end
end Go.Proofs.Yteiiogaopgfpfaa.Bk
end

-- joined
section
namespace Go.Proofs.Yteiiogaopgfpfaa.Bk
open Nt Nd
set_option linter.unusedVariables false
set_option linter.unusedSimpArgs false
set_option linter.unusedSectionVars false
section
variable {S : Sf} {r : Nat} {t : Int} {top : Nat} {ch : Nat → List Nat}
theorem Tree.sk2 (T : Tree S r t top ch) (key : By) (hk : le low key = true) (lv : Nat) : ∀ (n : Nat) (A : List Nat) (l : By) (c : Nat) (B : List Nat) (left f : Nat) (path : List (Int × Nod)), lv + n ≤ top → Pos S t (lv + n) (ch (lv + n)) A l c B → le l key = true →
    B.length + belw ch (lv + n) ≤ left → n < f → ∃ left', left - (B.length + belw ch (lv + n)) ≤ left' ∧ Bk.sk S lv key f ⟨left, 0, c, S c⟩ path = (left', 0, path ++ way S ch key (lv + n) n)
  | 0, A, l, c, B, left, f, path, h1, h2, h3, h4, h5 => by
    obtain ⟨A', l', B', g1, g2, g3, g4⟩ := (T.lvl _ h1).find key hk
    obtain ⟨M, e1, e2⟩ := pos_ahead h2 g1 h3 g4 g3 g2
    have hM : M.length ≤ B.length := by have := congrArg List.length e2; simp only [List.length_cons, List.length_append] at this; omega
    obtain ⟨f, rfl⟩ : ∃ k, f = k + 1 := ⟨f - 1, by omega⟩
    have hr := rgt_to key M left h2.ok h2.post e2 (fun a ha => g4 a (by rw [e1]; simp [ha])) g3 (by omega)
    exact ⟨left - M.length, by omega, sk_at S lv key f _ ⟨left - M.length, 0, (fnd S key (ch (lv + 0)) : Int), S (fnd S key (ch (lv + 0)))⟩ path rfl hr.symm rfl g1.ok.lv⟩
  | n + 1, A, l, c, B, left, f, path, h1, h2, h3, h4, h5 => by
    obtain ⟨A', l', B', g1, g2, g3, g4⟩ := (T.lvl _ h1).find key hk
    obtain ⟨M, e1, e2⟩ := pos_ahead h2 g1 h3 g4 g3 g2
    have hM : M.length ≤ B.length := by have := congrArg List.length e2; simp only [List.length_cons, List.length_append] at this; omega
    obtain ⟨f, rfl⟩ : ∃ k, f = k + 1 := ⟨f - 1, by omega⟩
    have hr := rgt_to key M left h2.ok h2.post e2 (fun a ha => g4 a (by rw [e1]; simp [ha])) g3 (by omega)
    obtain ⟨i, e, A2, d, B2, k1, k2, k3, k4, k5, k6⟩ := T.down (L := lv + n) (by omega) g1 g2
    have hlen : (ch (lv + n)).length = A2.length + (B2.length + 1) := by rw [k4.eq]; simp
    have hb : belw ch (lv + (n + 1)) = belw ch (lv + n) + (ch (lv + n)).length := rfl
    have hd : d < 256 := T.bnd (lv + n) d (by omega) (by rw [k4.eq]; simp)
    have hbl := blw_to (S := S) (left := left - M.length) g1.ok.lv k2 k5 k6 hd k4.ok.lv (by omega)
    obtain ⟨left', hl', hs⟩ := T.sk2 key hk lv n A2 e.key d B2 (left - M.length - 1) f (path ++ [((fnd S key (ch (lv + (n + 1))) : Int), S (fnd S key (ch (lv + (n + 1)))))]) (by omega) k4 k3 (by omega) (by omega)
    refine ⟨left', by omega, ?_⟩
    rw [sk_go S lv key f _ _ path rfl hr.symm rfl (by rw [g1.ok.lv]; omega)]
    dsimp only
    rw [k1, hbl, hs, List.append_assoc]
    rfl
theorem way_two (S : Sf) (ch : Nat → List Nat) (key : By) : ∀ n L, n + 1 ≤ L → ∃ Q, way S ch key L (n + 1) = Q ++ [((fnd S key (ch (L - n)) : Int), S (fnd S key (ch (L - n)))), ((fnd S key (ch (L - (n + 1))) : Int), S (fnd S key (ch (L - (n + 1)))))]
  | 0, L, _ => ⟨[], rfl⟩
  | n + 1, L, h => by
    obtain ⟨Q, hQ⟩ := way_two S ch key n (L - 1) (by omega)
    refine ⟨((fnd S key (ch L) : Int), S (fnd S key (ch L))) :: Q, ?_⟩
    show ((fnd S key (ch L) : Int), S (fnd S key (ch L))) :: way S ch key (L - 1) (n + 1) = _
    rw [hQ, show L - 1 - n = L - (n + 1) by omega, show L - 1 - (n + 1) = L - (n + 1 + 1) by omega]
    rfl
end
section
variable {S S' : Sf} {l : List Ent} {ps : List Du} {next top : Nat} {ch : Nat → List Nat}
/-- How many nodes there are. -/
theorem Wg.total (h : Wg S l ps next top ch) : belw ch (top + 1) ≤ 253 := by
  have h1 : (0 :: 1 :: 2 :: pags ch top).Nodup := by
    have hp : ∀ p, p ∈ pags ch top → 3 ≤ p := fun p hp => by
      obtain ⟨K, hK, hm⟩ := mem_pags.1 hp
      rcases h.pg K p hK hm with g | g <;> omega
    refine List.nodup_cons.2 ⟨fun g => ?_, List.nodup_cons.2 ⟨fun g => ?_, List.nodup_cons.2 ⟨fun g => ?_, h.tree.dist _ (Nat.le_refl _)⟩⟩⟩
    · simp at g; have := hp 0 g; omega
    · simp at g; have := hp 1 g; omega
    · have := hp 2 g; omega
  have h2 := nodup_len 256 _ h1 (fun x hx => by
    simp only [List.mem_cons] at hx
    rcases hx with rfl | rfl | rfl | hx
    · omega
    · omega
    · omega
    · obtain ⟨K, hK, hm⟩ := mem_pags.1 hx
      exact h.tree.bnd K x hK hm)
  rw [← pags_len]
  simp only [List.length_cons] at h2
  omega
theorem Wg.seek (h : Wg S l ps next top ch) (key : By) (hk : le low key = true) (lv : Nat) (hlv : lv ≤ top) : ∃ left', 1 ≤ left' ∧ Bk.seek S 256 3 lv key = (left', 0, way S ch key top (top - lv)) := by
  have ht := h.four
  have h1 := h.tree.pos
  have hf := h.total
  rw [belw, h.tree.root, List.length_singleton] at hf
  have e : lv + (top - lv) = top := by omega
  obtain ⟨left', hl', hs⟩ := h.tree.sk2 key hk lv (top - lv) [] low 3 [] 255 300 [] (by omega) (by rw [e]; exact h1) hk (by rw [e]; simp; omega) (by omega)
  refine ⟨left', by rw [e] at hl'; simp at hl'; omega, ?_⟩
  unfold Bk.seek
  rw [vis_succ, at_page _ (by omega) (by omega)]
  dsimp only
  rw [e] at hs
  exact hs
/-- A tree with one level: nothing to take out; a higher one: the last two of the way. -/
theorem Wg.last2 (h : Wg S l ps next top ch) (key : By) (hk : key.length = 9) :
    (top = 0 → shrR S 3 key = (13, [], 0)) ∧ (1 ≤ top → ∃ left, 1 ≤ left ∧ shrR S 3 key = shr2 S left key (fnd S key (ch 0)) (S (fnd S key (ch 0))) (fnd S key (ch 1)) (S (fnd S key (ch 1)))) := by
  obtain ⟨left', h1, h2⟩ := h.seek key (low_le _ hk) 0 (Nat.zero_le _)
  have h2' : Bk.seek S 256 3 0 key = (left', 0, way S ch key top (top - 0)) := h2
  unfold shrR
  rw [h2']
  dsimp only
  rw [if_pos rfl, Nat.sub_zero]
  constructor
  · rintro rfl
    rfl
  · intro ht
    obtain ⟨n, rfl⟩ : ∃ n, top = n + 1 := ⟨top - 1, by omega⟩
    obtain ⟨Q, hQ⟩ := way_two S ch key n (n + 1) (Nat.le_refl _)
    refine ⟨left', h1, ?_⟩
    rw [hQ, List.reverse_append, show n + 1 - n = 1 by omega, Nat.sub_self]
    rfl
end
end Go.Proofs.Yteiiogaopgfpfaa.Bk
end
