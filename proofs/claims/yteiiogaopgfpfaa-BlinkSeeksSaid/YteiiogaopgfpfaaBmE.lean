/- Texts of ours, joined. -/
import Derived.Test.YteiiogaopgfpfaaBmB
import Derived.Test.YteiiogaopgfpfaaBkAd

-- joined
section
namespace Go.Proofs.Yteiiogaopgfpfaa.Bk
open Nt Nd
set_option linter.unusedVariables false
set_option linter.unusedSimpArgs false
set_option linter.unusedSectionVars false
section
variable {S S' : Sf} {l : List Ent} {ps : List Du} {next top : Nat} {ch : Nat → List Nat}
theorem good_two {n : Nod} (h : Nd.goodB n = true) (hl : 0 < n.level) (e : Ent) (he : e ∈ n.list) : e.val.length = 2 := by
  have := good_gEnt h e he
  unfold gEnt at this
  rw [if_pos hl] at this
  simp only [Bool.and_eq_true, decide_eq_true_eq] at this
  exact this.2.1
theorem dues_mid (P Q : List Du) (x : Du) (L : Nat) : dues (P ++ x :: Q) L = dues P L ++ (if x.lv = L then [x.page] else []) ++ dues Q L := by
  rw [show P ++ x :: Q = P ++ ([x] ++ Q) from rfl, dues_app, dues_app, dues_one, List.append_assoc]
theorem Wg.hang {P Q : List Du} {x : Du} (h : Wg S l (P ++ x :: Q) next top ch) :
    ((hangR S 3 ((x.lv + 1 : Nat) : Int) x.key x.page).1 = 0 ∧ Wg (puts S (hangR S 3 ((x.lv + 1 : Nat) : Int) x.key x.page).2) l (P ++ Q) next top ch) ∨
    ((hangR S 3 ((x.lv + 1 : Nat) : Int) x.key x.page).1 = 12 ∧ 17 ≤ (S (fnd S x.key (ch (x.lv + 1)))).list.length) := by
  have ht := h.four
  obtain ⟨hlv, hk, A', B', hpos⟩ := h.po x (by simp)
  have hm := h.at0 x.key hk (x.lv + 1) (by omega)
  have hcb := h.tree.bnd (x.lv + 1) _ (by omega) hm
  have hpb : x.page < 256 := h.tree.bnd x.lv _ (by omega) hpos.mem
  have hth := tree_hang h.tree x.key hk x.lv (by omega) (by omega) x.page (by omega) hpos
  obtain ⟨A, l0, B, hp, g1, g2, g3⟩ := (h.tree.lvl (x.lv + 1) (by omega)).find x.key (low_le _ hk)
  have hg := (fits_good hp.ok.ft).1
  have hs := good_srt hg
  have hlvl : (S (fnd S x.key (ch (x.lv + 1)))).level = ((x.lv + 1 : Nat) : Int) := hp.ok.lv
  obtain ⟨l1, m, l2, th⟩ := srt_three x.key hs
  have hso : so S 3 ((x.lv + 1 : Nat) : Int) x.key = ⟨0, 0, (fnd S x.key (ch (x.lv + 1)) : Int), S (fnd S x.key (ch (x.lv + 1)))⟩ := tree_so h.tree x.key (low_le _ hk) (x.lv + 1) (by omega) (by omega)
  -- nothing leads there
  have hm0 : m = [] := by
    rcases th.md with e | ⟨y, e, hy⟩
    · exact e
    · exfalso
      have hym : y ∈ (S (fnd S x.key (ch (x.lv + 1)))).list := by rw [th.eq, e]; simp
      obtain ⟨A2, d, B2, k1, k2⟩ := h.tree.lead x.lv (by omega) _ hm y hym
      rw [hy] at k1
      obtain ⟨e2, -, -⟩ := pos_low k1 hpos
      have hn := (h.pm x.lv hlv).nodup_iff.2 (h.tree.nod x.lv (by omega))
      rw [List.nodup_append] at hn
      refine hn.2.2 x.page ?_ x.page ?_ rfl
      · unfold kids
        exact List.mem_map.2 ⟨y, Wk.mem_lists hm y hym, by rw [k2, e2]⟩
      · rw [dues_mid, if_pos rfl]; simp
  subst hm0
  have hins : ins ⟨x.key, numZ 2 x.page, false⟩ (S (fnd S x.key (ch (x.lv + 1)))).list = l1 ++ ⟨x.key, numZ 2 x.page, false⟩ :: l2 := Thr.ins (e := ⟨x.key, numZ 2 x.page, false⟩) th
  have hform : (hangR S 3 ((x.lv + 1 : Nat) : Int) x.key x.page).1 = 0 → ∃ n, (hangR S 3 ((x.lv + 1 : Nat) : Int) x.key x.page).2 = [((fnd S x.key (ch (x.lv + 1)) : Int), n)] ∧ hiN n = hiN (S (fnd S x.key (ch (x.lv + 1)))) ∧
      n.list = l1 ++ ⟨x.key, numZ 2 x.page, false⟩ :: l2 := by
    unfold hangR
    rw [hso]
    dsimp only
    rw [if_pos rfl, th.plc]
    dsimp only
    rw [if_neg (by decide)]
    split
    · intro _
      exact ⟨_, rfl, rfl, Thr.wth (e := ⟨x.key, numZ 2 x.page, false⟩) th⟩
    · intro g; cases g
  rcases hth with ⟨h1, h2, h3, h4⟩ | ⟨h1, h2⟩
  · refine Or.inl ⟨h1, ?_⟩
    obtain ⟨n, hn, hh, hnl⟩ := hform h1
    have g : puts S (hangR S 3 ((x.lv + 1 : Nat) : Int) x.key x.page).2 = up S (fnd S x.key (ch (x.lv + 1))) n := by rw [hn, puts_one S _ _ hcb]
    have h2' : Tree (puts S (hangR S 3 ((x.lv + 1 : Nat) : Int) x.key x.page).2) 3 2 top ch := h2
    have h3' : lists (puts S (hangR S 3 ((x.lv + 1 : Nat) : Int) x.key x.page).2) (ch 0) = lists S (ch 0) := h3
    rw [g] at h2' h3' ⊢
    have heq := th.eq
    generalize fnd S x.key (ch (x.lv + 1)) = c at *
    have hso' : ∀ K, K ≤ top → K ≠ x.lv + 1 → ∀ p, p ∈ ch K → up S c n p = S p := fun K hK hne p hp' => up_other _ _ _ _ fun e => hne (h.tree.dis K (x.lv + 1) p hK (by omega) hp' (by rw [e]; exact hm))
    have hhi : ∀ a, hiN (up S c n a) = hiN (S a) := fun a => by
      by_cases e : a = c
      · subst e; rw [up_same]; exact hh
      · rw [up_other _ _ _ _ e]
    have hlen : ∀ a, (S a).list.length ≤ (up S c n a).list.length := fun a => by
      by_cases e : a = c
      · subst e
        rw [up_same, hnl, heq]
        simp only [List.length_append, List.length_cons, List.length_nil]
        omega
      · rw [up_other _ _ _ _ e]
        exact Nat.le_refl _
    refine ⟨h2', by rw [h3', h.row], h.v59, h.pg, h.nx, fun p hp => ?_, fun y hy => ?_, fun L hL => ?_, fun L hL2 hL a ha => Nat.le_trans (h.mn L hL2 hL a ha) (hlen a), fun ht2 => Nat.le_trans (h.m2 ht2) (hlen 3)⟩
    · rw [up_other _ _ _ _ (fun e => hp (x.lv + 1) (by omega) (by rw [e]; exact hm))]
      exact h.out p hp
    · obtain ⟨q1, q2, A3, B3, q3⟩ := h.po y (by simp at hy ⊢; rcases hy with hy | hy; exact Or.inl hy; exact Or.inr (Or.inr hy))
      exact ⟨q1, q2, A3, B3, pos_put (fun a _ => hhi a) (h2'.lvl y.lv (by omega)) q3⟩
    · have hpm := h.pm L hL
      rw [dues_mid] at hpm
      rw [dues_app]
      by_cases hL0 : x.lv = L
      · subst hL0
        rw [if_pos rfl] at hpm
        obtain ⟨A4, B4, e4⟩ := List.append_of_mem hm
        have hd := h.tree.nod (x.lv + 1) (by omega)
        rw [e4] at hpm hd ⊢
        rw [lists_mid hd, hnl]
        rw [lists_app, lists_cons, heq] at hpm
        refine List.Perm.trans ?_ hpm
        simp only [kids_app, List.nil_append]
        unfold kids
        rw [List.map_cons]
        dsimp only
        rw [child_lead x.page (by omega)]
        simp only [List.append_assoc, List.cons_append, List.nil_append]
        refine List.Perm.append_left _ (List.Perm.append_left _ ?_)
        refine List.Perm.trans ?_ ((List.perm_middle (l₁ := List.map (fun e => childL e.val) l2 ++ (List.map (fun e => childL e.val) (lists S B4) ++ dues P x.lv)) (a := x.page) (l₂ := dues Q x.lv)).symm.trans ?_)
        · simp only [List.append_assoc]
          exact List.Perm.refl _
        · simp only [List.append_assoc]
          exact List.Perm.refl _
      · rw [if_neg hL0, List.append_nil] at hpm
        rw [lists_out (hso' (L + 1) (by omega) (by omega))]
        exact hpm
  · refine Or.inr ⟨h1, ?_⟩
    have hz := size_le 2 (l := ins ⟨x.key, numZ 2 x.page, false⟩ (S (fnd S x.key (ch (x.lv + 1)))).list) (fun y hy => by
      rcases Wk.mem_ins y hy with rfl | hy
      · exact Nat.le_of_eq (numZ_two _)
      · exact Nat.le_of_eq (good_two hg (by rw [hlvl]; omega) y hy))
    have := Wk.ins_len (e := ⟨x.key, numZ 2 x.page, false⟩) hs
    omega
end
end Go.Proofs.Yteiiogaopgfpfaa.Bk
end

-- joined
section
namespace Go.Proofs.Yteiiogaopgfpfaa.Bk
open Nt Nd
set_option linter.unusedVariables false
set_option linter.unusedSimpArgs false
set_option linter.unusedSectionVars false
section
variable {S : Sf} {r : Nat} {t : Int} {top : Nat} {ch : Nat → List Nat}
theorem Tree.sk2 (T : Tree S r t top ch) (key : By) (hk : le low key = true) (lv : Nat) : ∀ (n : Nat) (A : List Nat) (l : By) (c : Nat) (B : List Nat) (left f : Nat) (path : List (Int × Nod)), lv + n ≤ top → Pos S t (lv + n) (ch (lv + n)) A l c B → le l key = true →
    B.length + belw ch (lv + n) ≤ left → n < f → ∃ left', left - (B.length + belw ch (lv + n)) ≤ left' ∧ Bk.sk S lv key f ⟨left, 0, c, S c⟩ path = (left', 0, path ++ way S ch key (lv + n) n)
  | 0, A, l, c, B, left, f, path, h1, h2, h3, h4, h5 => by
    obtain ⟨A', l', B', g1, g2, g3, g4⟩ := (T.lvl _ h1).find key hk
    obtain ⟨M, e1, e2⟩ := pos_ahead h2 g1 h3 g4 g3 g2
    have hM : M.length ≤ B.length := by have := congrArg List.length e2; simp only [List.length_cons, List.length_append] at this; omega
    obtain ⟨f, rfl⟩ : ∃ k, f = k + 1 := ⟨f - 1, by omega⟩
    have hr := rgt_to key M left h2.ok h2.post e2 (fun a ha => g4 a (by rw [e1]; simp [ha])) g3 (by omega)
    exact ⟨left - M.length, by omega, sk_at S lv key f _ ⟨left - M.length, 0, (fnd S key (ch (lv + 0)) : Int), S (fnd S key (ch (lv + 0)))⟩ path rfl hr.symm rfl g1.ok.lv⟩
  | n + 1, A, l, c, B, left, f, path, h1, h2, h3, h4, h5 => by
    obtain ⟨A', l', B', g1, g2, g3, g4⟩ := (T.lvl _ h1).find key hk
    obtain ⟨M, e1, e2⟩ := pos_ahead h2 g1 h3 g4 g3 g2
    have hM : M.length ≤ B.length := by have := congrArg List.length e2; simp only [List.length_cons, List.length_append] at this; omega
    obtain ⟨f, rfl⟩ : ∃ k, f = k + 1 := ⟨f - 1, by omega⟩
    have hr := rgt_to key M left h2.ok h2.post e2 (fun a ha => g4 a (by rw [e1]; simp [ha])) g3 (by omega)
    obtain ⟨i, e, A2, d, B2, k1, k2, k3, k4, k5, k6⟩ := T.down (L := lv + n) (by omega) g1 g2
    have hlen : (ch (lv + n)).length = A2.length + (B2.length + 1) := by rw [k4.eq]; simp
    have hb : belw ch (lv + (n + 1)) = belw ch (lv + n) + (ch (lv + n)).length := rfl
    have hd : d < 256 := T.bnd (lv + n) d (by omega) (by rw [k4.eq]; simp)
    have hbl := blw_to (S := S) (left := left - M.length) g1.ok.lv k2 k5 k6 hd k4.ok.lv (by omega)
    obtain ⟨left', hl', hs⟩ := T.sk2 key hk lv n A2 e.key d B2 (left - M.length - 1) f (path ++ [((fnd S key (ch (lv + (n + 1))) : Int), S (fnd S key (ch (lv + (n + 1)))))]) (by omega) k4 k3 (by omega) (by omega)
    refine ⟨left', by omega, ?_⟩
    rw [sk_go S lv key f _ _ path rfl hr.symm rfl (by rw [g1.ok.lv]; omega)]
    dsimp only
    rw [k1, hbl, hs, List.append_assoc]
    rfl
theorem way_two (S : Sf) (ch : Nat → List Nat) (key : By) : ∀ n L, n + 1 ≤ L → ∃ Q, way S ch key L (n + 1) = Q ++ [((fnd S key (ch (L - n)) : Int), S (fnd S key (ch (L - n)))), ((fnd S key (ch (L - (n + 1))) : Int), S (fnd S key (ch (L - (n + 1)))))]
  | 0, L, _ => ⟨[], rfl⟩
  | n + 1, L, h => by
    obtain ⟨Q, hQ⟩ := way_two S ch key n (L - 1) (by omega)
    refine ⟨((fnd S key (ch L) : Int), S (fnd S key (ch L))) :: Q, ?_⟩
    show ((fnd S key (ch L) : Int), S (fnd S key (ch L))) :: way S ch key (L - 1) (n + 1) = _
    rw [hQ, show L - 1 - n = L - (n + 1) by omega, show L - 1 - (n + 1) = L - (n + 1 + 1) by omega]
    rfl
end
section
variable {S S' : Sf} {l : List Ent} {ps : List Du} {next top : Nat} {ch : Nat → List Nat}
/-- How many nodes there are. -/
theorem Wg.total (h : Wg S l ps next top ch) : belw ch (top + 1) ≤ 253 := by
  have h1 : (0 :: 1 :: 2 :: pags ch top).Nodup := by
    have hp : ∀ p, p ∈ pags ch top → 3 ≤ p := fun p hp => by
      obtain ⟨K, hK, hm⟩ := mem_pags.1 hp
      rcases h.pg K p hK hm with g | g <;> omega
    refine List.nodup_cons.2 ⟨fun g => ?_, List.nodup_cons.2 ⟨fun g => ?_, List.nodup_cons.2 ⟨fun g => ?_, h.tree.dist _ (Nat.le_refl _)⟩⟩⟩
    · simp at g; have := hp 0 g; omega
    · simp at g; have := hp 1 g; omega
    · have := hp 2 g; omega
  have h2 := nodup_len 256 _ h1 (fun x hx => by
    simp only [List.mem_cons] at hx
    rcases hx with rfl | rfl | rfl | hx
    · omega
    · omega
    · omega
    · obtain ⟨K, hK, hm⟩ := mem_pags.1 hx
      exact h.tree.bnd K x hK hm)
  rw [← pags_len]
  simp only [List.length_cons] at h2
  omega
theorem Wg.seek (h : Wg S l ps next top ch) (key : By) (hk : le low key = true) (lv : Nat) (hlv : lv ≤ top) : ∃ left', 1 ≤ left' ∧ Bk.seek S 256 3 lv key = (left', 0, way S ch key top (top - lv)) := by
  have ht := h.four
  have h1 := h.tree.pos
  have hf := h.total
  rw [belw, h.tree.root, List.length_singleton] at hf
  have e : lv + (top - lv) = top := by omega
  obtain ⟨left', hl', hs⟩ := h.tree.sk2 key hk lv (top - lv) [] low 3 [] 255 300 [] (by omega) (by rw [e]; exact h1) hk (by rw [e]; simp; omega) (by omega)
  refine ⟨left', by rw [e] at hl'; simp at hl'; omega, ?_⟩
  unfold Bk.seek
  rw [vis_succ, at_page _ (by omega) (by omega)]
  dsimp only
  rw [e] at hs
  exact hs
/-- A tree with one level: nothing to take out; a higher one: the last two of the way. -/
theorem Wg.last2 (h : Wg S l ps next top ch) (key : By) (hk : key.length = 9) :
    (top = 0 → shrR S 3 key = (13, [], 0)) ∧ (1 ≤ top → ∃ left, 1 ≤ left ∧ shrR S 3 key = shr2 S left key (fnd S key (ch 0)) (S (fnd S key (ch 0))) (fnd S key (ch 1)) (S (fnd S key (ch 1)))) := by
  obtain ⟨left', h1, h2⟩ := h.seek key (low_le _ hk) 0 (Nat.zero_le _)
  have h2' : Bk.seek S 256 3 0 key = (left', 0, way S ch key top (top - 0)) := h2
  unfold shrR
  rw [h2']
  dsimp only
  rw [if_pos rfl, Nat.sub_zero]
  constructor
  · rintro rfl
    rfl
  · intro ht
    obtain ⟨n, rfl⟩ : ∃ n, top = n + 1 := ⟨top - 1, by omega⟩
    obtain ⟨Q, hQ⟩ := way_two S ch key n (n + 1) (Nat.le_refl _)
    refine ⟨left', h1, ?_⟩
    rw [hQ, List.reverse_append, show n + 1 - n = 1 by omega, Nat.sub_self]
    rfl
end
end Go.Proofs.Yteiiogaopgfpfaa.Bk
end

-- joined
section
namespace Go.Proofs.Yteiiogaopgfpfaa.Bk
open Nt Nd
set_option linter.unusedVariables false
set_option linter.unusedSimpArgs false
set_option linter.unusedSectionVars false
theorem erase_mid {l : List Ent} {i : Nat} {e : Ent} (h : l[i]? = some e) : ∃ a b, l = a ++ e :: b ∧ l.eraseIdx i = a ++ b ∧ a.length = i := by
  obtain ⟨hi, he⟩ := List.getElem?_eq_some_iff.1 h
  refine ⟨l.take i, l.drop (i + 1), ?_, List.eraseIdx_eq_take_drop_succ .., by rw [List.length_take]; omega⟩
  rw [← he, ← List.drop_eq_getElem_cons hi, List.take_append_drop]
/-- A leaf whose High and Right are another leaf's, behind it. -/
theorem ok_join {t : Int} {l m : By} {n k : Nod} (h : Ok t 0 l n) (hh : n.has = true) (hm : n.high = m) (h2 : Ok t 0 m k) : Ok t 0 l { n with has := k.has, high := k.high, right := k.right } := by
  have hg := (fits_good h.ft).1
  have hg2 := (fits_good h2.ft).1
  have h6 := (fits_good h.ft).2
  unfold sizeN at h6
  have hlen := fits_len h.ft
  have hmk : k.has = true → lt m k.high = true := h2.hi
  have hlm : lt l m = true := by rw [← hm]; exact h.hi hh
  refine ⟨h.tr, h.lv, ?_, h.lo, fun hk => lt_trans _ _ _ hlm (hmk hk), h2.rt, h2.nr, fun hL => by omega⟩
  unfold fitsB
  rw [Bool.and_eq_true]
  constructor
  · have q1 := hg
    have q2 := hg2
    unfold Nd.goodB at q1 q2 ⊢
    simp only [Bool.and_eq_true] at q1 q2 ⊢
    obtain ⟨⟨⟨⟨⟨a1, a2⟩, a3⟩, a4⟩, a5⟩, a6⟩ := q1
    obtain ⟨⟨⟨⟨⟨b1, b2⟩, b3⟩, b4⟩, b5⟩, b6⟩ := q2
    refine ⟨⟨⟨⟨⟨a1, a2⟩, a3⟩, b4⟩, b5⟩, ?_⟩
    unfold gList
    rw [decide_eq_true (show n.list.length ≤ 100 by omega), Bool.true_and]
    refine gTo_of (n := { n with has := k.has, high := k.high, right := k.right }) (show Srt n.list from good_srt hg) (fun e he => ⟨?_, good_gEnt hg e he⟩) _
    show (!k.has || lt e.key k.high) = true
    cases hk : k.has with
    | false => rfl
    | true =>
      have := ok_lt h hh e he
      rw [hm] at this
      rw [lt_trans _ _ _ this (hmk hk)]
      rfl
  · apply decide_eq_true
    show 20 + sizeL n.list ≤ 252
    exact h6
section
variable {S S' : Sf} {l : List Ent} {ps : List Du} {next top : Nat} {ch : Nat → List Nat}
theorem Wg.shrink (h : Wg S l [] next top ch) (key : By) (hk : key.length = 9) :
    shrR S 3 key = (13, [], 0) ∨ ∃ (c d pa : Nat) (n' na' : Nod) (ps' : List Nat), shrR S 3 key = (0, [((d : Int), n'), ((pa : Int), na')], (c : Int)) ∧ 0 < c ∧ c < 256 ∧ (d < 256 ∧ pa < 256 ∧ n'.list.length ≤ 99999 ∧ na'.list.length ≤ 99999) ∧ ps'.length + 1 = (ch 0).length ∧
      Wg (up (up (up S d n') pa na') c Nod.none) l [] next top (up ch 0 ps') := by
  have ht := h.four
  obtain ⟨z1, z2⟩ := h.last2 key hk
  rcases Nat.eq_zero_or_pos top with h0 | h0
  · exact Or.inl (z1 h0)
  obtain ⟨left, hleft, hz⟩ := z2 h0
  rw [hz]
  have hcm := h.at0 key hk 0 (Nat.zero_le _)
  have hpm := h.at0 key hk 1 h0
  obtain ⟨A0, l0, B0, hpc, c1, c2, c3⟩ := (h.tree.lvl 0 (Nat.zero_le _)).find key (low_le _ hk)
  obtain ⟨A1, l1, B1, hpp, p1, p2, p3⟩ := (h.tree.lvl 1 h0).find key (low_le _ hk)
  generalize fnd S key (ch 0) = c at *
  generalize fnd S key (ch 1) = pa at *
  have hcb := h.tree.bnd 0 c (Nat.zero_le _) hcm
  have hpb := h.tree.bnd 1 pa h0 hpm
  have hg := (fits_good hpp.ok.ft).1
  unfold shr2
  by_cases e1 : 0 < (S c).list.length
  · rw [if_pos e1]; exact Or.inl rfl
  rw [if_neg e1]
  have hce : (S c).list = [] := List.length_eq_zero_iff.1 (by omega)
  rcases lastLe_or (S pa).list key _ (Nat.le_refl _) with ⟨q1, -⟩ | ⟨i, e, q1, q2, q3, q4, q5⟩
  · rw [q1, if_pos (by omega)]; exact Or.inl rfl
  rw [q1]
  by_cases e2 : (i : Int) < 1
  · rw [if_pos e2]; exact Or.inl rfl
  rw [if_neg e2, Int.toNat_natCast, q3]
  dsimp only
  by_cases e3 : (childL e.val : Int) ≠ (c : Int)
  · rw [if_pos e3]; exact Or.inl rfl
  rw [if_neg e3]
  have e3' : childL e.val = c := by omega
  -- the entry ahead
  obtain ⟨i, rfl⟩ : ∃ k, i = k + 1 := ⟨i - 1, by omega⟩
  have q6 : (S pa).list[i]? = some ((S pa).list[i]'(by omega)) := List.getElem?_eq_getElem (by omega)
  generalize hf : (S pa).list[i]'(by omega) = f at q6
  have hfm : f ∈ (S pa).list := List.mem_of_getElem? q6
  obtain ⟨A, d, B, k1, k2⟩ := h.tree.lead 0 (by omega) pa hpm f hfm
  have hdm := k1.mem
  have hdb := h.tree.bnd 0 d (Nat.zero_le _) hdm
  have hlvl : (S pa).level = ((0 + 1 : Nat) : Int) := hpp.ok.lv
  rw [show ((i + 1 : Nat) : Int) - 1 = (i : Int) by omega, blw_to (S := S) (left := left) hlvl q6 k2 (good_two hg (by rw [hlvl]; decide) f hfm) hdb k1.ok.lv hleft]
  dsimp only
  rw [if_pos rfl]
  by_cases e4 : (S d).right ≠ (c : Int)
  · rw [if_pos e4]; exact Or.inl rfl
  rw [if_neg e4]
  have e4' : (S d).right = (c : Int) := by omega
  have hc3 : 3 ≤ c := by rcases h.pg 0 c (Nat.zero_le _) hcm with g | g <;> omega
  -- d stands ahead of c
  have hdh : (S d).has = true := by
    cases g : (S d).has with
    | true => rfl
    | false => have := k1.ok.nr g; omega
  obtain ⟨B', rfl⟩ : ∃ B', B = c :: B' := by
    have hpost := k1.post
    rw [hiN_has hdh, e4', Int.toNat_natCast] at hpost
    cases B with
    | nil => cases hpost.1
    | cons b B' => obtain ⟨g, -⟩ := hpost; exact ⟨B', by rw [g]⟩
  have hpost := k1.post
  rw [hiN_has hdh, e4', Int.toNat_natCast] at hpost
  obtain ⟨-, ⟨lc, ec, okc⟩, post2⟩ := hpost
  have ec' : (S d).high = lc := by cases ec; rfl
  have hnd := h.tree.nod 0 (Nat.zero_le _)
  have heq := k1.eq
  have hcd : c ≠ d := fun g => by
    rw [heq] at hnd
    exact (nodup_mid hnd).2 (by simp [g])
  obtain ⟨a, b, m1, m2, m3⟩ := erase_mid q3
  rw [m2]
  have hpa0 : pa ∉ ch 0 := fun g => by have := h.tree.dis 1 0 pa h0 (Nat.zero_le _) hpm g; omega
  have hpd : pa ≠ d := fun g => hpa0 (by rw [g]; exact hdm)
  have hpc' : pa ≠ c := fun g => hpa0 (by rw [g]; exact hcm)
  have hlenp := fits_len hpp.ok.ft
  -- the node above
  have hsub : ∀ x, x ∈ a ++ b → x ∈ (S pa).list := fun x hx => by
    rw [m1]
    rcases List.mem_append.1 hx with hx | hx
    · exact List.mem_append_left _ hx
    · exact List.mem_append_right _ (List.mem_cons_of_mem _ hx)
  have okp : Ok 2 1 l1 { S pa with list := a ++ b } := by
    refine ⟨hpp.ok.tr, hpp.ok.lv, ?_, fun x hx => hpp.ok.lo x (hsub x hx), hpp.ok.hi, hpp.ok.rt, hpp.ok.nr, fun _ => ?_⟩
    · unfold fitsB
      have hl : (a ++ b).length ≤ (S pa).list.length := by rw [m1]; simp
      have hs : Srt (a ++ b) := (good_srt hg).sublist (by rw [m1]; exact (List.Sublist.refl a).append (List.sublist_cons_self e b))
      rw [good_list hg _ (by omega) hs (fun y hy => ⟨good_cov hg y (hsub y hy), good_gEnt hg y (hsub y hy)⟩), Bool.true_and]
      apply decide_eq_true
      have h6 := (fits_good hpp.ok.ft).2
      unfold sizeN at h6 ⊢
      dsimp only
      rw [m1, sizeL_app, sizeL] at h6
      rw [sizeL_app]
      omega
    · obtain ⟨e0, r0, g1, g2⟩ := hpp.ok.fst (by omega)
      cases a with
      | nil => simp at m3
      | cons x a =>
        rw [m1] at g1
        obtain ⟨g3, -⟩ := List.cons.inj g1
        exact ⟨x, a ++ b, rfl, by rw [g3]; exact g2⟩
  have T1 := h.tree.put h0 hpp (n := { S pa with list := a ++ b }) okp rfl rfl (fun K hK x hx => by
    obtain rfl : K = 0 := by omega
    exact h.tree.lead 0 (by omega) pa hpm x (hsub x hx))
  have k3 : Pos (up S pa { S pa with list := a ++ b }) 2 0 (ch 0) A f.key d (c :: B') := k1.congr fun x hx => up_other _ _ _ _ fun g => hpa0 (by rw [← g]; exact hx)
  -- what leads to c was taken away
  have hpm0 := h.pm 0 h0
  have hdu0 : dues [] 0 = [] := rfl
  rw [hdu0, List.append_nil] at hpm0
  have hd1 := h.tree.nod 1 h0
  have hkd : (c :: kids (lists (up S pa { S pa with list := a ++ b }) (ch 1))).Perm (kids (lists S (ch 1))) := by
    obtain ⟨A4, B4, e4⟩ := List.append_of_mem hpm
    rw [e4] at hd1 ⊢
    rw [lists_mid hd1, lists_app, lists_cons, m1]
    simp only [kids_app]
    unfold kids
    rw [List.map_cons, e3']
    simp only [List.append_assoc, List.cons_append]
    have := List.perm_middle (l₁ := List.map (fun e => childL e.val) (lists S A4) ++ List.map (fun e => childL e.val) a) (a := c) (l₂ := List.map (fun e => childL e.val) b ++ List.map (fun e => childL e.val) (lists S B4))
    simp only [List.append_assoc] at this
    exact this.symm
  have hcn : c ∉ kids (lists (up S pa { S pa with list := a ++ b }) (ch 1)) := by
    have g := (hkd.trans hpm0).nodup_iff.2 hnd
    exact (List.nodup_cons.1 g).1
  -- the leaf ahead
  have okd := ok_join k1.ok hdh ec' okc
  have hSd : up S pa { S pa with list := a ++ b } d = S d := up_other _ _ _ _ (fun g => hpd g.symm)
  have hSc : up S pa { S pa with list := a ++ b } c = S c := up_other _ _ _ _ (fun g => hpc' g.symm)
  have e5 : up (up (up S d { S d with has := (S c).has, high := (S c).high, right := (S c).right }) pa { S pa with list := a ++ b }) c Nod.none d = { S d with has := (S c).has, high := (S c).high, right := (S c).right } := by
    rw [up_other _ _ _ _ (fun g => hcd g.symm), up_other _ _ _ _ (fun g => hpd g.symm), up_same]
  have eo : ∀ p, p ≠ d → p ≠ c → up (up (up S d { S d with has := (S c).has, high := (S c).high, right := (S c).right }) pa { S pa with list := a ++ b }) c Nod.none p = up S pa { S pa with list := a ++ b } p := fun p g1 g2 => by
    rw [up_other _ _ _ _ g2]
    by_cases g3 : p = pa
    · rw [g3, up_same, up_same]
    · rw [up_other _ _ _ _ g3, up_other _ _ _ _ g1, up_other _ _ _ _ g3]
  have ecn : up (up (up S d { S d with has := (S c).has, high := (S c).high, right := (S c).right }) pa { S pa with list := a ++ b }) c Nod.none c = Nod.none := up_same ..
  have T2 := T1.cut (S' := up (up (up S d { S d with has := (S c).has, high := (S c).high, right := (S c).right }) pa { S pa with list := a ++ b }) c Nod.none) k3 (fun _ x hx y hy g => hcn (by
    unfold kids
    exact List.mem_map.2 ⟨y, Wk.mem_lists hx y hy, g⟩)) (n := { S d with has := (S c).has, high := (S c).high, right := (S c).right }) okd (by rw [hSc]; rfl) (by rw [hSc]) e5 eo
  refine Or.inr ⟨c, d, pa, _, _, A ++ d :: B', rfl, by omega, hcb, ⟨hdb, hpb, (show (S d).list.length ≤ 99999 from by have := fits_len k1.ok.ft; omega), (show (a ++ b).length ≤ 99999 from by have := congrArg List.length m1; simp only [List.length_append, List.length_cons] at this ⊢; omega)⟩, by rw [heq]; simp; omega, ?_⟩
  generalize up (up (up S d { S d with has := (S c).has, high := (S c).high, right := (S c).right }) pa { S pa with list := a ++ b }) c Nod.none = S2 at *
  have hnew : ∀ p, p ∈ A ++ d :: B' ↔ p ∈ ch 0 ∧ p ≠ c := fun p => by
    rw [heq] at hnd ⊢
    have n1 : c ∉ A := fun g => by
      rw [List.nodup_append] at hnd
      exact hnd.2.2 c g c (by simp) rfl
    have n2 : c ∉ B' := by
      rw [List.nodup_append, List.nodup_cons, List.nodup_cons] at hnd
      exact hnd.2.1.2.1
    simp only [List.mem_append, List.mem_cons]
    constructor
    · rintro (g | g | g)
      · exact ⟨Or.inl g, fun e => n1 (by rw [← e]; exact g)⟩
      · exact ⟨Or.inr (Or.inl g), fun e => hcd (by rw [← e, g])⟩
      · exact ⟨Or.inr (Or.inr (Or.inr g)), fun e => n2 (by rw [← e]; exact g)⟩
    · rintro ⟨g | g | g | g, g2⟩
      · exact Or.inl g
      · exact Or.inr (Or.inl g)
      · exact absurd g g2
      · exact Or.inr (Or.inr g)
  have hup : ∀ K, 1 ≤ K → K ≤ top → ∀ p, p ∈ ch K → S2 p = up S pa { S pa with list := a ++ b } p := fun K hK1 hK p hp => eo p (fun g => by
      have := h.tree.dis K 0 p hK (Nat.zero_le _) hp (by rw [g]; exact hdm)
      omega) (fun g => by
      have := h.tree.dis K 0 p hK (Nat.zero_le _) hp (by rw [g]; exact hcm)
      omega)
  have hup2 : ∀ K, 2 ≤ K → K ≤ top → ∀ p, p ∈ ch K → S2 p = S p := fun K hK1 hK p hp => by
    rw [hup K (by omega) hK p hp]
    exact up_other _ _ _ _ fun g => by
      have := h.tree.dis K 1 p hK h0 hp (by rw [g]; exact hpm)
      omega
  have chK : ∀ K, 1 ≤ K → up ch 0 (A ++ d :: B') K = ch K := fun K hK => up_other _ _ _ _ (by omega)
  refine ⟨T2, ?_, h.v59, fun K p hK hpm' => ?_, h.nx, fun p hp' => ?_, (fun x hx => by cases hx), fun L hL => ?_, fun L hL2 hL x hx => ?_, fun ht2 => ?_⟩
  · rw [up_same, ← h.row, heq, lists_app, lists_cons, lists_app, lists_cons, lists_cons, hce, List.nil_append, e5]
    have sm : ∀ p, p ∈ A ++ d :: B' → p ≠ d → S2 p = S p := fun p hp hne => by
      obtain ⟨g1, g2⟩ := (hnew p).1 hp
      rw [eo p hne g2]
      exact up_other _ _ _ _ fun g => hpa0 (by rw [← g]; exact g1)
    rw [heq] at hnd
    obtain ⟨n1, n2⟩ := nodup_mid hnd
    rw [lists_out (S' := S2) (S := S) (ps := A) (fun p hp => sm p (by simp [hp]) (fun g => n1 (by rw [← g]; exact hp))), lists_out (S' := S2) (S := S) (ps := B') (fun p hp => sm p (by simp [hp]) (fun g => n2 (by rw [← g]; simp [hp])))]
  · by_cases hK0 : K = 0
    · subst hK0
      rw [up_same] at hpm'
      exact h.pg 0 p hK ((hnew p).1 hpm').1
    · rw [chK K (by omega)] at hpm'
      exact h.pg K p hK hpm'
  · by_cases hpc2 : p = c
    · rw [hpc2, ecn]
    · have hp0 := hp' 0 (Nat.zero_le _)
      rw [up_same] at hp0
      have hnot : ∀ K, K ≤ top → p ∉ ch K := fun K hK g => by
        by_cases hK0 : K = 0
        · subst hK0
          exact hp0 ((hnew p).2 ⟨g, hpc2⟩)
        · have := hp' K hK
          rw [chK K (by omega)] at this
          exact this g
      rw [eo p (fun g => hnot 0 (Nat.zero_le _) (by rw [g]; exact hdm)) hpc2, up_other _ _ _ _ (fun g => hnot 1 h0 (by rw [g]; exact hpm))]
      exact h.out p hnot
  · by_cases hL0 : L = 0
    · subst hL0
      rw [chK (0 + 1) (by omega), up_same, hdu0, List.append_nil, lists_out (hup 1 (by omega) h0)]
      have g1 := hkd.trans hpm0
      rw [heq] at g1
      have g2 : (A ++ d :: c :: B').Perm (c :: (A ++ d :: B')) := by
        have := List.perm_middle (l₁ := A ++ [d]) (a := c) (l₂ := B')
        simpa using this
      exact (g1.trans g2).cons_inv
    · rw [chK (L + 1) (by omega), chK L (by omega), lists_out (hup2 (L + 1) (by omega) (by omega))]
      exact h.pm L hL
  · rw [chK L (by omega)] at hx
    rw [hup2 L hL2 (by omega) x hx]
    exact h.mn L hL2 hL x hx
  · rw [hup2 top ht2 (Nat.le_refl _) 3 (by rw [h.tree.root]; simp)]
    exact h.m2 ht2
end
end Go.Proofs.Yteiiogaopgfpfaa.Bk
end
